/-
  Exact laws walked, over the contracts of what they call.
-/
import Derived.Test.YtieaaombakmojaaHelp
import Derived.Test.YtieaaombakmojaaEncW
import Derived.Test.YtieaaombakmojaaEq
namespace Go.Proofs.Ytieaaombakmojaa.LawEnc
open Go.ChangeShapes Go.WideShapes Go.ChangeAt Go.RowKit
open Go.Proofs.Ytieaaombakmojaa.Seq Go.Proofs.Ytieaaombakmojaa.Help

set_option maxRecDepth 100000 in
theorem exactAppendBytes (w : World) (vB : Value) (adB : Option Addr) (nB capB : Nat) (iaB : Kit.IntsAt .u8 w vB adB nB capB) (vData : Value) (adData : Option Addr) (nData capData : Nat) (iaData : Kit.IntsAt .u8 w vData adData nData capData) :
    Calls Try.prog 7 #[vB, vData] w fun e w' => e = .returned (.bool true) ∧ Below w.heap.size w w' := by
  obtain ⟨xsB, rfl, sB⟩ := of_ints iaB
  clear iaB
  obtain ⟨xsData, rfl, sData⟩ := of_ints iaData
  clear iaData
  rcases Nat.lt_or_ge 1048576 nB with bigB | bigB
  · go_enter Try.func7, Try.ntmps7
    go_wp2
    go_ret
    exact ⟨rfl, Below.refl _ _⟩
  rcases Nat.lt_or_ge 1048576 nData with bigData | bigData
  · go_enter Try.func7, Try.ntmps7
    go_wp2
    go_ret
    exact ⟨rfl, Below.refl _ _⟩
  have cS := fun (w' : World) (lB hB : Nat) (adB : Option Addr) (nB capB : Nat) (sB : Sl w' lB hB .u8 adB nB capB xsB) (hnB : nB ≤ 1048576) (lData hData : Nat) (adData : Option Addr) (nData capData : Nat) (sData : Sl w' lData hData .u8 adData nData capData xsData) (hnData : nData ≤ 1048576) => (fun w' s h s2 h2 => EncW.spec_apb w' s h s2 h2) w' sB (by omega) sData (by omega)
  have cI := fun (w' : World) (lB hB : Nat) (adB : Option Addr) (nB capB : Nat) (sB : Sl w' lB hB .u8 adB nB capB xsB) (hnB : nB ≤ 1048576) (lData hData : Nat) (adData : Option Addr) (nData capData : Nat) (sData : Sl w' lData hData .u8 adData nData capData xsData) (hnData : nData ≤ 1048576) => (fun w' s h s2 h2 => EncW.impl_apb w' s h s2 h2) w' sB (by omega) sData (by omega)
  have hlen : (Enc.apb xsB xsData).length ≤ 17592186044416 := by have := Enc.apb_len xsB xsData; have := sB.len; have := sData.len; omega
  generalize hR : Enc.apb xsB xsData = R at cS cI hlen
  clear hR
  have HS := Lib.hid cS
  have HI := Lib.hid cI
  clear cS cI
  have frm := Below.refl w.heap.size w
  go_enter Try.func7, Try.ntmps7
  go_wp2_with fail
  go_at_call 28
  refine (toB _ sB (by omega)).mono ?_
  rintro e w1 ⟨ad1, n1, cap1, rfl, r1, bl⟩
  have z1 := bl.size
  replace sB := sB.below bl (by omega)
  replace sData := sData.below bl (by omega)
  replace frm := frm.trans (bl.mono (by omega))
  clear bl
  have q1 : n1 ≤ 1048576 := by have h1 := r1.len; have h2 := sB.len; omega
  go_wp2_with fail
  go_at_call 28
  refine (toB _ sData (by omega)).mono ?_
  rintro e w2 ⟨ad2, n2, cap2, rfl, r2, bl⟩
  have z2 := bl.size
  replace sB := sB.below bl (by omega)
  replace sData := sData.below bl (by omega)
  replace r1 := r1.below bl (by omega)
  replace frm := frm.trans (bl.mono (by omega))
  clear bl
  have q2 : n2 ≤ 1048576 := by have h1 := r2.len; have h2 := sData.len; omega
  go_wp2_with fail
  go_at_call 32
  refine (HS.out _ _ _ _ _ _ r1.sl (by omega)  _ _ _ _ _ r2.sl (by omega)).mono ?_
  rintro e w3 ⟨ad3, n3, cap3, rfl, r3, bl⟩
  have z3 := bl.size
  replace sB := sB.below bl (by omega)
  replace sData := sData.below bl (by omega)
  replace frm := frm.trans (bl.mono (by omega))
  clear bl
  have q3 : n3 ≤ 17592186044416 := by have h1 := r3.len; omega
  clear r1
  clear r2
  go_wp2_with fail
  go_at_call 28
  refine (toB _ sB (by omega)).mono ?_
  rintro e w4 ⟨ad4, n4, cap4, rfl, r4, bl⟩
  have z4 := bl.size
  replace sB := sB.below bl (by omega)
  replace sData := sData.below bl (by omega)
  replace r3 := r3.below bl (by omega)
  replace frm := frm.trans (bl.mono (by omega))
  clear bl
  have q4 : n4 ≤ 1048576 := by have h1 := r4.len; have h2 := sB.len; omega
  go_wp2_with fail
  go_at_call 28
  refine (toB _ sData (by omega)).mono ?_
  rintro e w5 ⟨ad5, n5, cap5, rfl, r5, bl⟩
  have z5 := bl.size
  replace sB := sB.below bl (by omega)
  replace sData := sData.below bl (by omega)
  replace r3 := r3.below bl (by omega)
  replace r4 := r4.below bl (by omega)
  replace frm := frm.trans (bl.mono (by omega))
  clear bl
  have q5 : n5 ≤ 1048576 := by have h1 := r5.len; have h2 := sData.len; omega
  go_wp2_with fail
  go_at_call 21
  refine (HI.out _ _ _ _ _ _ r4.sl (by omega)  _ _ _ _ _ r5.sl (by omega)).mono ?_
  rintro e w6 ⟨ad6, n6, cap6, rfl, r6, bl⟩
  have z6 := bl.size
  replace sB := sB.below bl (by omega)
  replace sData := sData.below bl (by omega)
  replace r3 := r3.below bl (by omega)
  replace r4 := r4.below bl (by omega)
  replace r5 := r5.below bl (by omega)
  replace frm := frm.trans (bl.mono (by omega))
  clear bl
  have q6 : n6 ≤ 17592186044416 := by have h1 := r6.len; omega
  go_wp2_with fail
  go_at_call 29
  refine (eqB _ r6.sl r3.sl (by omega) rfl).mono ?_
  rintro e w7 ⟨rfl, bl⟩
  have z7 := bl.size
  replace sB := sB.below bl (by omega)
  replace sData := sData.below bl (by omega)
  replace r3 := r3.below bl (by omega)
  replace r4 := r4.below bl (by omega)
  replace r5 := r5.below bl (by omega)
  replace r6 := r6.below bl (by omega)
  replace frm := frm.trans (bl.mono (by omega))
  clear bl
  go_wp2_with fail
  go_at_call 28
  refine (toB _ sB (by omega)).mono ?_
  rintro e w8 ⟨ad8, n8, cap8, rfl, r8, bl⟩
  have z8 := bl.size
  replace sB := sB.below bl (by omega)
  replace sData := sData.below bl (by omega)
  replace r3 := r3.below bl (by omega)
  replace r4 := r4.below bl (by omega)
  replace r5 := r5.below bl (by omega)
  replace r6 := r6.below bl (by omega)
  replace frm := frm.trans (bl.mono (by omega))
  clear bl
  have q8 : n8 ≤ 1048576 := by have h1 := r8.len; have h2 := sB.len; omega
  go_wp2_with fail
  go_at_call 29
  refine (eqB _ r4.sl r8.sl (by omega) rfl).mono ?_
  rintro e w9 ⟨rfl, bl⟩
  have z9 := bl.size
  replace sB := sB.below bl (by omega)
  replace sData := sData.below bl (by omega)
  replace r3 := r3.below bl (by omega)
  replace r4 := r4.below bl (by omega)
  replace r5 := r5.below bl (by omega)
  replace r6 := r6.below bl (by omega)
  replace frm := frm.trans (bl.mono (by omega))
  clear bl
  clear r8
  go_wp2_with fail
  go_at_call 28
  refine (toB _ sData (by omega)).mono ?_
  rintro e w10 ⟨ad10, n10, cap10, rfl, r10, bl⟩
  have z10 := bl.size
  replace sB := sB.below bl (by omega)
  replace sData := sData.below bl (by omega)
  replace r3 := r3.below bl (by omega)
  replace r4 := r4.below bl (by omega)
  replace r5 := r5.below bl (by omega)
  replace r6 := r6.below bl (by omega)
  replace frm := frm.trans (bl.mono (by omega))
  clear bl
  have q10 : n10 ≤ 1048576 := by have h1 := r10.len; have h2 := sData.len; omega
  go_wp2_with fail
  go_at_call 29
  refine (eqB _ r5.sl r10.sl (by omega) rfl).mono ?_
  rintro e w11 ⟨rfl, bl⟩
  have z11 := bl.size
  replace sB := sB.below bl (by omega)
  replace sData := sData.below bl (by omega)
  replace r3 := r3.below bl (by omega)
  replace r4 := r4.below bl (by omega)
  replace r5 := r5.below bl (by omega)
  replace r6 := r6.below bl (by omega)
  replace frm := frm.trans (bl.mono (by omega))
  clear bl
  clear r10
  go_wp2_with fail
  go_at_call 30
  refine (markB _ r4 (by omega) 1 (by omega) (by omega)).mono ?_
  rintro e w13 ⟨rfl, new, mv⟩
  have z13 := mv.size
  replace sB := sB.mv mv (by omega)
  replace sData := sData.mv mv (by omega)
  replace r3 := r3.mv mv (by omega)
  replace r5 := r5.mv mv (by omega)
  replace r6 := r6.mv mv (by omega)
  replace frm := frm.trans (mv.below (by omega) (by omega))
  clear new mv
  clear r4
  go_wp2_with fail
  go_at_call 30
  refine (markB _ r5 (by omega) (1 + (n4 : Int)) (by omega) (by omega)).mono ?_
  rintro e w14 ⟨rfl, new, mv⟩
  have z14 := mv.size
  replace sB := sB.mv mv (by omega)
  replace sData := sData.mv mv (by omega)
  replace r3 := r3.mv mv (by omega)
  replace r6 := r6.mv mv (by omega)
  replace frm := frm.trans (mv.below (by omega) (by omega))
  clear new mv
  clear r5
  go_wp2_with fail
  go_at_call 29
  refine (eqB _ r6.sl r3.sl (by omega) rfl).mono ?_
  rintro e w15 ⟨rfl, bl⟩
  have z15 := bl.size
  replace sB := sB.below bl (by omega)
  replace sData := sData.below bl (by omega)
  replace r3 := r3.below bl (by omega)
  replace r6 := r6.below bl (by omega)
  replace frm := frm.trans (bl.mono (by omega))
  clear bl
  go_wp2_with fail
  go_at_call 30
  refine (markB _ r6 (by omega) 1 (by omega) (by omega)).mono ?_
  rintro e w17 ⟨rfl, new, mv⟩
  have z17 := mv.size
  replace sB := sB.mv mv (by omega)
  replace sData := sData.mv mv (by omega)
  replace r3 := r3.mv mv (by omega)
  replace frm := frm.trans (mv.below (by omega) (by omega))
  have r6m := new
  clear new mv
  go_wp2_with fail
  go_at_call 31
  refine (heldB _ 1 r6m.sl (by omega) (by omega) (by omega)).mono ?_
  rintro e w19 ⟨rfl, bl⟩
  have z19 := bl.size
  replace sB := sB.below bl (by omega)
  replace sData := sData.below bl (by omega)
  replace r3 := r3.below bl (by omega)
  replace r6m := r6m.below bl (by omega)
  replace frm := frm.trans (bl.mono (by omega))
  clear bl
  go_wp2_with fail
  go_at_call 28
  refine (toB _ sB (by omega)).mono ?_
  rintro e w20 ⟨ad20, n20, cap20, rfl, r20, bl⟩
  have z20 := bl.size
  replace sData := sData.below bl (by omega)
  replace r3 := r3.below bl (by omega)
  replace r6m := r6m.below bl (by omega)
  replace frm := frm.trans (bl.mono (by omega))
  clear bl
  have q20 : n20 ≤ 1048576 := by have h1 := r20.len; have h2 := sB.len; omega
  go_wp2_with fail
  go_at_call 28
  refine (toB _ sData (by omega)).mono ?_
  rintro e w21 ⟨ad21, n21, cap21, rfl, r21, bl⟩
  have z21 := bl.size
  replace r3 := r3.below bl (by omega)
  replace r6m := r6m.below bl (by omega)
  replace r20 := r20.below bl (by omega)
  replace frm := frm.trans (bl.mono (by omega))
  clear bl
  have q21 : n21 ≤ 1048576 := by have h1 := r21.len; have h2 := sData.len; omega
  go_wp2_with fail
  go_at_call 21
  refine (HI.out _ _ _ _ _ _ r20.sl (by omega)  _ _ _ _ _ r21.sl (by omega)).mono ?_
  rintro e w22 ⟨ad22, n22, cap22, rfl, r22, bl⟩
  have z22 := bl.size
  replace r3 := r3.below bl (by omega)
  replace r6m := r6m.below bl (by omega)
  replace frm := frm.trans (bl.mono (by omega))
  clear bl
  have q22 : n22 ≤ 17592186044416 := by have h1 := r22.len; omega
  clear r20
  clear r21
  go_wp2_with fail
  go_at_call 29
  refine (eqB _ r22.sl r3.sl (by omega) rfl).mono ?_
  rintro e w23 ⟨rfl, bl⟩
  have z23 := bl.size
  replace r6m := r6m.below bl (by omega)
  replace frm := frm.trans (bl.mono (by omega))
  clear bl
  clear r3
  clear r22
  go_wp2_with fail
  go_at_call 31
  refine (heldB _ 1 r6m.sl (by omega) (by omega) (by omega)).mono ?_
  rintro e w25 ⟨rfl, bl⟩
  have z25 := bl.size
  replace frm := frm.trans (bl.mono (by omega))
  clear bl
  clear r6m
  go_wp2
  go_ret
  exact ⟨rfl, frm⟩

set_option maxRecDepth 100000 in
theorem exactReadBytes (w : World) (vB : Value) (adB : Option Addr) (nB capB : Nat) (iaB : Kit.IntsAt .u8 w vB adB nB capB) (aOffset : Int) (wfOffset : (Lit.int .i64 aOffset).wf = true) (aMaxLen : Int) (wfMaxLen : (Lit.int .i64 aMaxLen).wf = true) :
    Calls Try.prog 8 #[vB, .int .i64 aOffset, .int .i64 aMaxLen] w fun e w' => e = .returned (.bool true) ∧ Below w.heap.size w w' := by
  obtain ⟨xsB, rfl, sB⟩ := of_ints iaB
  clear iaB
  obtain ⟨loOffset, hiOffset⟩ := fits_i64.1 wfOffset
  clear wfOffset
  obtain ⟨loMaxLen, hiMaxLen⟩ := fits_i64.1 wfMaxLen
  clear wfMaxLen
  rcases Nat.lt_or_ge 1048576 nB with bigB | bigB
  · go_enter Try.func8, Try.ntmps8
    go_wp2
    go_ret
    exact ⟨rfl, Below.refl _ _⟩
  have cS := fun (w' : World) (lB hB : Nat) (adB : Option Addr) (nB capB : Nat) (sB : Sl w' lB hB .u8 adB nB capB xsB) (hnB : nB ≤ 1048576) => (fun w' s h => EncW.spec_rdb w' s h) w' sB (by omega) aOffset loOffset hiOffset aMaxLen loMaxLen hiMaxLen
  have cI := fun (w' : World) (lB hB : Nat) (adB : Option Addr) (nB capB : Nat) (sB : Sl w' lB hB .u8 adB nB capB xsB) (hnB : nB ≤ 1048576) => (fun w' s h => EncW.impl_rdb w' s h) w' sB (by omega) aOffset loOffset hiOffset aMaxLen loMaxLen hiMaxLen
  have hlen : (Enc.rdb xsB aOffset aMaxLen).1.length ≤ 17592186044416 := by have := Enc.rdb_len xsB aOffset aMaxLen; have := sB.len; omega
  generalize hR : Enc.rdb xsB aOffset aMaxLen = R at cS cI hlen
  clear hR
  obtain ⟨R0, R1, R2⟩ := R
  try dsimp only [Three] at cS cI hlen
  have HS := Lib.hid cS
  have HI := Lib.hid cI
  clear cS cI
  have frm := Below.refl w.heap.size w
  go_enter Try.func8, Try.ntmps8
  go_wp2_with fail
  go_at_call 28
  refine (toB _ sB (by omega)).mono ?_
  rintro e w1 ⟨ad1, n1, cap1, rfl, r1, bl⟩
  have z1 := bl.size
  replace sB := sB.below bl (by omega)
  replace frm := frm.trans (bl.mono (by omega))
  clear bl
  have q1 : n1 ≤ 1048576 := by have h1 := r1.len; have h2 := sB.len; omega
  go_wp2_with fail
  go_at_call 33
  refine (HS.out _ _ _ _ _ _ r1.sl (by omega)).mono ?_
  rintro e w2 ⟨ad2, n2, cap2, rfl, r2, bl⟩
  have z2 := bl.size
  replace sB := sB.below bl (by omega)
  replace frm := frm.trans (bl.mono (by omega))
  clear bl
  have q2 : n2 ≤ 17592186044416 := by have h1 := r2.len; omega
  clear r1
  go_wp2_with fail
  go_at_call 28
  refine (toB _ sB (by omega)).mono ?_
  rintro e w3 ⟨ad3, n3, cap3, rfl, r3, bl⟩
  have z3 := bl.size
  replace sB := sB.below bl (by omega)
  replace r2 := r2.below bl (by omega)
  replace frm := frm.trans (bl.mono (by omega))
  clear bl
  have q3 : n3 ≤ 1048576 := by have h1 := r3.len; have h2 := sB.len; omega
  go_wp2_with fail
  go_at_call 22
  refine (HI.out _ _ _ _ _ _ r3.sl (by omega)).mono ?_
  rintro e w4 ⟨ad4, n4, cap4, rfl, r4, bl⟩
  have z4 := bl.size
  replace sB := sB.below bl (by omega)
  replace r2 := r2.below bl (by omega)
  replace r3 := r3.below bl (by omega)
  replace frm := frm.trans (bl.mono (by omega))
  clear bl
  have q4 : n4 ≤ 17592186044416 := by have h1 := r4.len; omega
  go_wp2_with fail
  go_at_call 29
  refine (eqB _ r4.sl r2.sl (by omega) rfl).mono ?_
  rintro e w5 ⟨rfl, bl⟩
  have z5 := bl.size
  replace sB := sB.below bl (by omega)
  replace r2 := r2.below bl (by omega)
  replace r3 := r3.below bl (by omega)
  replace r4 := r4.below bl (by omega)
  replace frm := frm.trans (bl.mono (by omega))
  clear bl
  go_wp2_with fail
  go_at_call 28
  refine (toB _ sB (by omega)).mono ?_
  rintro e w6 ⟨ad6, n6, cap6, rfl, r6, bl⟩
  have z6 := bl.size
  replace sB := sB.below bl (by omega)
  replace r2 := r2.below bl (by omega)
  replace r3 := r3.below bl (by omega)
  replace r4 := r4.below bl (by omega)
  replace frm := frm.trans (bl.mono (by omega))
  clear bl
  have q6 : n6 ≤ 1048576 := by have h1 := r6.len; have h2 := sB.len; omega
  go_wp2_with fail
  go_at_call 29
  refine (eqB _ r3.sl r6.sl (by omega) rfl).mono ?_
  rintro e w7 ⟨rfl, bl⟩
  have z7 := bl.size
  replace sB := sB.below bl (by omega)
  replace r2 := r2.below bl (by omega)
  replace r3 := r3.below bl (by omega)
  replace r4 := r4.below bl (by omega)
  replace frm := frm.trans (bl.mono (by omega))
  clear bl
  clear r6
  go_wp2_with fail
  go_at_call 30
  refine (markB _ r3 (by omega) 1 (by omega) (by omega)).mono ?_
  rintro e w9 ⟨rfl, new, mv⟩
  have z9 := mv.size
  replace sB := sB.mv mv (by omega)
  replace r2 := r2.mv mv (by omega)
  replace r4 := r4.mv mv (by omega)
  replace frm := frm.trans (mv.below (by omega) (by omega))
  clear new mv
  clear r3
  go_wp2_with fail
  go_at_call 29
  refine (eqB _ r4.sl r2.sl (by omega) rfl).mono ?_
  rintro e w10 ⟨rfl, bl⟩
  have z10 := bl.size
  replace sB := sB.below bl (by omega)
  replace r2 := r2.below bl (by omega)
  replace r4 := r4.below bl (by omega)
  replace frm := frm.trans (bl.mono (by omega))
  clear bl
  go_wp2_with fail
  go_at_call 30
  refine (markB _ r4 (by omega) 1 (by omega) (by omega)).mono ?_
  rintro e w12 ⟨rfl, new, mv⟩
  have z12 := mv.size
  replace sB := sB.mv mv (by omega)
  replace r2 := r2.mv mv (by omega)
  replace frm := frm.trans (mv.below (by omega) (by omega))
  have r4m := new
  clear new mv
  go_wp2_with fail
  go_at_call 31
  refine (heldB _ 1 r4m.sl (by omega) (by omega) (by omega)).mono ?_
  rintro e w14 ⟨rfl, bl⟩
  have z14 := bl.size
  replace sB := sB.below bl (by omega)
  replace r2 := r2.below bl (by omega)
  replace r4m := r4m.below bl (by omega)
  replace frm := frm.trans (bl.mono (by omega))
  clear bl
  go_wp2_with fail
  go_at_call 28
  refine (toB _ sB (by omega)).mono ?_
  rintro e w15 ⟨ad15, n15, cap15, rfl, r15, bl⟩
  have z15 := bl.size
  replace r2 := r2.below bl (by omega)
  replace r4m := r4m.below bl (by omega)
  replace frm := frm.trans (bl.mono (by omega))
  clear bl
  have q15 : n15 ≤ 1048576 := by have h1 := r15.len; have h2 := sB.len; omega
  go_wp2_with fail
  go_at_call 22
  refine (HI.out _ _ _ _ _ _ r15.sl (by omega)).mono ?_
  rintro e w16 ⟨ad16, n16, cap16, rfl, r16, bl⟩
  have z16 := bl.size
  replace r2 := r2.below bl (by omega)
  replace r4m := r4m.below bl (by omega)
  replace frm := frm.trans (bl.mono (by omega))
  clear bl
  have q16 : n16 ≤ 17592186044416 := by have h1 := r16.len; omega
  clear r15
  go_wp2_with fail
  go_at_call 29
  refine (eqB _ r16.sl r2.sl (by omega) rfl).mono ?_
  rintro e w17 ⟨rfl, bl⟩
  have z17 := bl.size
  replace r4m := r4m.below bl (by omega)
  replace frm := frm.trans (bl.mono (by omega))
  clear bl
  clear r2
  clear r16
  go_wp2_with fail
  go_at_call 31
  refine (heldB _ 1 r4m.sl (by omega) (by omega) (by omega)).mono ?_
  rintro e w19 ⟨rfl, bl⟩
  have z19 := bl.size
  replace frm := frm.trans (bl.mono (by omega))
  clear bl
  clear r4m
  go_wp2
  go_ret
  exact ⟨rfl, frm⟩

set_option maxRecDepth 100000 in
theorem exactEncodeInts (w : World) (vValues : Value) (adValues : Option Addr) (nValues capValues : Nat) (iaValues : Kit.IntsAt .i64 w vValues adValues nValues capValues) :
    Calls Try.prog 9 #[vValues] w fun e w' => e = .returned (.bool true) ∧ Below w.heap.size w w' := by
  obtain ⟨xsValues, rfl, sValues⟩ := of_ints iaValues
  clear iaValues
  rcases Nat.lt_or_ge 1048576 nValues with bigValues | bigValues
  · go_enter Try.func9, Try.ntmps9
    go_wp2
    go_ret
    exact ⟨rfl, Below.refl _ _⟩
  have cS := fun (w' : World) (lValues hValues : Nat) (adValues : Option Addr) (nValues capValues : Nat) (sValues : Sl w' lValues hValues .i64 adValues nValues capValues xsValues) (hnValues : nValues ≤ 1048576) => EncW.spec_enc w' sValues (by omega)
  have cI := fun (w' : World) (lValues hValues : Nat) (adValues : Option Addr) (nValues capValues : Nat) (sValues : Sl w' lValues hValues .i64 adValues nValues capValues xsValues) (hnValues : nValues ≤ 1048576) => EncW.impl_enc w' sValues (by omega)
  have hlen : (Enc.enc xsValues).length ≤ 17592186044416 := by have := Enc.enc_len xsValues; have := sValues.len; omega
  generalize hR : Enc.enc xsValues = R at cS cI hlen
  clear hR
  have HS := Lib.hid cS
  have HI := Lib.hid cI
  clear cS cI
  have frm := Below.refl w.heap.size w
  go_enter Try.func9, Try.ntmps9
  go_wp2_with fail
  go_at_call 35
  refine (toI _ sValues (by omega)).mono ?_
  rintro e w1 ⟨ad1, n1, cap1, rfl, r1, bl⟩
  have z1 := bl.size
  replace sValues := sValues.below bl (by omega)
  replace frm := frm.trans (bl.mono (by omega))
  clear bl
  have q1 : n1 ≤ 1048576 := by have h1 := r1.len; have h2 := sValues.len; omega
  go_wp2_with fail
  go_at_call 34
  refine (HS.out _ _ _ _ _ _ r1.sl (by omega)).mono ?_
  rintro e w2 ⟨ad2, n2, cap2, rfl, r2, bl⟩
  have z2 := bl.size
  replace sValues := sValues.below bl (by omega)
  replace frm := frm.trans (bl.mono (by omega))
  clear bl
  have q2 : n2 ≤ 17592186044416 := by have h1 := r2.len; omega
  clear r1
  go_wp2_with fail
  go_at_call 35
  refine (toI _ sValues (by omega)).mono ?_
  rintro e w3 ⟨ad3, n3, cap3, rfl, r3, bl⟩
  have z3 := bl.size
  replace sValues := sValues.below bl (by omega)
  replace r2 := r2.below bl (by omega)
  replace frm := frm.trans (bl.mono (by omega))
  clear bl
  have q3 : n3 ≤ 1048576 := by have h1 := r3.len; have h2 := sValues.len; omega
  go_wp2_with fail
  go_at_call 24
  refine (HI.out _ _ _ _ _ _ r3.sl (by omega)).mono ?_
  rintro e w4 ⟨ad4, n4, cap4, rfl, r4, bl⟩
  have z4 := bl.size
  replace sValues := sValues.below bl (by omega)
  replace r2 := r2.below bl (by omega)
  replace r3 := r3.below bl (by omega)
  replace frm := frm.trans (bl.mono (by omega))
  clear bl
  have q4 : n4 ≤ 17592186044416 := by have h1 := r4.len; omega
  go_wp2_with fail
  go_at_call 29
  refine (eqB _ r4.sl r2.sl (by omega) rfl).mono ?_
  rintro e w5 ⟨rfl, bl⟩
  have z5 := bl.size
  replace sValues := sValues.below bl (by omega)
  replace r2 := r2.below bl (by omega)
  replace r3 := r3.below bl (by omega)
  replace r4 := r4.below bl (by omega)
  replace frm := frm.trans (bl.mono (by omega))
  clear bl
  go_wp2_with fail
  go_at_call 35
  refine (toI _ sValues (by omega)).mono ?_
  rintro e w6 ⟨ad6, n6, cap6, rfl, r6, bl⟩
  have z6 := bl.size
  replace sValues := sValues.below bl (by omega)
  replace r2 := r2.below bl (by omega)
  replace r3 := r3.below bl (by omega)
  replace r4 := r4.below bl (by omega)
  replace frm := frm.trans (bl.mono (by omega))
  clear bl
  have q6 : n6 ≤ 1048576 := by have h1 := r6.len; have h2 := sValues.len; omega
  go_wp2_with fail
  go_at_call 36
  refine (eqI _ r3.sl r6.sl (by omega) rfl).mono ?_
  rintro e w7 ⟨rfl, bl⟩
  have z7 := bl.size
  replace sValues := sValues.below bl (by omega)
  replace r2 := r2.below bl (by omega)
  replace r3 := r3.below bl (by omega)
  replace r4 := r4.below bl (by omega)
  replace frm := frm.trans (bl.mono (by omega))
  clear bl
  clear r6
  go_wp2_with fail
  go_at_call 37
  refine (markI _ r3 (by omega) 1 (by omega) (by omega)).mono ?_
  rintro e w9 ⟨rfl, new, mv⟩
  have z9 := mv.size
  replace sValues := sValues.mv mv (by omega)
  replace r2 := r2.mv mv (by omega)
  replace r4 := r4.mv mv (by omega)
  replace frm := frm.trans (mv.below (by omega) (by omega))
  clear new mv
  clear r3
  go_wp2_with fail
  go_at_call 29
  refine (eqB _ r4.sl r2.sl (by omega) rfl).mono ?_
  rintro e w10 ⟨rfl, bl⟩
  have z10 := bl.size
  replace sValues := sValues.below bl (by omega)
  replace r2 := r2.below bl (by omega)
  replace r4 := r4.below bl (by omega)
  replace frm := frm.trans (bl.mono (by omega))
  clear bl
  go_wp2_with fail
  go_at_call 30
  refine (markB _ r4 (by omega) 1 (by omega) (by omega)).mono ?_
  rintro e w12 ⟨rfl, new, mv⟩
  have z12 := mv.size
  replace sValues := sValues.mv mv (by omega)
  replace r2 := r2.mv mv (by omega)
  replace frm := frm.trans (mv.below (by omega) (by omega))
  have r4m := new
  clear new mv
  go_wp2_with fail
  go_at_call 31
  refine (heldB _ 1 r4m.sl (by omega) (by omega) (by omega)).mono ?_
  rintro e w14 ⟨rfl, bl⟩
  have z14 := bl.size
  replace sValues := sValues.below bl (by omega)
  replace r2 := r2.below bl (by omega)
  replace r4m := r4m.below bl (by omega)
  replace frm := frm.trans (bl.mono (by omega))
  clear bl
  go_wp2_with fail
  go_at_call 35
  refine (toI _ sValues (by omega)).mono ?_
  rintro e w15 ⟨ad15, n15, cap15, rfl, r15, bl⟩
  have z15 := bl.size
  replace r2 := r2.below bl (by omega)
  replace r4m := r4m.below bl (by omega)
  replace frm := frm.trans (bl.mono (by omega))
  clear bl
  have q15 : n15 ≤ 1048576 := by have h1 := r15.len; have h2 := sValues.len; omega
  go_wp2_with fail
  go_at_call 24
  refine (HI.out _ _ _ _ _ _ r15.sl (by omega)).mono ?_
  rintro e w16 ⟨ad16, n16, cap16, rfl, r16, bl⟩
  have z16 := bl.size
  replace r2 := r2.below bl (by omega)
  replace r4m := r4m.below bl (by omega)
  replace frm := frm.trans (bl.mono (by omega))
  clear bl
  have q16 : n16 ≤ 17592186044416 := by have h1 := r16.len; omega
  clear r15
  go_wp2_with fail
  go_at_call 29
  refine (eqB _ r16.sl r2.sl (by omega) rfl).mono ?_
  rintro e w17 ⟨rfl, bl⟩
  have z17 := bl.size
  replace r4m := r4m.below bl (by omega)
  replace frm := frm.trans (bl.mono (by omega))
  clear bl
  clear r2
  clear r16
  go_wp2_with fail
  go_at_call 31
  refine (heldB _ 1 r4m.sl (by omega) (by omega) (by omega)).mono ?_
  rintro e w19 ⟨rfl, bl⟩
  have z19 := bl.size
  replace frm := frm.trans (bl.mono (by omega))
  clear bl
  clear r4m
  go_wp2
  go_ret
  exact ⟨rfl, frm⟩

set_option maxRecDepth 100000 in
theorem exactDecodeInts (w : World) (vB : Value) (adB : Option Addr) (nB capB : Nat) (iaB : Kit.IntsAt .u8 w vB adB nB capB) (aOffset : Int) (wfOffset : (Lit.int .i64 aOffset).wf = true) (aCount : Int) (wfCount : (Lit.int .i64 aCount).wf = true) :
    Calls Try.prog 10 #[vB, .int .i64 aOffset, .int .i64 aCount] w fun e w' => e = .returned (.bool true) ∧ Below w.heap.size w w' := by
  obtain ⟨xsB, rfl, sB⟩ := of_ints iaB
  clear iaB
  obtain ⟨loOffset, hiOffset⟩ := fits_i64.1 wfOffset
  clear wfOffset
  obtain ⟨loCount, hiCount⟩ := fits_i64.1 wfCount
  clear wfCount
  rcases Nat.lt_or_ge 1048576 nB with bigB | bigB
  · go_enter Try.func10, Try.ntmps10
    go_wp2
    go_ret
    exact ⟨rfl, Below.refl _ _⟩
  have cS := fun (w' : World) (lB hB : Nat) (adB : Option Addr) (nB capB : Nat) (sB : Sl w' lB hB .u8 adB nB capB xsB) (hnB : nB ≤ 1048576) => (fun w' s h => EncW.spec_dec w' s h) w' sB (by omega) aOffset loOffset hiOffset aCount loCount hiCount
  have cI := fun (w' : World) (lB hB : Nat) (adB : Option Addr) (nB capB : Nat) (sB : Sl w' lB hB .u8 adB nB capB xsB) (hnB : nB ≤ 1048576) => (fun w' s h => EncW.impl_dec w' s h) w' sB (by omega) aOffset loOffset hiOffset aCount loCount hiCount
  have hlen : (Enc.dec xsB aOffset aCount).1.length ≤ 17592186044416 := by have := Enc.dec_len xsB aOffset aCount; omega
  generalize hR : Enc.dec xsB aOffset aCount = R at cS cI hlen
  clear hR
  obtain ⟨R0, R1, R2⟩ := R
  try dsimp only [Three] at cS cI hlen
  have HS := Lib.hid cS
  have HI := Lib.hid cI
  clear cS cI
  have frm := Below.refl w.heap.size w
  go_enter Try.func10, Try.ntmps10
  go_wp2_with fail
  go_at_call 28
  refine (toB _ sB (by omega)).mono ?_
  rintro e w1 ⟨ad1, n1, cap1, rfl, r1, bl⟩
  have z1 := bl.size
  replace sB := sB.below bl (by omega)
  replace frm := frm.trans (bl.mono (by omega))
  clear bl
  have q1 : n1 ≤ 1048576 := by have h1 := r1.len; have h2 := sB.len; omega
  go_wp2_with fail
  go_at_call 38
  refine (HS.out _ _ _ _ _ _ r1.sl (by omega)).mono ?_
  rintro e w2 ⟨ad2, n2, cap2, rfl, r2, bl⟩
  have z2 := bl.size
  replace sB := sB.below bl (by omega)
  replace frm := frm.trans (bl.mono (by omega))
  clear bl
  have q2 : n2 ≤ 17592186044416 := by have h1 := r2.len; omega
  clear r1
  go_wp2_with fail
  go_at_call 28
  refine (toB _ sB (by omega)).mono ?_
  rintro e w3 ⟨ad3, n3, cap3, rfl, r3, bl⟩
  have z3 := bl.size
  replace sB := sB.below bl (by omega)
  replace r2 := r2.below bl (by omega)
  replace frm := frm.trans (bl.mono (by omega))
  clear bl
  have q3 : n3 ≤ 1048576 := by have h1 := r3.len; have h2 := sB.len; omega
  go_wp2_with fail
  go_at_call 25
  refine (HI.out _ _ _ _ _ _ r3.sl (by omega)).mono ?_
  rintro e w4 ⟨ad4, n4, cap4, rfl, r4, bl⟩
  have z4 := bl.size
  replace sB := sB.below bl (by omega)
  replace r2 := r2.below bl (by omega)
  replace r3 := r3.below bl (by omega)
  replace frm := frm.trans (bl.mono (by omega))
  clear bl
  have q4 : n4 ≤ 17592186044416 := by have h1 := r4.len; omega
  go_wp2_with fail
  go_at_call 36
  refine (eqI _ r4.sl r2.sl (by omega) rfl).mono ?_
  rintro e w5 ⟨rfl, bl⟩
  have z5 := bl.size
  replace sB := sB.below bl (by omega)
  replace r2 := r2.below bl (by omega)
  replace r3 := r3.below bl (by omega)
  replace r4 := r4.below bl (by omega)
  replace frm := frm.trans (bl.mono (by omega))
  clear bl
  go_wp2_with fail
  go_at_call 28
  refine (toB _ sB (by omega)).mono ?_
  rintro e w6 ⟨ad6, n6, cap6, rfl, r6, bl⟩
  have z6 := bl.size
  replace sB := sB.below bl (by omega)
  replace r2 := r2.below bl (by omega)
  replace r3 := r3.below bl (by omega)
  replace r4 := r4.below bl (by omega)
  replace frm := frm.trans (bl.mono (by omega))
  clear bl
  have q6 : n6 ≤ 1048576 := by have h1 := r6.len; have h2 := sB.len; omega
  go_wp2_with fail
  go_at_call 29
  refine (eqB _ r3.sl r6.sl (by omega) rfl).mono ?_
  rintro e w7 ⟨rfl, bl⟩
  have z7 := bl.size
  replace sB := sB.below bl (by omega)
  replace r2 := r2.below bl (by omega)
  replace r3 := r3.below bl (by omega)
  replace r4 := r4.below bl (by omega)
  replace frm := frm.trans (bl.mono (by omega))
  clear bl
  clear r6
  go_wp2_with fail
  go_at_call 30
  refine (markB _ r3 (by omega) 1 (by omega) (by omega)).mono ?_
  rintro e w9 ⟨rfl, new, mv⟩
  have z9 := mv.size
  replace sB := sB.mv mv (by omega)
  replace r2 := r2.mv mv (by omega)
  replace r4 := r4.mv mv (by omega)
  replace frm := frm.trans (mv.below (by omega) (by omega))
  clear new mv
  clear r3
  go_wp2_with fail
  go_at_call 36
  refine (eqI _ r4.sl r2.sl (by omega) rfl).mono ?_
  rintro e w10 ⟨rfl, bl⟩
  have z10 := bl.size
  replace sB := sB.below bl (by omega)
  replace r2 := r2.below bl (by omega)
  replace r4 := r4.below bl (by omega)
  replace frm := frm.trans (bl.mono (by omega))
  clear bl
  go_wp2_with fail
  go_at_call 37
  refine (markI _ r4 (by omega) 1 (by omega) (by omega)).mono ?_
  rintro e w12 ⟨rfl, new, mv⟩
  have z12 := mv.size
  replace sB := sB.mv mv (by omega)
  replace r2 := r2.mv mv (by omega)
  replace frm := frm.trans (mv.below (by omega) (by omega))
  have r4m := new
  clear new mv
  go_wp2_with fail
  go_at_call 39
  refine (heldI _ 1 r4m.sl (by omega) (by omega) (by omega)).mono ?_
  rintro e w14 ⟨rfl, bl⟩
  have z14 := bl.size
  replace sB := sB.below bl (by omega)
  replace r2 := r2.below bl (by omega)
  replace r4m := r4m.below bl (by omega)
  replace frm := frm.trans (bl.mono (by omega))
  clear bl
  go_wp2_with fail
  go_at_call 28
  refine (toB _ sB (by omega)).mono ?_
  rintro e w15 ⟨ad15, n15, cap15, rfl, r15, bl⟩
  have z15 := bl.size
  replace r2 := r2.below bl (by omega)
  replace r4m := r4m.below bl (by omega)
  replace frm := frm.trans (bl.mono (by omega))
  clear bl
  have q15 : n15 ≤ 1048576 := by have h1 := r15.len; have h2 := sB.len; omega
  go_wp2_with fail
  go_at_call 25
  refine (HI.out _ _ _ _ _ _ r15.sl (by omega)).mono ?_
  rintro e w16 ⟨ad16, n16, cap16, rfl, r16, bl⟩
  have z16 := bl.size
  replace r2 := r2.below bl (by omega)
  replace r4m := r4m.below bl (by omega)
  replace frm := frm.trans (bl.mono (by omega))
  clear bl
  have q16 : n16 ≤ 17592186044416 := by have h1 := r16.len; omega
  clear r15
  go_wp2_with fail
  go_at_call 36
  refine (eqI _ r16.sl r2.sl (by omega) rfl).mono ?_
  rintro e w17 ⟨rfl, bl⟩
  have z17 := bl.size
  replace r4m := r4m.below bl (by omega)
  replace frm := frm.trans (bl.mono (by omega))
  clear bl
  clear r2
  clear r16
  go_wp2_with fail
  go_at_call 39
  refine (heldI _ 1 r4m.sl (by omega) (by omega) (by omega)).mono ?_
  rintro e w19 ⟨rfl, bl⟩
  have z19 := bl.size
  replace frm := frm.trans (bl.mono (by omega))
  clear bl
  clear r4m
  go_wp2
  go_ret
  exact ⟨rfl, frm⟩

set_option maxRecDepth 100000 in
theorem exactEqualBytes (w : World) (vA : Value) (adA : Option Addr) (nA capA : Nat) (iaA : Kit.IntsAt .u8 w vA adA nA capA) (vB : Value) (adB : Option Addr) (nB capB : Nat) (iaB : Kit.IntsAt .u8 w vB adB nB capB) :
    Calls Try.prog 11 #[vA, vB] w fun e w' => e = .returned (.bool true) ∧ Below w.heap.size w w' := by
  obtain ⟨xsA, rfl, sA⟩ := of_ints iaA
  clear iaA
  obtain ⟨xsB, rfl, sB⟩ := of_ints iaB
  clear iaB
  rcases Nat.lt_or_ge 1048576 nA with bigA | bigA
  · go_enter Try.func11, Try.ntmps11
    go_wp2
    go_ret
    exact ⟨rfl, Below.refl _ _⟩
  rcases Nat.lt_or_ge 1048576 nB with bigB | bigB
  · go_enter Try.func11, Try.ntmps11
    go_wp2
    go_ret
    exact ⟨rfl, Below.refl _ _⟩
  have cS := fun (w' : World) (lA hA : Nat) (adA : Option Addr) (nA capA : Nat) (sA : Sl w' lA hA .u8 adA nA capA xsA) (hnA : nA ≤ 1048576) (lB hB : Nat) (adB : Option Addr) (nB capB : Nat) (sB : Sl w' lB hB .u8 adB nB capB xsB) (hnB : nB ≤ 1048576) => (fun w' s _ s2 _ => Eq.spec_eqB w' s s2) w' sA (by omega) sB (by omega)
  have cI := fun (w' : World) (lA hA : Nat) (adA : Option Addr) (nA capA : Nat) (sA : Sl w' lA hA .u8 adA nA capA xsA) (hnA : nA ≤ 1048576) (lB hB : Nat) (adB : Option Addr) (nB capB : Nat) (sB : Sl w' lB hB .u8 adB nB capB xsB) (hnB : nB ≤ 1048576) => (fun w' s _ s2 _ => Eq.impl_eqB w' s s2) w' sA (by omega) sB (by omega)
  generalize hR : Eq.same xsA xsB = R at cS cI
  clear hR
  have HS := Lib.hid cS
  have HI := Lib.hid cI
  clear cS cI
  have frm := Below.refl w.heap.size w
  go_enter Try.func11, Try.ntmps11
  go_wp2_with fail
  go_at_call 28
  refine (toB _ sA (by omega)).mono ?_
  rintro e w1 ⟨ad1, n1, cap1, rfl, r1, bl⟩
  have z1 := bl.size
  replace sA := sA.below bl (by omega)
  replace sB := sB.below bl (by omega)
  replace frm := frm.trans (bl.mono (by omega))
  clear bl
  have q1 : n1 ≤ 1048576 := by have h1 := r1.len; have h2 := sA.len; omega
  go_wp2_with fail
  go_at_call 28
  refine (toB _ sB (by omega)).mono ?_
  rintro e w2 ⟨ad2, n2, cap2, rfl, r2, bl⟩
  have z2 := bl.size
  replace sA := sA.below bl (by omega)
  replace sB := sB.below bl (by omega)
  replace r1 := r1.below bl (by omega)
  replace frm := frm.trans (bl.mono (by omega))
  clear bl
  have q2 : n2 ≤ 1048576 := by have h1 := r2.len; have h2 := sB.len; omega
  go_wp2_with fail
  go_at_call 40
  refine (HS.out _ _ _ _ _ _ r1.sl (by omega)  _ _ _ _ _ r2.sl (by omega)).mono ?_
  rintro e w3 ⟨rfl, bl⟩
  have z3 := bl.size
  replace sA := sA.below bl (by omega)
  replace sB := sB.below bl (by omega)
  replace frm := frm.trans (bl.mono (by omega))
  clear bl
  clear r1
  clear r2
  go_wp2_with fail
  go_at_call 28
  refine (toB _ sA (by omega)).mono ?_
  rintro e w4 ⟨ad4, n4, cap4, rfl, r4, bl⟩
  have z4 := bl.size
  replace sA := sA.below bl (by omega)
  replace sB := sB.below bl (by omega)
  replace frm := frm.trans (bl.mono (by omega))
  clear bl
  have q4 : n4 ≤ 1048576 := by have h1 := r4.len; have h2 := sA.len; omega
  go_wp2_with fail
  go_at_call 28
  refine (toB _ sB (by omega)).mono ?_
  rintro e w5 ⟨ad5, n5, cap5, rfl, r5, bl⟩
  have z5 := bl.size
  replace sA := sA.below bl (by omega)
  replace sB := sB.below bl (by omega)
  replace r4 := r4.below bl (by omega)
  replace frm := frm.trans (bl.mono (by omega))
  clear bl
  have q5 : n5 ≤ 1048576 := by have h1 := r5.len; have h2 := sB.len; omega
  go_wp2_with fail
  go_at_call 41
  refine (HI.out _ _ _ _ _ _ r4.sl (by omega)  _ _ _ _ _ r5.sl (by omega)).mono ?_
  rintro e w6 ⟨rfl, bl⟩
  have z6 := bl.size
  replace sA := sA.below bl (by omega)
  replace sB := sB.below bl (by omega)
  replace r4 := r4.below bl (by omega)
  replace r5 := r5.below bl (by omega)
  replace frm := frm.trans (bl.mono (by omega))
  clear bl
  go_wp2_with fail
  go_at_call 28
  refine (toB _ sA (by omega)).mono ?_
  rintro e w7 ⟨ad7, n7, cap7, rfl, r7, bl⟩
  have z7 := bl.size
  replace sB := sB.below bl (by omega)
  replace r4 := r4.below bl (by omega)
  replace r5 := r5.below bl (by omega)
  replace frm := frm.trans (bl.mono (by omega))
  clear bl
  have q7 : n7 ≤ 1048576 := by have h1 := r7.len; have h2 := sA.len; omega
  go_wp2_with fail
  go_at_call 29
  refine (eqB _ r4.sl r7.sl (by omega) rfl).mono ?_
  rintro e w8 ⟨rfl, bl⟩
  have z8 := bl.size
  replace sB := sB.below bl (by omega)
  replace r5 := r5.below bl (by omega)
  replace frm := frm.trans (bl.mono (by omega))
  clear bl
  clear r4
  clear r7
  go_wp2_with fail
  go_at_call 28
  refine (toB _ sB (by omega)).mono ?_
  rintro e w9 ⟨ad9, n9, cap9, rfl, r9, bl⟩
  have z9 := bl.size
  replace r5 := r5.below bl (by omega)
  replace frm := frm.trans (bl.mono (by omega))
  clear bl
  have q9 : n9 ≤ 1048576 := by have h1 := r9.len; have h2 := sB.len; omega
  go_wp2_with fail
  go_at_call 29
  refine (eqB _ r5.sl r9.sl (by omega) rfl).mono ?_
  rintro e w10 ⟨rfl, bl⟩
  have z10 := bl.size
  replace frm := frm.trans (bl.mono (by omega))
  clear bl
  clear r5
  clear r9
  go_wp2
  go_ret
  exact ⟨rfl, frm⟩

set_option maxRecDepth 100000 in
theorem exactEqualInts (w : World) (vA : Value) (adA : Option Addr) (nA capA : Nat) (iaA : Kit.IntsAt .i64 w vA adA nA capA) (vB : Value) (adB : Option Addr) (nB capB : Nat) (iaB : Kit.IntsAt .i64 w vB adB nB capB) :
    Calls Try.prog 12 #[vA, vB] w fun e w' => e = .returned (.bool true) ∧ Below w.heap.size w w' := by
  obtain ⟨xsA, rfl, sA⟩ := of_ints iaA
  clear iaA
  obtain ⟨xsB, rfl, sB⟩ := of_ints iaB
  clear iaB
  rcases Nat.lt_or_ge 1048576 nA with bigA | bigA
  · go_enter Try.func12, Try.ntmps12
    go_wp2
    go_ret
    exact ⟨rfl, Below.refl _ _⟩
  rcases Nat.lt_or_ge 1048576 nB with bigB | bigB
  · go_enter Try.func12, Try.ntmps12
    go_wp2
    go_ret
    exact ⟨rfl, Below.refl _ _⟩
  have cS := fun (w' : World) (lA hA : Nat) (adA : Option Addr) (nA capA : Nat) (sA : Sl w' lA hA .i64 adA nA capA xsA) (hnA : nA ≤ 1048576) (lB hB : Nat) (adB : Option Addr) (nB capB : Nat) (sB : Sl w' lB hB .i64 adB nB capB xsB) (hnB : nB ≤ 1048576) => (fun w' s h s2 _ => Eq.spec_eqI w' s s2 h) w' sA (by omega) sB (by omega)
  have cI := fun (w' : World) (lA hA : Nat) (adA : Option Addr) (nA capA : Nat) (sA : Sl w' lA hA .i64 adA nA capA xsA) (hnA : nA ≤ 1048576) (lB hB : Nat) (adB : Option Addr) (nB capB : Nat) (sB : Sl w' lB hB .i64 adB nB capB xsB) (hnB : nB ≤ 1048576) => (fun w' s h s2 _ => Eq.impl_eqI w' s s2 h) w' sA (by omega) sB (by omega)
  generalize hR : Eq.same xsA xsB = R at cS cI
  clear hR
  have HS := Lib.hid cS
  have HI := Lib.hid cI
  clear cS cI
  have frm := Below.refl w.heap.size w
  go_enter Try.func12, Try.ntmps12
  go_wp2_with fail
  go_at_call 35
  refine (toI _ sA (by omega)).mono ?_
  rintro e w1 ⟨ad1, n1, cap1, rfl, r1, bl⟩
  have z1 := bl.size
  replace sA := sA.below bl (by omega)
  replace sB := sB.below bl (by omega)
  replace frm := frm.trans (bl.mono (by omega))
  clear bl
  have q1 : n1 ≤ 1048576 := by have h1 := r1.len; have h2 := sA.len; omega
  go_wp2_with fail
  go_at_call 35
  refine (toI _ sB (by omega)).mono ?_
  rintro e w2 ⟨ad2, n2, cap2, rfl, r2, bl⟩
  have z2 := bl.size
  replace sA := sA.below bl (by omega)
  replace sB := sB.below bl (by omega)
  replace r1 := r1.below bl (by omega)
  replace frm := frm.trans (bl.mono (by omega))
  clear bl
  have q2 : n2 ≤ 1048576 := by have h1 := r2.len; have h2 := sB.len; omega
  go_wp2_with fail
  go_at_call 42
  refine (HS.out _ _ _ _ _ _ r1.sl (by omega)  _ _ _ _ _ r2.sl (by omega)).mono ?_
  rintro e w3 ⟨rfl, bl⟩
  have z3 := bl.size
  replace sA := sA.below bl (by omega)
  replace sB := sB.below bl (by omega)
  replace frm := frm.trans (bl.mono (by omega))
  clear bl
  clear r1
  clear r2
  go_wp2_with fail
  go_at_call 35
  refine (toI _ sA (by omega)).mono ?_
  rintro e w4 ⟨ad4, n4, cap4, rfl, r4, bl⟩
  have z4 := bl.size
  replace sA := sA.below bl (by omega)
  replace sB := sB.below bl (by omega)
  replace frm := frm.trans (bl.mono (by omega))
  clear bl
  have q4 : n4 ≤ 1048576 := by have h1 := r4.len; have h2 := sA.len; omega
  go_wp2_with fail
  go_at_call 35
  refine (toI _ sB (by omega)).mono ?_
  rintro e w5 ⟨ad5, n5, cap5, rfl, r5, bl⟩
  have z5 := bl.size
  replace sA := sA.below bl (by omega)
  replace sB := sB.below bl (by omega)
  replace r4 := r4.below bl (by omega)
  replace frm := frm.trans (bl.mono (by omega))
  clear bl
  have q5 : n5 ≤ 1048576 := by have h1 := r5.len; have h2 := sB.len; omega
  go_wp2_with fail
  go_at_call 43
  refine (HI.out _ _ _ _ _ _ r4.sl (by omega)  _ _ _ _ _ r5.sl (by omega)).mono ?_
  rintro e w6 ⟨rfl, bl⟩
  have z6 := bl.size
  replace sA := sA.below bl (by omega)
  replace sB := sB.below bl (by omega)
  replace r4 := r4.below bl (by omega)
  replace r5 := r5.below bl (by omega)
  replace frm := frm.trans (bl.mono (by omega))
  clear bl
  go_wp2_with fail
  go_at_call 35
  refine (toI _ sA (by omega)).mono ?_
  rintro e w7 ⟨ad7, n7, cap7, rfl, r7, bl⟩
  have z7 := bl.size
  replace sB := sB.below bl (by omega)
  replace r4 := r4.below bl (by omega)
  replace r5 := r5.below bl (by omega)
  replace frm := frm.trans (bl.mono (by omega))
  clear bl
  have q7 : n7 ≤ 1048576 := by have h1 := r7.len; have h2 := sA.len; omega
  go_wp2_with fail
  go_at_call 36
  refine (eqI _ r4.sl r7.sl (by omega) rfl).mono ?_
  rintro e w8 ⟨rfl, bl⟩
  have z8 := bl.size
  replace sB := sB.below bl (by omega)
  replace r5 := r5.below bl (by omega)
  replace frm := frm.trans (bl.mono (by omega))
  clear bl
  clear r4
  clear r7
  go_wp2_with fail
  go_at_call 35
  refine (toI _ sB (by omega)).mono ?_
  rintro e w9 ⟨ad9, n9, cap9, rfl, r9, bl⟩
  have z9 := bl.size
  replace r5 := r5.below bl (by omega)
  replace frm := frm.trans (bl.mono (by omega))
  clear bl
  have q9 : n9 ≤ 1048576 := by have h1 := r9.len; have h2 := sB.len; omega
  go_wp2_with fail
  go_at_call 36
  refine (eqI _ r5.sl r9.sl (by omega) rfl).mono ?_
  rintro e w10 ⟨rfl, bl⟩
  have z10 := bl.size
  replace frm := frm.trans (bl.mono (by omega))
  clear bl
  clear r5
  clear r9
  go_wp2
  go_ret
  exact ⟨rfl, frm⟩

end Go.Proofs.Ytieaaombakmojaa.LawEnc
