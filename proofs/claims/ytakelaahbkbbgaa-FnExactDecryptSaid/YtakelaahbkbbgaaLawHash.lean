/-
  Exact laws walked, over the contracts of what they call.
-/
import Derived.Test.YtakelaahbkbbgaaHelp
import Derived.Test.YtakelaahbkbbgaaHashW
import Derived.Test.YtakelaahbkbbgaaCiphW
namespace Go.Proofs.Ytakelaahbkbbgaa.LawHash
open Go.ChangeShapes Go.WideShapes Go.ChangeAt Go.RowKit
open Go.Proofs.Ytakelaahbkbbgaa.Seq Go.Proofs.Ytakelaahbkbbgaa.Help

set_option maxRecDepth 100000 in
theorem exactHash (w : World) (vValues : Value) (adValues : Option Addr) (nValues capValues : Nat) (iaValues : Kit.IntsAt .i64 w vValues adValues nValues capValues) :
    Calls Try.prog 5 #[vValues] w fun e w' => e = .returned (.bool true) ∧ Below w.heap.size w w' := by
  obtain ⟨xsValues, rfl, sValues⟩ := of_ints iaValues
  clear iaValues
  rcases Nat.lt_or_ge 1048576 nValues with bigValues | bigValues
  · go_enter Try.func5, Try.ntmps5
    go_wp2
    go_ret
    exact ⟨rfl, Below.refl _ _⟩
  have cS := fun (w' : World) (lValues hValues : Nat) (adValues : Option Addr) (nValues capValues : Nat) (sValues : Sl w' lValues hValues .i64 adValues nValues capValues xsValues) (hnValues : nValues ≤ 1048576) => HashW.spec_hash w' sValues (by omega)
  have cI := fun (w' : World) (lValues hValues : Nat) (adValues : Option Addr) (nValues capValues : Nat) (sValues : Sl w' lValues hValues .i64 adValues nValues capValues xsValues) (hnValues : nValues ≤ 1048576) => HashW.impl_hash w' sValues (by omega)
  generalize hR : Hash.hash xsValues = R at cS cI
  clear hR
  have HS := Lib.hid cS
  have HI := Lib.hid cI
  clear cS cI
  have frm := Below.refl w.heap.size w
  go_enter Try.func5, Try.ntmps5
  go_wp2_with fail
  go_at_call 27
  refine (toI _ sValues (by omega)).mono ?_
  rintro e w1 ⟨ad1, n1, cap1, rfl, r1, bl⟩
  have z1 := bl.size
  replace sValues := sValues.below bl (by omega)
  replace frm := frm.trans (bl.mono (by omega))
  clear bl
  have q1 : n1 ≤ 1048576 := by have h1 := r1.len; have h2 := sValues.len; omega
  go_wp2_with fail
  go_at_call 26
  refine (HS.out _ _ _ _ _ _ r1.sl (by omega)).mono ?_
  rintro e w2 ⟨rfl, bl⟩
  have z2 := bl.size
  replace sValues := sValues.below bl (by omega)
  replace frm := frm.trans (bl.mono (by omega))
  clear bl
  clear r1
  go_wp2_with fail
  go_at_call 27
  refine (toI _ sValues (by omega)).mono ?_
  rintro e w3 ⟨ad3, n3, cap3, rfl, r3, bl⟩
  have z3 := bl.size
  replace sValues := sValues.below bl (by omega)
  replace frm := frm.trans (bl.mono (by omega))
  clear bl
  have q3 : n3 ≤ 1048576 := by have h1 := r3.len; have h2 := sValues.len; omega
  go_wp2_with fail
  go_at_call 20
  refine (HI.out _ _ _ _ _ _ r3.sl (by omega)).mono ?_
  rintro e w4 ⟨rfl, bl⟩
  have z4 := bl.size
  replace sValues := sValues.below bl (by omega)
  replace r3 := r3.below bl (by omega)
  replace frm := frm.trans (bl.mono (by omega))
  clear bl
  go_wp2_with fail
  go_at_call 27
  refine (toI _ sValues (by omega)).mono ?_
  rintro e w5 ⟨ad5, n5, cap5, rfl, r5, bl⟩
  have z5 := bl.size
  replace r3 := r3.below bl (by omega)
  replace frm := frm.trans (bl.mono (by omega))
  clear bl
  have q5 : n5 ≤ 1048576 := by have h1 := r5.len; have h2 := sValues.len; omega
  go_wp2_with fail
  go_at_call 28
  refine (eqI _ r3.sl r5.sl (by omega) rfl).mono ?_
  rintro e w6 ⟨rfl, bl⟩
  have z6 := bl.size
  replace frm := frm.trans (bl.mono (by omega))
  clear bl
  clear r3
  clear r5
  go_wp2
  go_ret
  exact ⟨rfl, frm⟩

set_option maxRecDepth 100000 in
theorem exactKeyedHash (w : World) (aKey : Int) (wfKey : (Lit.int .i64 aKey).wf = true) (vValues : Value) (adValues : Option Addr) (nValues capValues : Nat) (iaValues : Kit.IntsAt .i64 w vValues adValues nValues capValues) :
    Calls Try.prog 6 #[.int .i64 aKey, vValues] w fun e w' => e = .returned (.bool true) ∧ Below w.heap.size w w' := by
  obtain ⟨loKey, hiKey⟩ := fits_i64.1 wfKey
  clear wfKey
  obtain ⟨xsValues, rfl, sValues⟩ := of_ints iaValues
  clear iaValues
  rcases Nat.lt_or_ge 1048576 nValues with bigValues | bigValues
  · go_enter Try.func6, Try.ntmps6
    go_wp2
    go_ret
    exact ⟨rfl, Below.refl _ _⟩
  have cS := fun (w' : World) (lValues hValues : Nat) (adValues : Option Addr) (nValues capValues : Nat) (sValues : Sl w' lValues hValues .i64 adValues nValues capValues xsValues) (hnValues : nValues ≤ 1048576) => (fun w' k h0 h1 s h => HashW.spec_khash w' s h k h0 h1) w' aKey loKey hiKey sValues (by omega)
  have cI := fun (w' : World) (lValues hValues : Nat) (adValues : Option Addr) (nValues capValues : Nat) (sValues : Sl w' lValues hValues .i64 adValues nValues capValues xsValues) (hnValues : nValues ≤ 1048576) => (fun w' k h0 h1 s h => HashW.impl_khash w' s h k h0 h1) w' aKey loKey hiKey sValues (by omega)
  generalize hR : Hash.khash aKey xsValues = R at cS cI
  clear hR
  have HS := Lib.hid cS
  have HI := Lib.hid cI
  clear cS cI
  have frm := Below.refl w.heap.size w
  go_enter Try.func6, Try.ntmps6
  go_wp2_with fail
  go_at_call 27
  refine (toI _ sValues (by omega)).mono ?_
  rintro e w1 ⟨ad1, n1, cap1, rfl, r1, bl⟩
  have z1 := bl.size
  replace sValues := sValues.below bl (by omega)
  replace frm := frm.trans (bl.mono (by omega))
  clear bl
  have q1 : n1 ≤ 1048576 := by have h1 := r1.len; have h2 := sValues.len; omega
  go_wp2_with fail
  go_at_call 29
  refine (HS.out _ _ _ _ _ _ r1.sl (by omega)).mono ?_
  rintro e w2 ⟨rfl, bl⟩
  have z2 := bl.size
  replace sValues := sValues.below bl (by omega)
  replace frm := frm.trans (bl.mono (by omega))
  clear bl
  clear r1
  go_wp2_with fail
  go_at_call 27
  refine (toI _ sValues (by omega)).mono ?_
  rintro e w3 ⟨ad3, n3, cap3, rfl, r3, bl⟩
  have z3 := bl.size
  replace sValues := sValues.below bl (by omega)
  replace frm := frm.trans (bl.mono (by omega))
  clear bl
  have q3 : n3 ≤ 1048576 := by have h1 := r3.len; have h2 := sValues.len; omega
  go_wp2_with fail
  go_at_call 19
  refine (HI.out _ _ _ _ _ _ r3.sl (by omega)).mono ?_
  rintro e w4 ⟨rfl, bl⟩
  have z4 := bl.size
  replace sValues := sValues.below bl (by omega)
  replace r3 := r3.below bl (by omega)
  replace frm := frm.trans (bl.mono (by omega))
  clear bl
  go_wp2_with fail
  go_at_call 27
  refine (toI _ sValues (by omega)).mono ?_
  rintro e w5 ⟨ad5, n5, cap5, rfl, r5, bl⟩
  have z5 := bl.size
  replace r3 := r3.below bl (by omega)
  replace frm := frm.trans (bl.mono (by omega))
  clear bl
  have q5 : n5 ≤ 1048576 := by have h1 := r5.len; have h2 := sValues.len; omega
  go_wp2_with fail
  go_at_call 28
  refine (eqI _ r3.sl r5.sl (by omega) rfl).mono ?_
  rintro e w6 ⟨rfl, bl⟩
  have z6 := bl.size
  replace frm := frm.trans (bl.mono (by omega))
  clear bl
  clear r3
  clear r5
  go_wp2
  go_ret
  exact ⟨rfl, frm⟩

set_option maxRecDepth 100000 in
theorem exactBytesToInts (w : World) (vB : Value) (adB : Option Addr) (nB capB : Nat) (iaB : Kit.IntsAt .u8 w vB adB nB capB) :
    Calls Try.prog 8 #[vB] w fun e w' => e = .returned (.bool true) ∧ Below w.heap.size w w' := by
  obtain ⟨xsB, rfl, sB⟩ := of_ints iaB
  clear iaB
  rcases Nat.lt_or_ge 1048576 nB with bigB | bigB
  · go_enter Try.func8, Try.ntmps8
    go_wp2
    go_ret
    exact ⟨rfl, Below.refl _ _⟩
  have cS := fun (w' : World) (lB hB : Nat) (adB : Option Addr) (nB capB : Nat) (sB : Sl w' lB hB .u8 adB nB capB xsB) (hnB : nB ≤ 1048576) => HashW.spec_b2il w' sB (by omega)
  have cI := fun (w' : World) (lB hB : Nat) (adB : Option Addr) (nB capB : Nat) (sB : Sl w' lB hB .u8 adB nB capB xsB) (hnB : nB ≤ 1048576) => HashW.impl_b2il w' sB (by omega)
  have hlen : (((xsB.length : Int) :: xsB)).length ≤ 17592186044416 := by have := sB.len; rw [List.length_cons]; omega
  generalize hR : ((xsB.length : Int) :: xsB) = R at cS cI hlen
  clear hR
  have HS := Lib.hid cS
  have HI := Lib.hid cI
  clear cS cI
  have frm := Below.refl w.heap.size w
  go_enter Try.func8, Try.ntmps8
  go_wp2_with fail
  go_at_call 32
  refine (toB _ sB (by omega)).mono ?_
  rintro e w1 ⟨ad1, n1, cap1, rfl, r1, bl⟩
  have z1 := bl.size
  replace sB := sB.below bl (by omega)
  replace frm := frm.trans (bl.mono (by omega))
  clear bl
  have q1 : n1 ≤ 1048576 := by have h1 := r1.len; have h2 := sB.len; omega
  go_wp2_with fail
  go_at_call 31
  refine (HS.out _ _ _ _ _ _ r1.sl (by omega)).mono ?_
  rintro e w2 ⟨ad2, n2, cap2, rfl, r2, bl⟩
  have z2 := bl.size
  replace sB := sB.below bl (by omega)
  replace frm := frm.trans (bl.mono (by omega))
  clear bl
  have q2 : n2 ≤ 17592186044416 := by have h1 := r2.len; omega
  clear r1
  go_wp2_with fail
  go_at_call 32
  refine (toB _ sB (by omega)).mono ?_
  rintro e w3 ⟨ad3, n3, cap3, rfl, r3, bl⟩
  have z3 := bl.size
  replace sB := sB.below bl (by omega)
  replace r2 := r2.below bl (by omega)
  replace frm := frm.trans (bl.mono (by omega))
  clear bl
  have q3 : n3 ≤ 1048576 := by have h1 := r3.len; have h2 := sB.len; omega
  go_wp2_with fail
  go_at_call 33
  refine (HI.out _ _ _ _ _ _ r3.sl (by omega)).mono ?_
  rintro e w4 ⟨ad4, n4, cap4, rfl, r4, bl⟩
  have z4 := bl.size
  replace sB := sB.below bl (by omega)
  replace r2 := r2.below bl (by omega)
  replace r3 := r3.below bl (by omega)
  replace frm := frm.trans (bl.mono (by omega))
  clear bl
  have q4 : n4 ≤ 17592186044416 := by have h1 := r4.len; omega
  go_wp2_with fail
  go_at_call 28
  refine (eqI _ r4.sl r2.sl (by omega) rfl).mono ?_
  rintro e w5 ⟨rfl, bl⟩
  have z5 := bl.size
  replace sB := sB.below bl (by omega)
  replace r2 := r2.below bl (by omega)
  replace r3 := r3.below bl (by omega)
  replace r4 := r4.below bl (by omega)
  replace frm := frm.trans (bl.mono (by omega))
  clear bl
  go_wp2_with fail
  go_at_call 32
  refine (toB _ sB (by omega)).mono ?_
  rintro e w6 ⟨ad6, n6, cap6, rfl, r6, bl⟩
  have z6 := bl.size
  replace sB := sB.below bl (by omega)
  replace r2 := r2.below bl (by omega)
  replace r3 := r3.below bl (by omega)
  replace r4 := r4.below bl (by omega)
  replace frm := frm.trans (bl.mono (by omega))
  clear bl
  have q6 : n6 ≤ 1048576 := by have h1 := r6.len; have h2 := sB.len; omega
  go_wp2_with fail
  go_at_call 34
  refine (eqB _ r3.sl r6.sl (by omega) rfl).mono ?_
  rintro e w7 ⟨rfl, bl⟩
  have z7 := bl.size
  replace sB := sB.below bl (by omega)
  replace r2 := r2.below bl (by omega)
  replace r3 := r3.below bl (by omega)
  replace r4 := r4.below bl (by omega)
  replace frm := frm.trans (bl.mono (by omega))
  clear bl
  clear r6
  go_wp2_with fail
  go_at_call 35
  refine (markB _ r3 (by omega) 1 (by omega) (by omega)).mono ?_
  rintro e w9 ⟨rfl, new, mv⟩
  have z9 := mv.size
  replace sB := sB.mv mv (by omega)
  replace r2 := r2.mv mv (by omega)
  replace r4 := r4.mv mv (by omega)
  replace frm := frm.trans (mv.below (by omega) (by omega))
  clear new mv
  clear r3
  go_wp2_with fail
  go_at_call 28
  refine (eqI _ r4.sl r2.sl (by omega) rfl).mono ?_
  rintro e w10 ⟨rfl, bl⟩
  have z10 := bl.size
  replace sB := sB.below bl (by omega)
  replace r2 := r2.below bl (by omega)
  replace r4 := r4.below bl (by omega)
  replace frm := frm.trans (bl.mono (by omega))
  clear bl
  go_wp2_with fail
  go_at_call 36
  refine (markI _ r4 (by omega) 1 (by omega) (by omega)).mono ?_
  rintro e w12 ⟨rfl, new, mv⟩
  have z12 := mv.size
  replace sB := sB.mv mv (by omega)
  replace r2 := r2.mv mv (by omega)
  replace frm := frm.trans (mv.below (by omega) (by omega))
  have r4m := new
  clear new mv
  go_wp2_with fail
  go_at_call 37
  refine (heldI _ 1 r4m.sl (by omega) (by omega) (by omega)).mono ?_
  rintro e w14 ⟨rfl, bl⟩
  have z14 := bl.size
  replace sB := sB.below bl (by omega)
  replace r2 := r2.below bl (by omega)
  replace r4m := r4m.below bl (by omega)
  replace frm := frm.trans (bl.mono (by omega))
  clear bl
  go_wp2_with fail
  go_at_call 32
  refine (toB _ sB (by omega)).mono ?_
  rintro e w15 ⟨ad15, n15, cap15, rfl, r15, bl⟩
  have z15 := bl.size
  replace r2 := r2.below bl (by omega)
  replace r4m := r4m.below bl (by omega)
  replace frm := frm.trans (bl.mono (by omega))
  clear bl
  have q15 : n15 ≤ 1048576 := by have h1 := r15.len; have h2 := sB.len; omega
  go_wp2_with fail
  go_at_call 33
  refine (HI.out _ _ _ _ _ _ r15.sl (by omega)).mono ?_
  rintro e w16 ⟨ad16, n16, cap16, rfl, r16, bl⟩
  have z16 := bl.size
  replace r2 := r2.below bl (by omega)
  replace r4m := r4m.below bl (by omega)
  replace frm := frm.trans (bl.mono (by omega))
  clear bl
  have q16 : n16 ≤ 17592186044416 := by have h1 := r16.len; omega
  clear r15
  go_wp2_with fail
  go_at_call 28
  refine (eqI _ r16.sl r2.sl (by omega) rfl).mono ?_
  rintro e w17 ⟨rfl, bl⟩
  have z17 := bl.size
  replace r4m := r4m.below bl (by omega)
  replace frm := frm.trans (bl.mono (by omega))
  clear bl
  clear r2
  clear r16
  go_wp2_with fail
  go_at_call 37
  refine (heldI _ 1 r4m.sl (by omega) (by omega) (by omega)).mono ?_
  rintro e w19 ⟨rfl, bl⟩
  have z19 := bl.size
  replace frm := frm.trans (bl.mono (by omega))
  clear bl
  clear r4m
  go_wp2
  go_ret
  exact ⟨rfl, frm⟩

set_option maxRecDepth 100000 in
theorem exactEncrypt (w : World) (aKey : Int) (wfKey : (Lit.int .i64 aKey).wf = true) (vPlaintext : Value) (adPlaintext : Option Addr) (nPlaintext capPlaintext : Nat) (iaPlaintext : Kit.IntsAt .u8 w vPlaintext adPlaintext nPlaintext capPlaintext) :
    Calls Try.prog 9 #[.int .i64 aKey, vPlaintext] w fun e w' => e = .returned (.bool true) ∧ Below w.heap.size w w' := by
  obtain ⟨loKey, hiKey⟩ := fits_i64.1 wfKey
  clear wfKey
  obtain ⟨xsPlaintext, rfl, sPlaintext⟩ := of_ints iaPlaintext
  clear iaPlaintext
  rcases Nat.lt_or_ge 1048576 nPlaintext with bigPlaintext | bigPlaintext
  · go_enter Try.func9, Try.ntmps9
    go_wp2
    go_ret
    exact ⟨rfl, Below.refl _ _⟩
  have cS := fun (w' : World) (lPlaintext hPlaintext : Nat) (adPlaintext : Option Addr) (nPlaintext capPlaintext : Nat) (sPlaintext : Sl w' lPlaintext hPlaintext .u8 adPlaintext nPlaintext capPlaintext xsPlaintext) (hnPlaintext : nPlaintext ≤ 1048576) => (fun w' k h0 h1 s h => CiphW.spec_enc w' s h k h0 h1) w' aKey loKey hiKey sPlaintext (by omega)
  have cI := fun (w' : World) (lPlaintext hPlaintext : Nat) (adPlaintext : Option Addr) (nPlaintext capPlaintext : Nat) (sPlaintext : Sl w' lPlaintext hPlaintext .u8 adPlaintext nPlaintext capPlaintext xsPlaintext) (hnPlaintext : nPlaintext ≤ 1048576) => (fun w' k h0 h1 s h => CiphW.impl_enc w' s h k h0 h1) w' aKey loKey hiKey sPlaintext (by omega)
  have hlen : (Hash.enc aKey xsPlaintext).length ≤ 17592186044416 := by have := Hash.enc_len aKey xsPlaintext; have := sPlaintext.len; omega
  generalize hR : Hash.enc aKey xsPlaintext = R at cS cI hlen
  clear hR
  have HS := Lib.hid cS
  have HI := Lib.hid cI
  clear cS cI
  have frm := Below.refl w.heap.size w
  go_enter Try.func9, Try.ntmps9
  go_wp2_with fail
  go_at_call 32
  refine (toB _ sPlaintext (by omega)).mono ?_
  rintro e w1 ⟨ad1, n1, cap1, rfl, r1, bl⟩
  have z1 := bl.size
  replace sPlaintext := sPlaintext.below bl (by omega)
  replace frm := frm.trans (bl.mono (by omega))
  clear bl
  have q1 : n1 ≤ 1048576 := by have h1 := r1.len; have h2 := sPlaintext.len; omega
  go_wp2_with fail
  go_at_call 38
  refine (HS.out _ _ _ _ _ _ r1.sl (by omega)).mono ?_
  rintro e w2 ⟨ad2, n2, cap2, rfl, r2, bl⟩
  have z2 := bl.size
  replace sPlaintext := sPlaintext.below bl (by omega)
  replace frm := frm.trans (bl.mono (by omega))
  clear bl
  have q2 : n2 ≤ 17592186044416 := by have h1 := r2.len; omega
  clear r1
  go_wp2_with fail
  go_at_call 32
  refine (toB _ sPlaintext (by omega)).mono ?_
  rintro e w3 ⟨ad3, n3, cap3, rfl, r3, bl⟩
  have z3 := bl.size
  replace sPlaintext := sPlaintext.below bl (by omega)
  replace r2 := r2.below bl (by omega)
  replace frm := frm.trans (bl.mono (by omega))
  clear bl
  have q3 : n3 ≤ 1048576 := by have h1 := r3.len; have h2 := sPlaintext.len; omega
  go_wp2_with fail
  go_at_call 17
  refine (HI.out _ _ _ _ _ _ r3.sl (by omega)).mono ?_
  rintro e w4 ⟨ad4, n4, cap4, rfl, r4, bl⟩
  have z4 := bl.size
  replace sPlaintext := sPlaintext.below bl (by omega)
  replace r2 := r2.below bl (by omega)
  replace r3 := r3.below bl (by omega)
  replace frm := frm.trans (bl.mono (by omega))
  clear bl
  have q4 : n4 ≤ 17592186044416 := by have h1 := r4.len; omega
  go_wp2_with fail
  go_at_call 34
  refine (eqB _ r4.sl r2.sl (by omega) rfl).mono ?_
  rintro e w5 ⟨rfl, bl⟩
  have z5 := bl.size
  replace sPlaintext := sPlaintext.below bl (by omega)
  replace r2 := r2.below bl (by omega)
  replace r3 := r3.below bl (by omega)
  replace r4 := r4.below bl (by omega)
  replace frm := frm.trans (bl.mono (by omega))
  clear bl
  go_wp2_with fail
  go_at_call 32
  refine (toB _ sPlaintext (by omega)).mono ?_
  rintro e w6 ⟨ad6, n6, cap6, rfl, r6, bl⟩
  have z6 := bl.size
  replace sPlaintext := sPlaintext.below bl (by omega)
  replace r2 := r2.below bl (by omega)
  replace r3 := r3.below bl (by omega)
  replace r4 := r4.below bl (by omega)
  replace frm := frm.trans (bl.mono (by omega))
  clear bl
  have q6 : n6 ≤ 1048576 := by have h1 := r6.len; have h2 := sPlaintext.len; omega
  go_wp2_with fail
  go_at_call 34
  refine (eqB _ r3.sl r6.sl (by omega) rfl).mono ?_
  rintro e w7 ⟨rfl, bl⟩
  have z7 := bl.size
  replace sPlaintext := sPlaintext.below bl (by omega)
  replace r2 := r2.below bl (by omega)
  replace r3 := r3.below bl (by omega)
  replace r4 := r4.below bl (by omega)
  replace frm := frm.trans (bl.mono (by omega))
  clear bl
  clear r6
  go_wp2_with fail
  go_at_call 35
  refine (markB _ r3 (by omega) 1 (by omega) (by omega)).mono ?_
  rintro e w9 ⟨rfl, new, mv⟩
  have z9 := mv.size
  replace sPlaintext := sPlaintext.mv mv (by omega)
  replace r2 := r2.mv mv (by omega)
  replace r4 := r4.mv mv (by omega)
  replace frm := frm.trans (mv.below (by omega) (by omega))
  clear new mv
  clear r3
  go_wp2_with fail
  go_at_call 34
  refine (eqB _ r4.sl r2.sl (by omega) rfl).mono ?_
  rintro e w10 ⟨rfl, bl⟩
  have z10 := bl.size
  replace sPlaintext := sPlaintext.below bl (by omega)
  replace r2 := r2.below bl (by omega)
  replace r4 := r4.below bl (by omega)
  replace frm := frm.trans (bl.mono (by omega))
  clear bl
  go_wp2_with fail
  go_at_call 35
  refine (markB _ r4 (by omega) 1 (by omega) (by omega)).mono ?_
  rintro e w12 ⟨rfl, new, mv⟩
  have z12 := mv.size
  replace sPlaintext := sPlaintext.mv mv (by omega)
  replace r2 := r2.mv mv (by omega)
  replace frm := frm.trans (mv.below (by omega) (by omega))
  have r4m := new
  clear new mv
  go_wp2_with fail
  go_at_call 39
  refine (heldB _ 1 r4m.sl (by omega) (by omega) (by omega)).mono ?_
  rintro e w14 ⟨rfl, bl⟩
  have z14 := bl.size
  replace sPlaintext := sPlaintext.below bl (by omega)
  replace r2 := r2.below bl (by omega)
  replace r4m := r4m.below bl (by omega)
  replace frm := frm.trans (bl.mono (by omega))
  clear bl
  go_wp2_with fail
  go_at_call 32
  refine (toB _ sPlaintext (by omega)).mono ?_
  rintro e w15 ⟨ad15, n15, cap15, rfl, r15, bl⟩
  have z15 := bl.size
  replace r2 := r2.below bl (by omega)
  replace r4m := r4m.below bl (by omega)
  replace frm := frm.trans (bl.mono (by omega))
  clear bl
  have q15 : n15 ≤ 1048576 := by have h1 := r15.len; have h2 := sPlaintext.len; omega
  go_wp2_with fail
  go_at_call 17
  refine (HI.out _ _ _ _ _ _ r15.sl (by omega)).mono ?_
  rintro e w16 ⟨ad16, n16, cap16, rfl, r16, bl⟩
  have z16 := bl.size
  replace r2 := r2.below bl (by omega)
  replace r4m := r4m.below bl (by omega)
  replace frm := frm.trans (bl.mono (by omega))
  clear bl
  have q16 : n16 ≤ 17592186044416 := by have h1 := r16.len; omega
  clear r15
  go_wp2_with fail
  go_at_call 34
  refine (eqB _ r16.sl r2.sl (by omega) rfl).mono ?_
  rintro e w17 ⟨rfl, bl⟩
  have z17 := bl.size
  replace r4m := r4m.below bl (by omega)
  replace frm := frm.trans (bl.mono (by omega))
  clear bl
  clear r2
  clear r16
  go_wp2_with fail
  go_at_call 39
  refine (heldB _ 1 r4m.sl (by omega) (by omega) (by omega)).mono ?_
  rintro e w19 ⟨rfl, bl⟩
  have z19 := bl.size
  replace frm := frm.trans (bl.mono (by omega))
  clear bl
  clear r4m
  go_wp2
  go_ret
  exact ⟨rfl, frm⟩

set_option maxRecDepth 100000 in
theorem exactDecrypt (w : World) (aKey : Int) (wfKey : (Lit.int .i64 aKey).wf = true) (vCiphertext : Value) (adCiphertext : Option Addr) (nCiphertext capCiphertext : Nat) (iaCiphertext : Kit.IntsAt .u8 w vCiphertext adCiphertext nCiphertext capCiphertext) :
    Calls Try.prog 10 #[.int .i64 aKey, vCiphertext] w fun e w' => e = .returned (.bool true) ∧ Below w.heap.size w w' := by
  obtain ⟨loKey, hiKey⟩ := fits_i64.1 wfKey
  clear wfKey
  obtain ⟨xsCiphertext, rfl, sCiphertext⟩ := of_ints iaCiphertext
  clear iaCiphertext
  rcases Nat.lt_or_ge 1048576 nCiphertext with bigCiphertext | bigCiphertext
  · go_enter Try.func10, Try.ntmps10
    go_wp2
    go_ret
    exact ⟨rfl, Below.refl _ _⟩
  have cS := fun (w' : World) (lCiphertext hCiphertext : Nat) (adCiphertext : Option Addr) (nCiphertext capCiphertext : Nat) (sCiphertext : Sl w' lCiphertext hCiphertext .u8 adCiphertext nCiphertext capCiphertext xsCiphertext) (hnCiphertext : nCiphertext ≤ 1048576) => (fun w' k h0 h1 s h => CiphW.spec_dec w' s h k h0 h1) w' aKey loKey hiKey sCiphertext (by omega)
  have cI := fun (w' : World) (lCiphertext hCiphertext : Nat) (adCiphertext : Option Addr) (nCiphertext capCiphertext : Nat) (sCiphertext : Sl w' lCiphertext hCiphertext .u8 adCiphertext nCiphertext capCiphertext xsCiphertext) (hnCiphertext : nCiphertext ≤ 1048576) => (fun w' k h0 h1 s h => CiphW.impl_dec w' s h k h0 h1) w' aKey loKey hiKey sCiphertext (by omega)
  have hlen : (Hash.dec aKey xsCiphertext).length ≤ 17592186044416 := by have := Hash.dec_len aKey xsCiphertext; have := sCiphertext.len; omega
  generalize hR : Hash.dec aKey xsCiphertext = R at cS cI hlen
  clear hR
  have HS := Lib.hid cS
  have HI := Lib.hid cI
  clear cS cI
  have frm := Below.refl w.heap.size w
  go_enter Try.func10, Try.ntmps10
  go_wp2_with fail
  go_at_call 32
  refine (toB _ sCiphertext (by omega)).mono ?_
  rintro e w1 ⟨ad1, n1, cap1, rfl, r1, bl⟩
  have z1 := bl.size
  replace sCiphertext := sCiphertext.below bl (by omega)
  replace frm := frm.trans (bl.mono (by omega))
  clear bl
  have q1 : n1 ≤ 1048576 := by have h1 := r1.len; have h2 := sCiphertext.len; omega
  go_wp2_with fail
  go_at_call 40
  refine (HS.out _ _ _ _ _ _ r1.sl (by omega)).mono ?_
  rintro e w2 ⟨ad2, n2, cap2, rfl, r2, bl⟩
  have z2 := bl.size
  replace sCiphertext := sCiphertext.below bl (by omega)
  replace frm := frm.trans (bl.mono (by omega))
  clear bl
  have q2 : n2 ≤ 17592186044416 := by have h1 := r2.len; omega
  clear r1
  go_wp2_with fail
  go_at_call 32
  refine (toB _ sCiphertext (by omega)).mono ?_
  rintro e w3 ⟨ad3, n3, cap3, rfl, r3, bl⟩
  have z3 := bl.size
  replace sCiphertext := sCiphertext.below bl (by omega)
  replace r2 := r2.below bl (by omega)
  replace frm := frm.trans (bl.mono (by omega))
  clear bl
  have q3 : n3 ≤ 1048576 := by have h1 := r3.len; have h2 := sCiphertext.len; omega
  go_wp2_with fail
  go_at_call 16
  refine (HI.out _ _ _ _ _ _ r3.sl (by omega)).mono ?_
  rintro e w4 ⟨ad4, n4, cap4, rfl, r4, bl⟩
  have z4 := bl.size
  replace sCiphertext := sCiphertext.below bl (by omega)
  replace r2 := r2.below bl (by omega)
  replace r3 := r3.below bl (by omega)
  replace frm := frm.trans (bl.mono (by omega))
  clear bl
  have q4 : n4 ≤ 17592186044416 := by have h1 := r4.len; omega
  go_wp2_with fail
  go_at_call 34
  refine (eqB _ r4.sl r2.sl (by omega) rfl).mono ?_
  rintro e w5 ⟨rfl, bl⟩
  have z5 := bl.size
  replace sCiphertext := sCiphertext.below bl (by omega)
  replace r2 := r2.below bl (by omega)
  replace r3 := r3.below bl (by omega)
  replace r4 := r4.below bl (by omega)
  replace frm := frm.trans (bl.mono (by omega))
  clear bl
  go_wp2_with fail
  go_at_call 32
  refine (toB _ sCiphertext (by omega)).mono ?_
  rintro e w6 ⟨ad6, n6, cap6, rfl, r6, bl⟩
  have z6 := bl.size
  replace sCiphertext := sCiphertext.below bl (by omega)
  replace r2 := r2.below bl (by omega)
  replace r3 := r3.below bl (by omega)
  replace r4 := r4.below bl (by omega)
  replace frm := frm.trans (bl.mono (by omega))
  clear bl
  have q6 : n6 ≤ 1048576 := by have h1 := r6.len; have h2 := sCiphertext.len; omega
  go_wp2_with fail
  go_at_call 34
  refine (eqB _ r3.sl r6.sl (by omega) rfl).mono ?_
  rintro e w7 ⟨rfl, bl⟩
  have z7 := bl.size
  replace sCiphertext := sCiphertext.below bl (by omega)
  replace r2 := r2.below bl (by omega)
  replace r3 := r3.below bl (by omega)
  replace r4 := r4.below bl (by omega)
  replace frm := frm.trans (bl.mono (by omega))
  clear bl
  clear r6
  go_wp2_with fail
  go_at_call 35
  refine (markB _ r3 (by omega) 1 (by omega) (by omega)).mono ?_
  rintro e w9 ⟨rfl, new, mv⟩
  have z9 := mv.size
  replace sCiphertext := sCiphertext.mv mv (by omega)
  replace r2 := r2.mv mv (by omega)
  replace r4 := r4.mv mv (by omega)
  replace frm := frm.trans (mv.below (by omega) (by omega))
  clear new mv
  clear r3
  go_wp2_with fail
  go_at_call 34
  refine (eqB _ r4.sl r2.sl (by omega) rfl).mono ?_
  rintro e w10 ⟨rfl, bl⟩
  have z10 := bl.size
  replace sCiphertext := sCiphertext.below bl (by omega)
  replace r2 := r2.below bl (by omega)
  replace r4 := r4.below bl (by omega)
  replace frm := frm.trans (bl.mono (by omega))
  clear bl
  go_wp2_with fail
  go_at_call 35
  refine (markB _ r4 (by omega) 1 (by omega) (by omega)).mono ?_
  rintro e w12 ⟨rfl, new, mv⟩
  have z12 := mv.size
  replace sCiphertext := sCiphertext.mv mv (by omega)
  replace r2 := r2.mv mv (by omega)
  replace frm := frm.trans (mv.below (by omega) (by omega))
  have r4m := new
  clear new mv
  go_wp2_with fail
  go_at_call 39
  refine (heldB _ 1 r4m.sl (by omega) (by omega) (by omega)).mono ?_
  rintro e w14 ⟨rfl, bl⟩
  have z14 := bl.size
  replace sCiphertext := sCiphertext.below bl (by omega)
  replace r2 := r2.below bl (by omega)
  replace r4m := r4m.below bl (by omega)
  replace frm := frm.trans (bl.mono (by omega))
  clear bl
  go_wp2_with fail
  go_at_call 32
  refine (toB _ sCiphertext (by omega)).mono ?_
  rintro e w15 ⟨ad15, n15, cap15, rfl, r15, bl⟩
  have z15 := bl.size
  replace r2 := r2.below bl (by omega)
  replace r4m := r4m.below bl (by omega)
  replace frm := frm.trans (bl.mono (by omega))
  clear bl
  have q15 : n15 ≤ 1048576 := by have h1 := r15.len; have h2 := sCiphertext.len; omega
  go_wp2_with fail
  go_at_call 16
  refine (HI.out _ _ _ _ _ _ r15.sl (by omega)).mono ?_
  rintro e w16 ⟨ad16, n16, cap16, rfl, r16, bl⟩
  have z16 := bl.size
  replace r2 := r2.below bl (by omega)
  replace r4m := r4m.below bl (by omega)
  replace frm := frm.trans (bl.mono (by omega))
  clear bl
  have q16 : n16 ≤ 17592186044416 := by have h1 := r16.len; omega
  clear r15
  go_wp2_with fail
  go_at_call 34
  refine (eqB _ r16.sl r2.sl (by omega) rfl).mono ?_
  rintro e w17 ⟨rfl, bl⟩
  have z17 := bl.size
  replace r4m := r4m.below bl (by omega)
  replace frm := frm.trans (bl.mono (by omega))
  clear bl
  clear r2
  clear r16
  go_wp2_with fail
  go_at_call 39
  refine (heldB _ 1 r4m.sl (by omega) (by omega) (by omega)).mono ?_
  rintro e w19 ⟨rfl, bl⟩
  have z19 := bl.size
  replace frm := frm.trans (bl.mono (by omega))
  clear bl
  clear r4m
  go_wp2
  go_ret
  exact ⟨rfl, frm⟩

end Go.Proofs.Ytakelaahbkbbgaa.LawHash
