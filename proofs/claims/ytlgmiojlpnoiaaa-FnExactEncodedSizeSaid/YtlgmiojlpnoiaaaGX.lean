/-
  Exact laws walked, over the contracts of what they call.
-/
import Derived.Test.YtlgmiojlpnoiaaaGC
import Derived.Test.YtlgmiojlpnoiaaaGN
namespace Go.Proofs.Ytlgmiojlpnoiaaa.LawCoefEx
open Go.ChangeShapes Go.WideShapes Go.ChangeAt Go.RowKit
open Go.Proofs.Ytlgmiojlpnoiaaa.Seq Go.Proofs.Ytlgmiojlpnoiaaa.Help

set_option maxRecDepth 100000 in
theorem exactCountNonzero (w : World) (vV : Value) (adV : Option Addr) (nV capV : Nat) (iaV : Kit.IntsAt .i64 w vV adV nV capV) :
    Calls Try.prog 4 #[vV] w fun e w' => e = .returned (.bool true) ∧ Below w.heap.size w w' := by
  obtain ⟨xsV, rfl, sV⟩ := of_ints iaV
  clear iaV
  rcases Nat.lt_or_ge 1048576 nV with bigV | bigV
  · go_enter Try.func4, Try.ntmps4
    go_wp2
    go_ret
    exact ⟨rfl, Below.refl _ _⟩
  have frm := Below.refl w.heap.size w
  have cS := fun (w' : World) (lV hV : Nat) (adV : Option Addr) (nV capV : Nat) (sV : Sl w' lV hV .i64 adV nV capV xsV) (hnV : nV ≤ 1048576) => (fun w' s _ => (CoefW.spec_cnt w' s).mono FieldW.is_below) w' sV (by omega)
  have cI := fun (w' : World) (lV hV : Nat) (adV : Option Addr) (nV capV : Nat) (sV : Sl w' lV hV .i64 adV nV capV xsV) (hnV : nV ≤ 1048576) => (fun w' s _ => (CoefW.impl_cnt w' s).mono FieldW.is_below) w' sV (by omega)
  generalize hR : ((Coef.cnt xsV : Nat) : Int) = R at cS cI
  clear hR
  have HS := Lib.hid cS
  have HI := Lib.hid cI
  clear cS cI
  go_enter Try.func4, Try.ntmps4
  go_wp2_with fail
  go_at_call 28
  refine (toI _ sV (by omega)).mono ?_
  rintro e w1 ⟨ad1, n1, cap1, rfl, r1, bl⟩
  have z1 := bl.size
  replace sV := sV.below bl (by omega)
  replace frm := frm.trans (bl.mono (by omega))
  clear bl
  have q1 : n1 ≤ 1048576 := by have h1 := r1.len; have h2 := sV.len; omega
  go_wp2_with fail
  go_at_call 27
  refine (HS.out _ _ _ _ _ _ r1.sl (by omega)).mono ?_
  rintro e w2 ⟨rfl, bl⟩
  have z2 := bl.size
  replace sV := sV.below bl (by omega)
  replace frm := frm.trans (bl.mono (by omega))
  clear bl
  clear r1
  go_wp2_with fail
  go_at_call 28
  refine (toI _ sV (by omega)).mono ?_
  rintro e w3 ⟨ad3, n3, cap3, rfl, r3, bl⟩
  have z3 := bl.size
  replace sV := sV.below bl (by omega)
  replace frm := frm.trans (bl.mono (by omega))
  clear bl
  have q3 : n3 ≤ 1048576 := by have h1 := r3.len; have h2 := sV.len; omega
  go_wp2_with fail
  go_at_call 25
  refine (HI.out _ _ _ _ _ _ r3.sl (by omega)).mono ?_
  rintro e w4 ⟨rfl, bl⟩
  have z4 := bl.size
  replace sV := sV.below bl (by omega)
  replace r3 := r3.below bl (by omega)
  replace frm := frm.trans (bl.mono (by omega))
  clear bl
  go_wp2_with fail
  go_at_call 28
  refine (toI _ sV (by omega)).mono ?_
  rintro e w5 ⟨ad5, n5, cap5, rfl, r5, bl⟩
  have z5 := bl.size
  replace r3 := r3.below bl (by omega)
  replace frm := frm.trans (bl.mono (by omega))
  clear bl
  have q5 : n5 ≤ 1048576 := by have h1 := r5.len; have h2 := sV.len; omega
  go_wp2_with fail
  go_at_call 29
  refine (eqI _ r3.sl r5.sl (by omega) rfl).mono ?_
  rintro e w6 ⟨rfl, bl⟩
  have z6 := bl.size
  replace frm := frm.trans (bl.mono (by omega))
  clear bl
  clear r3
  clear r5
  go_wp2
  go_ret
  exact ⟨rfl, frm⟩

set_option maxRecDepth 100000 in
theorem exactEncodeDense (w : World) (vV : Value) (adV : Option Addr) (nV capV : Nat) (iaV : Kit.IntsAt .i64 w vV adV nV capV) :
    Calls Try.prog 5 #[vV] w fun e w' => e = .returned (.bool true) ∧ Below w.heap.size w w' := by
  obtain ⟨xsV, rfl, sV⟩ := of_ints iaV
  clear iaV
  rcases Nat.lt_or_ge 1048576 nV with bigV | bigV
  · go_enter Try.func5, Try.ntmps5
    go_wp2
    go_ret
    exact ⟨rfl, Below.refl _ _⟩
  have frm := Below.refl w.heap.size w
  have cS := fun (w' : World) (lV hV : Nat) (adV : Option Addr) (nV capV : Nat) (sV : Sl w' lV hV .i64 adV nV capV xsV) (hnV : nV ≤ 1048576) => (fun w' s _ => CoefW.spec_encD w' s) w' sV (by omega)
  have cI := fun (w' : World) (lV hV : Nat) (adV : Option Addr) (nV capV : Nat) (sV : Sl w' lV hV .i64 adV nV capV xsV) (hnV : nV ≤ 1048576) => (fun w' s _ => CoefI.encD w' s) w' sV (by omega)
  have hlen : (Coef.encD xsV).length ≤ 17592186044416 := by have := Coef.encD_len xsV; omega
  generalize hR : Coef.encD xsV = R at cS cI hlen
  clear hR
  have HS := Lib.hid cS
  have HI := Lib.hid cI
  clear cS cI
  go_enter Try.func5, Try.ntmps5
  go_wp2_with fail
  go_at_call 28
  refine (toI _ sV (by omega)).mono ?_
  rintro e w1 ⟨ad1, n1, cap1, rfl, r1, bl⟩
  have z1 := bl.size
  replace sV := sV.below bl (by omega)
  replace frm := frm.trans (bl.mono (by omega))
  clear bl
  have q1 : n1 ≤ 1048576 := by have h1 := r1.len; have h2 := sV.len; omega
  go_wp2_with fail
  go_at_call 30
  refine (HS.out _ _ _ _ _ _ r1.sl (by omega)).mono ?_
  rintro e w2 ⟨ad2, n2, cap2, rfl, r2, bl⟩
  have z2 := bl.size
  replace sV := sV.below bl (by omega)
  replace frm := frm.trans (bl.mono (by omega))
  clear bl
  have q2 : n2 ≤ 17592186044416 := by have h1 := r2.len; omega
  clear r1
  go_wp2_with fail
  go_at_call 28
  refine (toI _ sV (by omega)).mono ?_
  rintro e w3 ⟨ad3, n3, cap3, rfl, r3, bl⟩
  have z3 := bl.size
  replace sV := sV.below bl (by omega)
  replace r2 := r2.below bl (by omega)
  replace frm := frm.trans (bl.mono (by omega))
  clear bl
  have q3 : n3 ≤ 1048576 := by have h1 := r3.len; have h2 := sV.len; omega
  go_wp2_with fail
  go_at_call 17
  refine (HI.out _ _ _ _ _ _ r3.sl (by omega)).mono ?_
  rintro e w4 ⟨ad4, n4, cap4, rfl, r4, bl⟩
  have z4 := bl.size
  replace sV := sV.below bl (by omega)
  replace r2 := r2.below bl (by omega)
  replace r3 := r3.below bl (by omega)
  replace frm := frm.trans (bl.mono (by omega))
  clear bl
  have q4 : n4 ≤ 17592186044416 := by have h1 := r4.len; omega
  go_wp2_with fail
  go_at_call 31
  refine (eqB _ r4.sl r2.sl (by omega) rfl).mono ?_
  rintro e w5 ⟨rfl, bl⟩
  have z5 := bl.size
  replace sV := sV.below bl (by omega)
  replace r2 := r2.below bl (by omega)
  replace r3 := r3.below bl (by omega)
  replace r4 := r4.below bl (by omega)
  replace frm := frm.trans (bl.mono (by omega))
  clear bl
  go_wp2_with fail
  go_at_call 28
  refine (toI _ sV (by omega)).mono ?_
  rintro e w6 ⟨ad6, n6, cap6, rfl, r6, bl⟩
  have z6 := bl.size
  replace sV := sV.below bl (by omega)
  replace r2 := r2.below bl (by omega)
  replace r3 := r3.below bl (by omega)
  replace r4 := r4.below bl (by omega)
  replace frm := frm.trans (bl.mono (by omega))
  clear bl
  have q6 : n6 ≤ 1048576 := by have h1 := r6.len; have h2 := sV.len; omega
  go_wp2_with fail
  go_at_call 29
  refine (eqI _ r3.sl r6.sl (by omega) rfl).mono ?_
  rintro e w7 ⟨rfl, bl⟩
  have z7 := bl.size
  replace sV := sV.below bl (by omega)
  replace r2 := r2.below bl (by omega)
  replace r3 := r3.below bl (by omega)
  replace r4 := r4.below bl (by omega)
  replace frm := frm.trans (bl.mono (by omega))
  clear bl
  clear r6
  go_wp2_with fail
  go_at_call 32
  refine (markI _ r3 (by omega) 1 (by omega) (by omega)).mono ?_
  rintro e w9 ⟨rfl, new, mv⟩
  have z9 := mv.size
  replace sV := sV.mv mv (by omega)
  replace r2 := r2.mv mv (by omega)
  replace r4 := r4.mv mv (by omega)
  replace frm := frm.trans (mv.below (by omega) (by omega))
  clear new mv
  clear r3
  go_wp2_with fail
  go_at_call 31
  refine (eqB _ r4.sl r2.sl (by omega) rfl).mono ?_
  rintro e w10 ⟨rfl, bl⟩
  have z10 := bl.size
  replace sV := sV.below bl (by omega)
  replace r2 := r2.below bl (by omega)
  replace r4 := r4.below bl (by omega)
  replace frm := frm.trans (bl.mono (by omega))
  clear bl
  go_wp2_with fail
  go_at_call 33
  refine (markB _ r4 (by omega) 1 (by omega) (by omega)).mono ?_
  rintro e w12 ⟨rfl, new, mv⟩
  have z12 := mv.size
  replace sV := sV.mv mv (by omega)
  replace r2 := r2.mv mv (by omega)
  replace frm := frm.trans (mv.below (by omega) (by omega))
  have r4m := new
  clear new mv
  go_wp2_with fail
  go_at_call 34
  refine (heldB _ 1 r4m.sl (by omega) (by omega) (by omega)).mono ?_
  rintro e w14 ⟨rfl, bl⟩
  have z14 := bl.size
  replace sV := sV.below bl (by omega)
  replace r2 := r2.below bl (by omega)
  replace r4m := r4m.below bl (by omega)
  replace frm := frm.trans (bl.mono (by omega))
  clear bl
  go_wp2_with fail
  go_at_call 28
  refine (toI _ sV (by omega)).mono ?_
  rintro e w15 ⟨ad15, n15, cap15, rfl, r15, bl⟩
  have z15 := bl.size
  replace r2 := r2.below bl (by omega)
  replace r4m := r4m.below bl (by omega)
  replace frm := frm.trans (bl.mono (by omega))
  clear bl
  have q15 : n15 ≤ 1048576 := by have h1 := r15.len; have h2 := sV.len; omega
  go_wp2_with fail
  go_at_call 17
  refine (HI.out _ _ _ _ _ _ r15.sl (by omega)).mono ?_
  rintro e w16 ⟨ad16, n16, cap16, rfl, r16, bl⟩
  have z16 := bl.size
  replace r2 := r2.below bl (by omega)
  replace r4m := r4m.below bl (by omega)
  replace frm := frm.trans (bl.mono (by omega))
  clear bl
  have q16 : n16 ≤ 17592186044416 := by have h1 := r16.len; omega
  clear r15
  go_wp2_with fail
  go_at_call 31
  refine (eqB _ r16.sl r2.sl (by omega) rfl).mono ?_
  rintro e w17 ⟨rfl, bl⟩
  have z17 := bl.size
  replace r4m := r4m.below bl (by omega)
  replace frm := frm.trans (bl.mono (by omega))
  clear bl
  clear r2
  clear r16
  go_wp2_with fail
  go_at_call 34
  refine (heldB _ 1 r4m.sl (by omega) (by omega) (by omega)).mono ?_
  rintro e w19 ⟨rfl, bl⟩
  have z19 := bl.size
  replace frm := frm.trans (bl.mono (by omega))
  clear bl
  clear r4m
  go_wp2
  go_ret
  exact ⟨rfl, frm⟩

set_option maxRecDepth 100000 in
theorem exactEncodeSparse (w : World) (vV : Value) (adV : Option Addr) (nV capV : Nat) (iaV : Kit.IntsAt .i64 w vV adV nV capV) :
    Calls Try.prog 6 #[vV] w fun e w' => e = .returned (.bool true) ∧ Below w.heap.size w w' := by
  obtain ⟨xsV, rfl, sV⟩ := of_ints iaV
  clear iaV
  rcases Nat.lt_or_ge 1048576 nV with bigV | bigV
  · go_enter Try.func6, Try.ntmps6
    go_wp2
    go_ret
    exact ⟨rfl, Below.refl _ _⟩
  have frm := Below.refl w.heap.size w
  have cS := fun (w' : World) (lV hV : Nat) (adV : Option Addr) (nV capV : Nat) (sV : Sl w' lV hV .i64 adV nV capV xsV) (hnV : nV ≤ 1048576) => (fun w' s _ => CoefW.spec_encS w' s) w' sV (by omega)
  have cI := fun (w' : World) (lV hV : Nat) (adV : Option Addr) (nV capV : Nat) (sV : Sl w' lV hV .i64 adV nV capV xsV) (hnV : nV ≤ 1048576) => (fun w' s _ => CoefI.encS w' s) w' sV (by omega)
  have hlen : (Coef.encS xsV).length ≤ 17592186044416 := by have := Coef.encS_len xsV; omega
  generalize hR : Coef.encS xsV = R at cS cI hlen
  clear hR
  have HS := Lib.hid cS
  have HI := Lib.hid cI
  clear cS cI
  go_enter Try.func6, Try.ntmps6
  go_wp2_with fail
  go_at_call 28
  refine (toI _ sV (by omega)).mono ?_
  rintro e w1 ⟨ad1, n1, cap1, rfl, r1, bl⟩
  have z1 := bl.size
  replace sV := sV.below bl (by omega)
  replace frm := frm.trans (bl.mono (by omega))
  clear bl
  have q1 : n1 ≤ 1048576 := by have h1 := r1.len; have h2 := sV.len; omega
  go_wp2_with fail
  go_at_call 35
  refine (HS.out _ _ _ _ _ _ r1.sl (by omega)).mono ?_
  rintro e w2 ⟨ad2, n2, cap2, rfl, r2, bl⟩
  have z2 := bl.size
  replace sV := sV.below bl (by omega)
  replace frm := frm.trans (bl.mono (by omega))
  clear bl
  have q2 : n2 ≤ 17592186044416 := by have h1 := r2.len; omega
  clear r1
  go_wp2_with fail
  go_at_call 28
  refine (toI _ sV (by omega)).mono ?_
  rintro e w3 ⟨ad3, n3, cap3, rfl, r3, bl⟩
  have z3 := bl.size
  replace sV := sV.below bl (by omega)
  replace r2 := r2.below bl (by omega)
  replace frm := frm.trans (bl.mono (by omega))
  clear bl
  have q3 : n3 ≤ 1048576 := by have h1 := r3.len; have h2 := sV.len; omega
  go_wp2_with fail
  go_at_call 18
  refine (HI.out _ _ _ _ _ _ r3.sl (by omega)).mono ?_
  rintro e w4 ⟨ad4, n4, cap4, rfl, r4, bl⟩
  have z4 := bl.size
  replace sV := sV.below bl (by omega)
  replace r2 := r2.below bl (by omega)
  replace r3 := r3.below bl (by omega)
  replace frm := frm.trans (bl.mono (by omega))
  clear bl
  have q4 : n4 ≤ 17592186044416 := by have h1 := r4.len; omega
  go_wp2_with fail
  go_at_call 31
  refine (eqB _ r4.sl r2.sl (by omega) rfl).mono ?_
  rintro e w5 ⟨rfl, bl⟩
  have z5 := bl.size
  replace sV := sV.below bl (by omega)
  replace r2 := r2.below bl (by omega)
  replace r3 := r3.below bl (by omega)
  replace r4 := r4.below bl (by omega)
  replace frm := frm.trans (bl.mono (by omega))
  clear bl
  go_wp2_with fail
  go_at_call 28
  refine (toI _ sV (by omega)).mono ?_
  rintro e w6 ⟨ad6, n6, cap6, rfl, r6, bl⟩
  have z6 := bl.size
  replace sV := sV.below bl (by omega)
  replace r2 := r2.below bl (by omega)
  replace r3 := r3.below bl (by omega)
  replace r4 := r4.below bl (by omega)
  replace frm := frm.trans (bl.mono (by omega))
  clear bl
  have q6 : n6 ≤ 1048576 := by have h1 := r6.len; have h2 := sV.len; omega
  go_wp2_with fail
  go_at_call 29
  refine (eqI _ r3.sl r6.sl (by omega) rfl).mono ?_
  rintro e w7 ⟨rfl, bl⟩
  have z7 := bl.size
  replace sV := sV.below bl (by omega)
  replace r2 := r2.below bl (by omega)
  replace r3 := r3.below bl (by omega)
  replace r4 := r4.below bl (by omega)
  replace frm := frm.trans (bl.mono (by omega))
  clear bl
  clear r6
  go_wp2_with fail
  go_at_call 32
  refine (markI _ r3 (by omega) 1 (by omega) (by omega)).mono ?_
  rintro e w9 ⟨rfl, new, mv⟩
  have z9 := mv.size
  replace sV := sV.mv mv (by omega)
  replace r2 := r2.mv mv (by omega)
  replace r4 := r4.mv mv (by omega)
  replace frm := frm.trans (mv.below (by omega) (by omega))
  clear new mv
  clear r3
  go_wp2_with fail
  go_at_call 31
  refine (eqB _ r4.sl r2.sl (by omega) rfl).mono ?_
  rintro e w10 ⟨rfl, bl⟩
  have z10 := bl.size
  replace sV := sV.below bl (by omega)
  replace r2 := r2.below bl (by omega)
  replace r4 := r4.below bl (by omega)
  replace frm := frm.trans (bl.mono (by omega))
  clear bl
  go_wp2_with fail
  go_at_call 33
  refine (markB _ r4 (by omega) 1 (by omega) (by omega)).mono ?_
  rintro e w12 ⟨rfl, new, mv⟩
  have z12 := mv.size
  replace sV := sV.mv mv (by omega)
  replace r2 := r2.mv mv (by omega)
  replace frm := frm.trans (mv.below (by omega) (by omega))
  have r4m := new
  clear new mv
  go_wp2_with fail
  go_at_call 34
  refine (heldB _ 1 r4m.sl (by omega) (by omega) (by omega)).mono ?_
  rintro e w14 ⟨rfl, bl⟩
  have z14 := bl.size
  replace sV := sV.below bl (by omega)
  replace r2 := r2.below bl (by omega)
  replace r4m := r4m.below bl (by omega)
  replace frm := frm.trans (bl.mono (by omega))
  clear bl
  go_wp2_with fail
  go_at_call 28
  refine (toI _ sV (by omega)).mono ?_
  rintro e w15 ⟨ad15, n15, cap15, rfl, r15, bl⟩
  have z15 := bl.size
  replace r2 := r2.below bl (by omega)
  replace r4m := r4m.below bl (by omega)
  replace frm := frm.trans (bl.mono (by omega))
  clear bl
  have q15 : n15 ≤ 1048576 := by have h1 := r15.len; have h2 := sV.len; omega
  go_wp2_with fail
  go_at_call 18
  refine (HI.out _ _ _ _ _ _ r15.sl (by omega)).mono ?_
  rintro e w16 ⟨ad16, n16, cap16, rfl, r16, bl⟩
  have z16 := bl.size
  replace r2 := r2.below bl (by omega)
  replace r4m := r4m.below bl (by omega)
  replace frm := frm.trans (bl.mono (by omega))
  clear bl
  have q16 : n16 ≤ 17592186044416 := by have h1 := r16.len; omega
  clear r15
  go_wp2_with fail
  go_at_call 31
  refine (eqB _ r16.sl r2.sl (by omega) rfl).mono ?_
  rintro e w17 ⟨rfl, bl⟩
  have z17 := bl.size
  replace r4m := r4m.below bl (by omega)
  replace frm := frm.trans (bl.mono (by omega))
  clear bl
  clear r2
  clear r16
  go_wp2_with fail
  go_at_call 34
  refine (heldB _ 1 r4m.sl (by omega) (by omega) (by omega)).mono ?_
  rintro e w19 ⟨rfl, bl⟩
  have z19 := bl.size
  replace frm := frm.trans (bl.mono (by omega))
  clear bl
  clear r4m
  go_wp2
  go_ret
  exact ⟨rfl, frm⟩

set_option maxRecDepth 100000 in
theorem exactEncodeCoefficients (w : World) (vV : Value) (adV : Option Addr) (nV capV : Nat) (iaV : Kit.IntsAt .i64 w vV adV nV capV) :
    Calls Try.prog 7 #[vV] w fun e w' => e = .returned (.bool true) ∧ Below w.heap.size w w' := by
  obtain ⟨xsV, rfl, sV⟩ := of_ints iaV
  clear iaV
  rcases Nat.lt_or_ge 1048576 nV with bigV | bigV
  · go_enter Try.func7, Try.ntmps7
    go_wp2
    go_ret
    exact ⟨rfl, Below.refl _ _⟩
  have frm := Below.refl w.heap.size w
  have cS := fun (w' : World) (lV hV : Nat) (adV : Option Addr) (nV capV : Nat) (sV : Sl w' lV hV .i64 adV nV capV xsV) (hnV : nV ≤ 1048576) => (fun w' s h => CoefI.spec_coef w' s h) w' sV (by omega)
  have cI := fun (w' : World) (lV hV : Nat) (adV : Option Addr) (nV capV : Nat) (sV : Sl w' lV hV .i64 adV nV capV xsV) (hnV : nV ≤ 1048576) => (fun w' s h => CoefI.coef w' s h) w' sV (by omega)
  have hlen : (Coef.coef xsV).length ≤ 17592186044416 := by have := Coef.coef_len xsV; omega
  generalize hR : Coef.coef xsV = R at cS cI hlen
  clear hR
  have HS := Lib.hid cS
  have HI := Lib.hid cI
  clear cS cI
  go_enter Try.func7, Try.ntmps7
  go_wp2_with fail
  go_at_call 28
  refine (toI _ sV (by omega)).mono ?_
  rintro e w1 ⟨ad1, n1, cap1, rfl, r1, bl⟩
  have z1 := bl.size
  replace sV := sV.below bl (by omega)
  replace frm := frm.trans (bl.mono (by omega))
  clear bl
  have q1 : n1 ≤ 1048576 := by have h1 := r1.len; have h2 := sV.len; omega
  go_wp2_with fail
  go_at_call 36
  refine (HS.out _ _ _ _ _ _ r1.sl (by omega)).mono ?_
  rintro e w2 ⟨ad2, n2, cap2, rfl, r2, bl⟩
  have z2 := bl.size
  replace sV := sV.below bl (by omega)
  replace frm := frm.trans (bl.mono (by omega))
  clear bl
  have q2 : n2 ≤ 17592186044416 := by have h1 := r2.len; omega
  clear r1
  go_wp2_with fail
  go_at_call 28
  refine (toI _ sV (by omega)).mono ?_
  rintro e w3 ⟨ad3, n3, cap3, rfl, r3, bl⟩
  have z3 := bl.size
  replace sV := sV.below bl (by omega)
  replace r2 := r2.below bl (by omega)
  replace frm := frm.trans (bl.mono (by omega))
  clear bl
  have q3 : n3 ≤ 1048576 := by have h1 := r3.len; have h2 := sV.len; omega
  go_wp2_with fail
  go_at_call 20
  refine (HI.out _ _ _ _ _ _ r3.sl (by omega)).mono ?_
  rintro e w4 ⟨ad4, n4, cap4, rfl, r4, bl⟩
  have z4 := bl.size
  replace sV := sV.below bl (by omega)
  replace r2 := r2.below bl (by omega)
  replace r3 := r3.below bl (by omega)
  replace frm := frm.trans (bl.mono (by omega))
  clear bl
  have q4 : n4 ≤ 17592186044416 := by have h1 := r4.len; omega
  go_wp2_with fail
  go_at_call 31
  refine (eqB _ r4.sl r2.sl (by omega) rfl).mono ?_
  rintro e w5 ⟨rfl, bl⟩
  have z5 := bl.size
  replace sV := sV.below bl (by omega)
  replace r2 := r2.below bl (by omega)
  replace r3 := r3.below bl (by omega)
  replace r4 := r4.below bl (by omega)
  replace frm := frm.trans (bl.mono (by omega))
  clear bl
  go_wp2_with fail
  go_at_call 28
  refine (toI _ sV (by omega)).mono ?_
  rintro e w6 ⟨ad6, n6, cap6, rfl, r6, bl⟩
  have z6 := bl.size
  replace sV := sV.below bl (by omega)
  replace r2 := r2.below bl (by omega)
  replace r3 := r3.below bl (by omega)
  replace r4 := r4.below bl (by omega)
  replace frm := frm.trans (bl.mono (by omega))
  clear bl
  have q6 : n6 ≤ 1048576 := by have h1 := r6.len; have h2 := sV.len; omega
  go_wp2_with fail
  go_at_call 29
  refine (eqI _ r3.sl r6.sl (by omega) rfl).mono ?_
  rintro e w7 ⟨rfl, bl⟩
  have z7 := bl.size
  replace sV := sV.below bl (by omega)
  replace r2 := r2.below bl (by omega)
  replace r3 := r3.below bl (by omega)
  replace r4 := r4.below bl (by omega)
  replace frm := frm.trans (bl.mono (by omega))
  clear bl
  clear r6
  go_wp2_with fail
  go_at_call 32
  refine (markI _ r3 (by omega) 1 (by omega) (by omega)).mono ?_
  rintro e w9 ⟨rfl, new, mv⟩
  have z9 := mv.size
  replace sV := sV.mv mv (by omega)
  replace r2 := r2.mv mv (by omega)
  replace r4 := r4.mv mv (by omega)
  replace frm := frm.trans (mv.below (by omega) (by omega))
  clear new mv
  clear r3
  go_wp2_with fail
  go_at_call 31
  refine (eqB _ r4.sl r2.sl (by omega) rfl).mono ?_
  rintro e w10 ⟨rfl, bl⟩
  have z10 := bl.size
  replace sV := sV.below bl (by omega)
  replace r2 := r2.below bl (by omega)
  replace r4 := r4.below bl (by omega)
  replace frm := frm.trans (bl.mono (by omega))
  clear bl
  go_wp2_with fail
  go_at_call 33
  refine (markB _ r4 (by omega) 1 (by omega) (by omega)).mono ?_
  rintro e w12 ⟨rfl, new, mv⟩
  have z12 := mv.size
  replace sV := sV.mv mv (by omega)
  replace r2 := r2.mv mv (by omega)
  replace frm := frm.trans (mv.below (by omega) (by omega))
  have r4m := new
  clear new mv
  go_wp2_with fail
  go_at_call 34
  refine (heldB _ 1 r4m.sl (by omega) (by omega) (by omega)).mono ?_
  rintro e w14 ⟨rfl, bl⟩
  have z14 := bl.size
  replace sV := sV.below bl (by omega)
  replace r2 := r2.below bl (by omega)
  replace r4m := r4m.below bl (by omega)
  replace frm := frm.trans (bl.mono (by omega))
  clear bl
  go_wp2_with fail
  go_at_call 28
  refine (toI _ sV (by omega)).mono ?_
  rintro e w15 ⟨ad15, n15, cap15, rfl, r15, bl⟩
  have z15 := bl.size
  replace r2 := r2.below bl (by omega)
  replace r4m := r4m.below bl (by omega)
  replace frm := frm.trans (bl.mono (by omega))
  clear bl
  have q15 : n15 ≤ 1048576 := by have h1 := r15.len; have h2 := sV.len; omega
  go_wp2_with fail
  go_at_call 20
  refine (HI.out _ _ _ _ _ _ r15.sl (by omega)).mono ?_
  rintro e w16 ⟨ad16, n16, cap16, rfl, r16, bl⟩
  have z16 := bl.size
  replace r2 := r2.below bl (by omega)
  replace r4m := r4m.below bl (by omega)
  replace frm := frm.trans (bl.mono (by omega))
  clear bl
  have q16 : n16 ≤ 17592186044416 := by have h1 := r16.len; omega
  clear r15
  go_wp2_with fail
  go_at_call 31
  refine (eqB _ r16.sl r2.sl (by omega) rfl).mono ?_
  rintro e w17 ⟨rfl, bl⟩
  have z17 := bl.size
  replace r4m := r4m.below bl (by omega)
  replace frm := frm.trans (bl.mono (by omega))
  clear bl
  clear r2
  clear r16
  go_wp2_with fail
  go_at_call 34
  refine (heldB _ 1 r4m.sl (by omega) (by omega) (by omega)).mono ?_
  rintro e w19 ⟨rfl, bl⟩
  have z19 := bl.size
  replace frm := frm.trans (bl.mono (by omega))
  clear bl
  clear r4m
  go_wp2
  go_ret
  exact ⟨rfl, frm⟩

set_option maxRecDepth 100000 in
theorem exactDecodeCoefficients (w : World) (vB : Value) (adB : Option Addr) (nB capB : Nat) (iaB : Kit.IntsAt .u8 w vB adB nB capB) :
    Calls Try.prog 8 #[vB] w fun e w' => e = .returned (.bool true) ∧ Below w.heap.size w w' := by
  obtain ⟨xsB, rfl, sB⟩ := of_ints iaB
  clear iaB
  rcases Nat.lt_or_ge 1048576 nB with bigB | bigB
  · go_enter Try.func8, Try.ntmps8
    go_wp2
    go_ret
    exact ⟨rfl, Below.refl _ _⟩
  have frm := Below.refl w.heap.size w
  have cS := fun (w' : World) (lB hB : Nat) (adB : Option Addr) (nB capB : Nat) (sB : Sl w' lB hB .u8 adB nB capB xsB) (hnB : nB ≤ 1048576) => (fun w' s h => CoefW.spec_decC w' s h) w' sB (by omega)
  have cI := fun (w' : World) (lB hB : Nat) (adB : Option Addr) (nB capB : Nat) (sB : Sl w' lB hB .u8 adB nB capB xsB) (hnB : nB ≤ 1048576) => (fun w' s h => CoefI.decC w' s h) w' sB (by omega)
  have hlen : (Coef.decS xsB).1.length ≤ 17592186044416 := by have := Coef.decS_len xsB; omega
  generalize hR : Coef.decS xsB = R at cS cI hlen
  clear hR
  obtain ⟨R0, R1⟩ := R
  try dsimp only [Three] at cS cI hlen
  have HS := Lib.hid cS
  have HI := Lib.hid cI
  clear cS cI
  go_enter Try.func8, Try.ntmps8
  go_wp2_with fail
  go_at_call 37
  refine (toB _ sB (by omega)).mono ?_
  rintro e w1 ⟨ad1, n1, cap1, rfl, r1, bl⟩
  have z1 := bl.size
  replace sB := sB.below bl (by omega)
  replace frm := frm.trans (bl.mono (by omega))
  clear bl
  have q1 : n1 ≤ 1048576 := by have h1 := r1.len; have h2 := sB.len; omega
  go_wp2_with fail
  go_at_call 15
  refine (HS.out _ _ _ _ _ _ r1.sl (by omega)).mono ?_
  rintro e w2 ⟨ad2, n2, cap2, rfl, r2, bl⟩
  have z2 := bl.size
  replace sB := sB.below bl (by omega)
  replace frm := frm.trans (bl.mono (by omega))
  clear bl
  have q2 : n2 ≤ 17592186044416 := by have h1 := r2.len; omega
  clear r1
  go_wp2_with fail
  go_at_call 37
  refine (toB _ sB (by omega)).mono ?_
  rintro e w3 ⟨ad3, n3, cap3, rfl, r3, bl⟩
  have z3 := bl.size
  replace sB := sB.below bl (by omega)
  replace r2 := r2.below bl (by omega)
  replace frm := frm.trans (bl.mono (by omega))
  clear bl
  have q3 : n3 ≤ 1048576 := by have h1 := r3.len; have h2 := sB.len; omega
  go_wp2_with fail
  go_at_call 14
  refine (HI.out _ _ _ _ _ _ r3.sl (by omega)).mono ?_
  rintro e w4 ⟨ad4, n4, cap4, rfl, r4, bl⟩
  have z4 := bl.size
  replace sB := sB.below bl (by omega)
  replace r2 := r2.below bl (by omega)
  replace r3 := r3.below bl (by omega)
  replace frm := frm.trans (bl.mono (by omega))
  clear bl
  have q4 : n4 ≤ 17592186044416 := by have h1 := r4.len; omega
  go_wp2_with fail
  go_at_call 29
  refine (eqI _ r4.sl r2.sl (by omega) rfl).mono ?_
  rintro e w5 ⟨rfl, bl⟩
  have z5 := bl.size
  replace sB := sB.below bl (by omega)
  replace r2 := r2.below bl (by omega)
  replace r3 := r3.below bl (by omega)
  replace r4 := r4.below bl (by omega)
  replace frm := frm.trans (bl.mono (by omega))
  clear bl
  go_wp2_with fail
  go_at_call 37
  refine (toB _ sB (by omega)).mono ?_
  rintro e w6 ⟨ad6, n6, cap6, rfl, r6, bl⟩
  have z6 := bl.size
  replace sB := sB.below bl (by omega)
  replace r2 := r2.below bl (by omega)
  replace r3 := r3.below bl (by omega)
  replace r4 := r4.below bl (by omega)
  replace frm := frm.trans (bl.mono (by omega))
  clear bl
  have q6 : n6 ≤ 1048576 := by have h1 := r6.len; have h2 := sB.len; omega
  go_wp2_with fail
  go_at_call 31
  refine (eqB _ r3.sl r6.sl (by omega) rfl).mono ?_
  rintro e w7 ⟨rfl, bl⟩
  have z7 := bl.size
  replace sB := sB.below bl (by omega)
  replace r2 := r2.below bl (by omega)
  replace r3 := r3.below bl (by omega)
  replace r4 := r4.below bl (by omega)
  replace frm := frm.trans (bl.mono (by omega))
  clear bl
  clear r6
  go_wp2_with fail
  go_at_call 33
  refine (markB _ r3 (by omega) 1 (by omega) (by omega)).mono ?_
  rintro e w9 ⟨rfl, new, mv⟩
  have z9 := mv.size
  replace sB := sB.mv mv (by omega)
  replace r2 := r2.mv mv (by omega)
  replace r4 := r4.mv mv (by omega)
  replace frm := frm.trans (mv.below (by omega) (by omega))
  clear new mv
  clear r3
  go_wp2_with fail
  go_at_call 29
  refine (eqI _ r4.sl r2.sl (by omega) rfl).mono ?_
  rintro e w10 ⟨rfl, bl⟩
  have z10 := bl.size
  replace sB := sB.below bl (by omega)
  replace r2 := r2.below bl (by omega)
  replace r4 := r4.below bl (by omega)
  replace frm := frm.trans (bl.mono (by omega))
  clear bl
  go_wp2_with fail
  go_at_call 32
  refine (markI _ r4 (by omega) 1 (by omega) (by omega)).mono ?_
  rintro e w12 ⟨rfl, new, mv⟩
  have z12 := mv.size
  replace sB := sB.mv mv (by omega)
  replace r2 := r2.mv mv (by omega)
  replace frm := frm.trans (mv.below (by omega) (by omega))
  have r4m := new
  clear new mv
  go_wp2_with fail
  go_at_call 38
  refine (heldI _ 1 r4m.sl (by omega) (by omega) (by omega)).mono ?_
  rintro e w14 ⟨rfl, bl⟩
  have z14 := bl.size
  replace sB := sB.below bl (by omega)
  replace r2 := r2.below bl (by omega)
  replace r4m := r4m.below bl (by omega)
  replace frm := frm.trans (bl.mono (by omega))
  clear bl
  go_wp2_with fail
  go_at_call 37
  refine (toB _ sB (by omega)).mono ?_
  rintro e w15 ⟨ad15, n15, cap15, rfl, r15, bl⟩
  have z15 := bl.size
  replace r2 := r2.below bl (by omega)
  replace r4m := r4m.below bl (by omega)
  replace frm := frm.trans (bl.mono (by omega))
  clear bl
  have q15 : n15 ≤ 1048576 := by have h1 := r15.len; have h2 := sB.len; omega
  go_wp2_with fail
  go_at_call 14
  refine (HI.out _ _ _ _ _ _ r15.sl (by omega)).mono ?_
  rintro e w16 ⟨ad16, n16, cap16, rfl, r16, bl⟩
  have z16 := bl.size
  replace r2 := r2.below bl (by omega)
  replace r4m := r4m.below bl (by omega)
  replace frm := frm.trans (bl.mono (by omega))
  clear bl
  have q16 : n16 ≤ 17592186044416 := by have h1 := r16.len; omega
  clear r15
  go_wp2_with fail
  go_at_call 29
  refine (eqI _ r16.sl r2.sl (by omega) rfl).mono ?_
  rintro e w17 ⟨rfl, bl⟩
  have z17 := bl.size
  replace r4m := r4m.below bl (by omega)
  replace frm := frm.trans (bl.mono (by omega))
  clear bl
  clear r2
  clear r16
  go_wp2_with fail
  go_at_call 38
  refine (heldI _ 1 r4m.sl (by omega) (by omega) (by omega)).mono ?_
  rintro e w19 ⟨rfl, bl⟩
  have z19 := bl.size
  replace frm := frm.trans (bl.mono (by omega))
  clear bl
  clear r4m
  go_wp2
  go_ret
  exact ⟨rfl, frm⟩

set_option maxRecDepth 100000 in
theorem exactEncodedSize (w : World) (vV : Value) (adV : Option Addr) (nV capV : Nat) (iaV : Kit.IntsAt .i64 w vV adV nV capV) :
    Calls Try.prog 9 #[vV] w fun e w' => e = .returned (.bool true) ∧ Below w.heap.size w w' := by
  obtain ⟨xsV, rfl, sV⟩ := of_ints iaV
  clear iaV
  rcases Nat.lt_or_ge 1048576 nV with bigV | bigV
  · go_enter Try.func9, Try.ntmps9
    go_wp2
    go_ret
    exact ⟨rfl, Below.refl _ _⟩
  have frm := Below.refl w.heap.size w
  have cS := fun (w' : World) (lV hV : Nat) (adV : Option Addr) (nV capV : Nat) (sV : Sl w' lV hV .i64 adV nV capV xsV) (hnV : nV ≤ 1048576) => (fun w' s h => CoefI.spec_size w' s h) w' sV (by omega)
  have cI := fun (w' : World) (lV hV : Nat) (adV : Option Addr) (nV capV : Nat) (sV : Sl w' lV hV .i64 adV nV capV xsV) (hnV : nV ≤ 1048576) => (fun w' s h => CoefI.size w' s h) w' sV (by omega)
  generalize hR : (((Coef.coef xsV).length : Nat) : Int) = R at cS cI
  clear hR
  have HS := Lib.hid cS
  have HI := Lib.hid cI
  clear cS cI
  go_enter Try.func9, Try.ntmps9
  go_wp2_with fail
  go_at_call 28
  refine (toI _ sV (by omega)).mono ?_
  rintro e w1 ⟨ad1, n1, cap1, rfl, r1, bl⟩
  have z1 := bl.size
  replace sV := sV.below bl (by omega)
  replace frm := frm.trans (bl.mono (by omega))
  clear bl
  have q1 : n1 ≤ 1048576 := by have h1 := r1.len; have h2 := sV.len; omega
  go_wp2_with fail
  go_at_call 39
  refine (HS.out _ _ _ _ _ _ r1.sl (by omega)).mono ?_
  rintro e w2 ⟨rfl, bl⟩
  have z2 := bl.size
  replace sV := sV.below bl (by omega)
  replace frm := frm.trans (bl.mono (by omega))
  clear bl
  clear r1
  go_wp2_with fail
  go_at_call 28
  refine (toI _ sV (by omega)).mono ?_
  rintro e w3 ⟨ad3, n3, cap3, rfl, r3, bl⟩
  have z3 := bl.size
  replace sV := sV.below bl (by omega)
  replace frm := frm.trans (bl.mono (by omega))
  clear bl
  have q3 : n3 ≤ 1048576 := by have h1 := r3.len; have h2 := sV.len; omega
  go_wp2_with fail
  go_at_call 21
  refine (HI.out _ _ _ _ _ _ r3.sl (by omega)).mono ?_
  rintro e w4 ⟨rfl, bl⟩
  have z4 := bl.size
  replace sV := sV.below bl (by omega)
  replace r3 := r3.below bl (by omega)
  replace frm := frm.trans (bl.mono (by omega))
  clear bl
  go_wp2_with fail
  go_at_call 28
  refine (toI _ sV (by omega)).mono ?_
  rintro e w5 ⟨ad5, n5, cap5, rfl, r5, bl⟩
  have z5 := bl.size
  replace r3 := r3.below bl (by omega)
  replace frm := frm.trans (bl.mono (by omega))
  clear bl
  have q5 : n5 ≤ 1048576 := by have h1 := r5.len; have h2 := sV.len; omega
  go_wp2_with fail
  go_at_call 29
  refine (eqI _ r3.sl r5.sl (by omega) rfl).mono ?_
  rintro e w6 ⟨rfl, bl⟩
  have z6 := bl.size
  replace frm := frm.trans (bl.mono (by omega))
  clear bl
  clear r3
  clear r5
  go_wp2
  go_ret
  exact ⟨rfl, frm⟩

set_option maxRecDepth 100000 in
theorem exactDensityPercent (w : World) (vV : Value) (adV : Option Addr) (nV capV : Nat) (iaV : Kit.IntsAt .i64 w vV adV nV capV) :
    Calls Try.prog 10 #[vV] w fun e w' => e = .returned (.bool true) ∧ Below w.heap.size w w' := by
  obtain ⟨xsV, rfl, sV⟩ := of_ints iaV
  clear iaV
  rcases Nat.lt_or_ge 1048576 nV with bigV | bigV
  · go_enter Try.func10, Try.ntmps10
    go_wp2
    go_ret
    exact ⟨rfl, Below.refl _ _⟩
  have frm := Below.refl w.heap.size w
  have cS := fun (w' : World) (lV hV : Nat) (adV : Option Addr) (nV capV : Nat) (sV : Sl w' lV hV .i64 adV nV capV xsV) (hnV : nV ≤ 1048576) => (fun w' s h => (CoefW.spec_dens w' s h).mono FieldW.is_below) w' sV (by omega)
  have cI := fun (w' : World) (lV hV : Nat) (adV : Option Addr) (nV capV : Nat) (sV : Sl w' lV hV .i64 adV nV capV xsV) (hnV : nV ≤ 1048576) => (fun w' s h => (CoefW.impl_dens w' s h).mono FieldW.is_below) w' sV (by omega)
  generalize hR : ((Coef.dens xsV : Nat) : Int) = R at cS cI
  clear hR
  have HS := Lib.hid cS
  have HI := Lib.hid cI
  clear cS cI
  go_enter Try.func10, Try.ntmps10
  go_wp2_with fail
  go_at_call 28
  refine (toI _ sV (by omega)).mono ?_
  rintro e w1 ⟨ad1, n1, cap1, rfl, r1, bl⟩
  have z1 := bl.size
  replace sV := sV.below bl (by omega)
  replace frm := frm.trans (bl.mono (by omega))
  clear bl
  have q1 : n1 ≤ 1048576 := by have h1 := r1.len; have h2 := sV.len; omega
  go_wp2_with fail
  go_at_call 40
  refine (HS.out _ _ _ _ _ _ r1.sl (by omega)).mono ?_
  rintro e w2 ⟨rfl, bl⟩
  have z2 := bl.size
  replace sV := sV.below bl (by omega)
  replace frm := frm.trans (bl.mono (by omega))
  clear bl
  clear r1
  go_wp2_with fail
  go_at_call 28
  refine (toI _ sV (by omega)).mono ?_
  rintro e w3 ⟨ad3, n3, cap3, rfl, r3, bl⟩
  have z3 := bl.size
  replace sV := sV.below bl (by omega)
  replace frm := frm.trans (bl.mono (by omega))
  clear bl
  have q3 : n3 ≤ 1048576 := by have h1 := r3.len; have h2 := sV.len; omega
  go_wp2_with fail
  go_at_call 24
  refine (HI.out _ _ _ _ _ _ r3.sl (by omega)).mono ?_
  rintro e w4 ⟨rfl, bl⟩
  have z4 := bl.size
  replace sV := sV.below bl (by omega)
  replace r3 := r3.below bl (by omega)
  replace frm := frm.trans (bl.mono (by omega))
  clear bl
  go_wp2_with fail
  go_at_call 28
  refine (toI _ sV (by omega)).mono ?_
  rintro e w5 ⟨ad5, n5, cap5, rfl, r5, bl⟩
  have z5 := bl.size
  replace r3 := r3.below bl (by omega)
  replace frm := frm.trans (bl.mono (by omega))
  clear bl
  have q5 : n5 ≤ 1048576 := by have h1 := r5.len; have h2 := sV.len; omega
  go_wp2_with fail
  go_at_call 29
  refine (eqI _ r3.sl r5.sl (by omega) rfl).mono ?_
  rintro e w6 ⟨rfl, bl⟩
  have z6 := bl.size
  replace frm := frm.trans (bl.mono (by omega))
  clear bl
  clear r3
  clear r5
  go_wp2
  go_ret
  exact ⟨rfl, frm⟩

end Go.Proofs.Ytlgmiojlpnoiaaa.LawCoefEx
