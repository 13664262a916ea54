/-
  Exact laws walked, over the contracts of what they call.
-/
import Derived.Test.YtagncoaeochmnaaGF
import Derived.Test.YtagncoaeochmnaaGD
import Derived.Test.YtagncoaeochmnaaGE
namespace Go.Proofs.Ytagncoaeochmnaa.LawElimEx
open Go.ChangeShapes Go.WideShapes Go.ChangeAt Go.RowKit
open Go.Proofs.Ytagncoaeochmnaa.Seq Go.Proofs.Ytagncoaeochmnaa.Help

set_option maxRecDepth 100000 in
set_option maxHeartbeats 1600000 in
theorem exactRowReduce (w : World) (vM : Value) (adM : Option Addr) (nM capM : Nat) (iaM : RowsAt .i64 w vM adM nM capM) :
    Calls Try.prog 6 #[vM] w fun e w' => e = .returned (.bool true) ∧ Below w.heap.size w w' := by
  obtain ⟨xsM, rfl, sM⟩ := of_rows iaM
  clear iaM
  have frm := Below.refl w.heap.size w
  go_enter Try.func6, Try.ntmps6
  go_wp2_with fail
  go_at_call 38
  refine (szSS_small w sM 1048576 (by omega) (by omega)).mono ?_
  rintro e w' ⟨leftM, rfl, leM, riM, smM, rfl⟩
  by_cases hlM : 0 ≤ leftM
  case neg =>
    clear smM
    go_wp2
    go_ret
    exact ⟨rfl, Below.refl _ _⟩
  replace smM := smM hlM
  have ssM := smM.sum
  have snM := smM.len
  rw [sM.len] at snM
  have hrowM := Lib.hid smM.rows
  have cS := fun (w' : World) (lM hM : Nat) (adM : Option Addr) (nM capM : Nat) (sM : Sls w' lM hM adM nM capM xsM) (hnM : nM ≤ 1048576) (hrM : ∀ xs ∈ xsM, xs.length ≤ 17592186044416) => (fun w' s _ _ => RedW.spec_rref w' s) w' sM (by omega) hrM
  have cI := fun (w' : World) (lM hM : Nat) (adM : Option Addr) (nM capM : Nat) (sM : Sls w' lM hM adM nM capM xsM) (hnM : nM ≤ 1048576) (hrM : ∀ xs ∈ xsM, xs.length ≤ 17592186044416) => ElimI.rref w' sM (by omega) hrM
  have hsm : Small (Rref.rref xsM) := by exact (show MatOps.Few (Rref.rref xsM) from RedW.few_rref xsM).small
  generalize hR : Rref.rref xsM = R at cS cI hsm
  clear hR
  have HS := Lib.hid cS
  have HI := Lib.hid cI
  clear cS cI
  have hsmS := hsm.sum
  have hsmL := hsm.len
  go_wp2_with fail
  go_at_call 40
  refine (toSS _ sM (by omega) hrowM.out).mono ?_
  rintro e w1 ⟨ad1, n1, cap1, us1, rfl, r1, bl⟩
  have z1 := bl.size
  replace sM := sM.below bl (by omega)
  replace frm := frm.trans (bl.mono (by omega))
  clear bl
  have q1 : n1 ≤ 1048576 := by have h1 := r1.len; have h2 := sM.len; omega
  go_wp2_with fail
  go_at_call 39
  refine (HS.out _ _ _ _ _ _ r1.sls (by omega) hrowM.out).mono ?_
  rintro e w2 ⟨ad2, n2, cap2, rfl, r2, bl⟩
  have z2 := bl.size
  replace sM := sM.below bl (by omega)
  replace frm := frm.trans (bl.mono (by omega))
  clear bl
  have q2 : n2 ≤ 1048576 := by have h1 := r2.len; have h2 := hsm.len; omega
  clear r1
  go_wp2_with fail
  go_at_call 40
  refine (toSS _ sM (by omega) hrowM.out).mono ?_
  rintro e w3 ⟨ad3, n3, cap3, us3, rfl, r3, bl⟩
  have z3 := bl.size
  replace sM := sM.below bl (by omega)
  replace r2 := r2.below bl (by omega)
  replace frm := frm.trans (bl.mono (by omega))
  clear bl
  have q3 : n3 ≤ 1048576 := by have h1 := r3.len; have h2 := sM.len; omega
  go_wp2_with fail
  go_at_call 15
  refine (HI.out _ _ _ _ _ _ r3.sls (by omega) hrowM.out).mono ?_
  rintro e w4 ⟨ad4, n4, cap4, us4, rfl, r4, bl⟩
  have z4 := bl.size
  replace sM := sM.below bl (by omega)
  replace r2 := r2.below bl (by omega)
  replace r3 := r3.below bl (by omega)
  replace frm := frm.trans (bl.mono (by omega))
  clear bl
  have q4 : n4 ≤ 1048576 := by have h1 := r4.len; have h2 := hsm.len; omega
  go_wp2_with fail
  go_at_call 41
  refine (eqSS _ r4.sls r2 (by omega) hsm.rows rfl).mono ?_
  rintro e w5 ⟨rfl, bl⟩
  have z5 := bl.size
  replace sM := sM.below bl (by omega)
  replace r2 := r2.below bl (by omega)
  replace r3 := r3.below bl (by omega)
  replace r4 := r4.below bl (by omega)
  replace frm := frm.trans (bl.mono (by omega))
  clear bl
  go_wp2_with fail
  go_at_call 40
  refine (toSS _ sM (by omega) hrowM.out).mono ?_
  rintro e w6 ⟨ad6, n6, cap6, us6, rfl, r6, bl⟩
  have z6 := bl.size
  replace sM := sM.below bl (by omega)
  replace r2 := r2.below bl (by omega)
  replace r3 := r3.below bl (by omega)
  replace r4 := r4.below bl (by omega)
  replace frm := frm.trans (bl.mono (by omega))
  clear bl
  have q6 : n6 ≤ 1048576 := by have h1 := r6.len; have h2 := sM.len; omega
  go_wp2_with fail
  go_at_call 41
  refine (eqSS _ r3.sls r6.sls (by omega) hrowM.out rfl).mono ?_
  rintro e w7 ⟨rfl, bl⟩
  have z7 := bl.size
  replace sM := sM.below bl (by omega)
  replace r2 := r2.below bl (by omega)
  replace r3 := r3.below bl (by omega)
  replace r4 := r4.below bl (by omega)
  replace frm := frm.trans (bl.mono (by omega))
  clear bl
  clear r6
  go_wp2_with fail
  go_at_call 42
  refine (markSS _ r3 (by omega) (by omega) 1 (by omega) (by omega)).mono ?_
  rintro e w9 ⟨rfl, new, mv⟩
  have z9 := mv.size
  replace sM := sM.mv mv (by omega)
  replace r2 := r2.mv mv (by omega)
  replace r4 := r4.mv mv (by omega)
  replace frm := frm.trans (mv.below (by omega) (by omega))
  clear new mv
  clear r3
  go_wp2_with fail
  go_at_call 41
  refine (eqSS _ r4.sls r2 (by omega) hsm.rows rfl).mono ?_
  rintro e w10 ⟨rfl, bl⟩
  have z10 := bl.size
  replace sM := sM.below bl (by omega)
  replace r2 := r2.below bl (by omega)
  replace r4 := r4.below bl (by omega)
  replace frm := frm.trans (bl.mono (by omega))
  clear bl
  go_wp2_with fail
  go_at_call 42
  refine (markSSN _ r4 (by omega) (by omega) 1 (by omega) (by omega)).mono ?_
  rintro e w12 ⟨rfl, new, mv⟩
  have z12 := mv.size
  replace sM := sM.mv mv (by omega)
  replace r2 := r2.mv mv (by omega)
  replace frm := frm.trans (mv.below (by omega) (by omega))
  have r4m := new
  clear new mv
  go_wp2_with fail
  go_at_call 43
  refine (heldSS _ 1 r4m.sls (by omega) (by omega) (by omega) (by omega)).mono ?_
  rintro e w14 ⟨rfl, bl⟩
  have z14 := bl.size
  replace sM := sM.below bl (by omega)
  replace r2 := r2.below bl (by omega)
  replace r4m := r4m.below bl (by omega)
  replace frm := frm.trans (bl.mono (by omega))
  clear bl
  go_wp2_with fail
  go_at_call 40
  refine (toSS _ sM (by omega) hrowM.out).mono ?_
  rintro e w15 ⟨ad15, n15, cap15, us15, rfl, r15, bl⟩
  have z15 := bl.size
  replace r2 := r2.below bl (by omega)
  replace r4m := r4m.below bl (by omega)
  replace frm := frm.trans (bl.mono (by omega))
  clear bl
  have q15 : n15 ≤ 1048576 := by have h1 := r15.len; have h2 := sM.len; omega
  go_wp2_with fail
  go_at_call 15
  refine (HI.out _ _ _ _ _ _ r15.sls (by omega) hrowM.out).mono ?_
  rintro e w16 ⟨ad16, n16, cap16, us16, rfl, r16, bl⟩
  have z16 := bl.size
  replace r2 := r2.below bl (by omega)
  replace r4m := r4m.below bl (by omega)
  replace frm := frm.trans (bl.mono (by omega))
  clear bl
  have q16 : n16 ≤ 1048576 := by have h1 := r16.len; have h2 := hsm.len; omega
  clear r15
  go_wp2_with fail
  go_at_call 41
  refine (eqSS _ r16.sls r2 (by omega) hsm.rows rfl).mono ?_
  rintro e w17 ⟨rfl, bl⟩
  have z17 := bl.size
  replace r4m := r4m.below bl (by omega)
  replace frm := frm.trans (bl.mono (by omega))
  clear bl
  clear r16
  go_wp2_with fail
  go_at_call 43
  refine (heldSS _ 1 r4m.sls (by omega) (by omega) (by omega) (by omega)).mono ?_
  rintro e w19 ⟨rfl, bl⟩
  have z19 := bl.size
  replace frm := frm.trans (bl.mono (by omega))
  clear bl
  clear r4m
  go_wp2
  go_ret
  exact ⟨rfl, frm⟩

set_option maxRecDepth 100000 in
set_option maxHeartbeats 1600000 in
theorem exactIsReduced (w : World) (vM : Value) (adM : Option Addr) (nM capM : Nat) (iaM : RowsAt .i64 w vM adM nM capM) :
    Calls Try.prog 7 #[vM] w fun e w' => e = .returned (.bool true) ∧ Below w.heap.size w w' := by
  obtain ⟨xsM, rfl, sM⟩ := of_rows iaM
  clear iaM
  have frm := Below.refl w.heap.size w
  go_enter Try.func7, Try.ntmps7
  go_wp2_with fail
  go_at_call 38
  refine (szSS_small w sM 1048576 (by omega) (by omega)).mono ?_
  rintro e w' ⟨leftM, rfl, leM, riM, smM, rfl⟩
  by_cases hlM : 0 ≤ leftM
  case neg =>
    clear smM
    go_wp2
    go_ret
    exact ⟨rfl, Below.refl _ _⟩
  replace smM := smM hlM
  have ssM := smM.sum
  have snM := smM.len
  rw [sM.len] at snM
  have hrowM := Lib.hid smM.rows
  have cS := fun (w' : World) (lM hM : Nat) (adM : Option Addr) (nM capM : Nat) (sM : Sls w' lM hM adM nM capM xsM) (hnM : nM ≤ 1048576) (hrM : ∀ xs ∈ xsM, xs.length ≤ 17592186044416) => (fun w' s _ _ => RedW.spec_isRed w' s) w' sM (by omega) hrM
  have cI := fun (w' : World) (lM hM : Nat) (adM : Option Addr) (nM capM : Nat) (sM : Sls w' lM hM adM nM capM xsM) (hnM : nM ≤ 1048576) (hrM : ∀ xs ∈ xsM, xs.length ≤ 17592186044416) => ElimI.isRed w' sM (by omega) hrM
  generalize hR : RedW.isRed xsM = R at cS cI
  clear hR
  have HS := Lib.hid cS
  have HI := Lib.hid cI
  clear cS cI
  go_wp2_with fail
  go_at_call 40
  refine (toSS _ sM (by omega) hrowM.out).mono ?_
  rintro e w1 ⟨ad1, n1, cap1, us1, rfl, r1, bl⟩
  have z1 := bl.size
  replace sM := sM.below bl (by omega)
  replace frm := frm.trans (bl.mono (by omega))
  clear bl
  have q1 : n1 ≤ 1048576 := by have h1 := r1.len; have h2 := sM.len; omega
  go_wp2_with fail
  go_at_call 44
  refine (HS.out _ _ _ _ _ _ r1.sls (by omega) hrowM.out).mono ?_
  rintro e w2 ⟨rfl, bl⟩
  have z2 := bl.size
  replace sM := sM.below bl (by omega)
  replace frm := frm.trans (bl.mono (by omega))
  clear bl
  clear r1
  go_wp2_with fail
  go_at_call 40
  refine (toSS _ sM (by omega) hrowM.out).mono ?_
  rintro e w3 ⟨ad3, n3, cap3, us3, rfl, r3, bl⟩
  have z3 := bl.size
  replace sM := sM.below bl (by omega)
  replace frm := frm.trans (bl.mono (by omega))
  clear bl
  have q3 : n3 ≤ 1048576 := by have h1 := r3.len; have h2 := sM.len; omega
  go_wp2_with fail
  go_at_call 18
  refine (HI.out _ _ _ _ _ _ r3.sls (by omega) hrowM.out).mono ?_
  rintro e w4 ⟨rfl, bl⟩
  have z4 := bl.size
  replace sM := sM.below bl (by omega)
  replace r3 := r3.below bl (by omega)
  replace frm := frm.trans (bl.mono (by omega))
  clear bl
  go_wp2_with fail
  go_at_call 40
  refine (toSS _ sM (by omega) hrowM.out).mono ?_
  rintro e w5 ⟨ad5, n5, cap5, us5, rfl, r5, bl⟩
  have z5 := bl.size
  replace r3 := r3.below bl (by omega)
  replace frm := frm.trans (bl.mono (by omega))
  clear bl
  have q5 : n5 ≤ 1048576 := by have h1 := r5.len; have h2 := sM.len; omega
  go_wp2_with fail
  go_at_call 41
  refine (eqSS _ r3.sls r5.sls (by omega) hrowM.out rfl).mono ?_
  rintro e w6 ⟨rfl, bl⟩
  have z6 := bl.size
  replace frm := frm.trans (bl.mono (by omega))
  clear bl
  clear r3
  clear r5
  go_wp2
  go_ret
  exact ⟨rfl, frm⟩

set_option maxRecDepth 100000 in
set_option maxHeartbeats 1600000 in
theorem exactRank (w : World) (vM : Value) (adM : Option Addr) (nM capM : Nat) (iaM : RowsAt .i64 w vM adM nM capM) :
    Calls Try.prog 8 #[vM] w fun e w' => e = .returned (.bool true) ∧ Below w.heap.size w w' := by
  obtain ⟨xsM, rfl, sM⟩ := of_rows iaM
  clear iaM
  have frm := Below.refl w.heap.size w
  go_enter Try.func8, Try.ntmps8
  go_wp2_with fail
  go_at_call 38
  refine (szSS_small w sM 1048576 (by omega) (by omega)).mono ?_
  rintro e w' ⟨leftM, rfl, leM, riM, smM, rfl⟩
  by_cases hlM : 0 ≤ leftM
  case neg =>
    clear smM
    go_wp2
    go_ret
    exact ⟨rfl, Below.refl _ _⟩
  replace smM := smM hlM
  have ssM := smM.sum
  have snM := smM.len
  rw [sM.len] at snM
  have hrowM := Lib.hid smM.rows
  have cS := fun (w' : World) (lM hM : Nat) (adM : Option Addr) (nM capM : Nat) (sM : Sls w' lM hM adM nM capM xsM) (hnM : nM ≤ 1048576) (hrM : ∀ xs ∈ xsM, xs.length ≤ 17592186044416) => (fun w' s _ _ => RedW.spec_rank w' s) w' sM (by omega) hrM
  have cI := fun (w' : World) (lM hM : Nat) (adM : Option Addr) (nM capM : Nat) (sM : Sls w' lM hM adM nM capM xsM) (hnM : nM ≤ 1048576) (hrM : ∀ xs ∈ xsM, xs.length ≤ 17592186044416) => ElimI.rank w' sM (by omega) hrM
  generalize hR : ((Rref.rref xsM).length : Int) = R at cS cI
  clear hR
  have HS := Lib.hid cS
  have HI := Lib.hid cI
  clear cS cI
  go_wp2_with fail
  go_at_call 40
  refine (toSS _ sM (by omega) hrowM.out).mono ?_
  rintro e w1 ⟨ad1, n1, cap1, us1, rfl, r1, bl⟩
  have z1 := bl.size
  replace sM := sM.below bl (by omega)
  replace frm := frm.trans (bl.mono (by omega))
  clear bl
  have q1 : n1 ≤ 1048576 := by have h1 := r1.len; have h2 := sM.len; omega
  go_wp2_with fail
  go_at_call 27
  refine (HS.out _ _ _ _ _ _ r1.sls (by omega) hrowM.out).mono ?_
  rintro e w2 ⟨rfl, bl⟩
  have z2 := bl.size
  replace sM := sM.below bl (by omega)
  replace frm := frm.trans (bl.mono (by omega))
  clear bl
  clear r1
  go_wp2_with fail
  go_at_call 40
  refine (toSS _ sM (by omega) hrowM.out).mono ?_
  rintro e w3 ⟨ad3, n3, cap3, us3, rfl, r3, bl⟩
  have z3 := bl.size
  replace sM := sM.below bl (by omega)
  replace frm := frm.trans (bl.mono (by omega))
  clear bl
  have q3 : n3 ≤ 1048576 := by have h1 := r3.len; have h2 := sM.len; omega
  go_wp2_with fail
  go_at_call 20
  refine (HI.out _ _ _ _ _ _ r3.sls (by omega) hrowM.out).mono ?_
  rintro e w4 ⟨rfl, bl⟩
  have z4 := bl.size
  replace sM := sM.below bl (by omega)
  replace r3 := r3.below bl (by omega)
  replace frm := frm.trans (bl.mono (by omega))
  clear bl
  go_wp2_with fail
  go_at_call 40
  refine (toSS _ sM (by omega) hrowM.out).mono ?_
  rintro e w5 ⟨ad5, n5, cap5, us5, rfl, r5, bl⟩
  have z5 := bl.size
  replace r3 := r3.below bl (by omega)
  replace frm := frm.trans (bl.mono (by omega))
  clear bl
  have q5 : n5 ≤ 1048576 := by have h1 := r5.len; have h2 := sM.len; omega
  go_wp2_with fail
  go_at_call 41
  refine (eqSS _ r3.sls r5.sls (by omega) hrowM.out rfl).mono ?_
  rintro e w6 ⟨rfl, bl⟩
  have z6 := bl.size
  replace frm := frm.trans (bl.mono (by omega))
  clear bl
  clear r3
  clear r5
  go_wp2
  go_ret
  exact ⟨rfl, frm⟩

set_option maxRecDepth 100000 in
set_option maxHeartbeats 1600000 in
theorem exactDeterminant (w : World) (vM : Value) (adM : Option Addr) (nM capM : Nat) (iaM : RowsAt .i64 w vM adM nM capM) :
    Calls Try.prog 9 #[vM] w fun e w' => e = .returned (.bool true) ∧ Below w.heap.size w w' := by
  obtain ⟨xsM, rfl, sM⟩ := of_rows iaM
  clear iaM
  have frm := Below.refl w.heap.size w
  go_enter Try.func9, Try.ntmps9
  go_wp2_with fail
  go_at_call 38
  refine (szSS_small w sM 1048576 (by omega) (by omega)).mono ?_
  rintro e w' ⟨leftM, rfl, leM, riM, smM, rfl⟩
  by_cases hlM : 0 ≤ leftM
  case neg =>
    clear smM
    go_wp2
    go_ret
    exact ⟨rfl, Below.refl _ _⟩
  replace smM := smM hlM
  have ssM := smM.sum
  have snM := smM.len
  rw [sM.len] at snM
  have hrowM := Lib.hid smM.rows
  have cS := fun (w' : World) (lM hM : Nat) (adM : Option Addr) (nM capM : Nat) (sM : Sls w' lM hM adM nM capM xsM) (hnM : nM ≤ 1048576) (hrM : ∀ xs ∈ xsM, xs.length ≤ 17592186044416) => (fun w' s _ _ => RedW.spec_det w' s) w' sM (by omega) hrM
  have cI := fun (w' : World) (lM hM : Nat) (adM : Option Addr) (nM capM : Nat) (sM : Sls w' lM hM adM nM capM xsM) (hnM : nM ≤ 1048576) (hrM : ∀ xs ∈ xsM, xs.length ≤ 17592186044416) => ElimI.det w' sM (by omega) hrM
  generalize hR : InvP.detM xsM = R at cS cI
  clear hR
  have HS := Lib.hid cS
  have HI := Lib.hid cI
  clear cS cI
  go_wp2_with fail
  go_at_call 40
  refine (toSS _ sM (by omega) hrowM.out).mono ?_
  rintro e w1 ⟨ad1, n1, cap1, us1, rfl, r1, bl⟩
  have z1 := bl.size
  replace sM := sM.below bl (by omega)
  replace frm := frm.trans (bl.mono (by omega))
  clear bl
  have q1 : n1 ≤ 1048576 := by have h1 := r1.len; have h2 := sM.len; omega
  go_wp2_with fail
  go_at_call 45
  refine (HS.out _ _ _ _ _ _ r1.sls (by omega) hrowM.out).mono ?_
  rintro e w2 ⟨rfl, bl⟩
  have z2 := bl.size
  replace sM := sM.below bl (by omega)
  replace frm := frm.trans (bl.mono (by omega))
  clear bl
  clear r1
  go_wp2_with fail
  go_at_call 40
  refine (toSS _ sM (by omega) hrowM.out).mono ?_
  rintro e w3 ⟨ad3, n3, cap3, us3, rfl, r3, bl⟩
  have z3 := bl.size
  replace sM := sM.below bl (by omega)
  replace frm := frm.trans (bl.mono (by omega))
  clear bl
  have q3 : n3 ≤ 1048576 := by have h1 := r3.len; have h2 := sM.len; omega
  go_wp2_with fail
  go_at_call 26
  refine (HI.out _ _ _ _ _ _ r3.sls (by omega) hrowM.out).mono ?_
  rintro e w4 ⟨rfl, bl⟩
  have z4 := bl.size
  replace sM := sM.below bl (by omega)
  replace r3 := r3.below bl (by omega)
  replace frm := frm.trans (bl.mono (by omega))
  clear bl
  go_wp2_with fail
  go_at_call 40
  refine (toSS _ sM (by omega) hrowM.out).mono ?_
  rintro e w5 ⟨ad5, n5, cap5, us5, rfl, r5, bl⟩
  have z5 := bl.size
  replace r3 := r3.below bl (by omega)
  replace frm := frm.trans (bl.mono (by omega))
  clear bl
  have q5 : n5 ≤ 1048576 := by have h1 := r5.len; have h2 := sM.len; omega
  go_wp2_with fail
  go_at_call 41
  refine (eqSS _ r3.sls r5.sls (by omega) hrowM.out rfl).mono ?_
  rintro e w6 ⟨rfl, bl⟩
  have z6 := bl.size
  replace frm := frm.trans (bl.mono (by omega))
  clear bl
  clear r3
  clear r5
  go_wp2
  go_ret
  exact ⟨rfl, frm⟩

set_option maxRecDepth 100000 in
set_option maxHeartbeats 1600000 in
theorem exactInvertMatrix (w : World) (vM : Value) (adM : Option Addr) (nM capM : Nat) (iaM : RowsAt .i64 w vM adM nM capM) :
    Calls Try.prog 10 #[vM] w fun e w' => e = .returned (.bool true) ∧ Below w.heap.size w w' := by
  obtain ⟨xsM, rfl, sM⟩ := of_rows iaM
  clear iaM
  have frm := Below.refl w.heap.size w
  go_enter Try.func10, Try.ntmps10
  go_wp2_with fail
  go_at_call 38
  refine (szSS_small w sM 1048576 (by omega) (by omega)).mono ?_
  rintro e w' ⟨leftM, rfl, leM, riM, smM, rfl⟩
  by_cases hlM : 0 ≤ leftM
  case neg =>
    clear smM
    go_wp2
    go_ret
    exact ⟨rfl, Below.refl _ _⟩
  replace smM := smM hlM
  have ssM := smM.sum
  have snM := smM.len
  rw [sM.len] at snM
  have hrowM := Lib.hid smM.rows
  have cS := fun (w' : World) (lM hM : Nat) (adM : Option Addr) (nM capM : Nat) (sM : Sls w' lM hM adM nM capM xsM) (hnM : nM ≤ 1048576) (hrM : ∀ xs ∈ xsM, xs.length ≤ 17592186044416) => (fun w' s _ _ => ElimOps.spec_invR w' s) w' sM (by omega) hrM
  have cI := fun (w' : World) (lM hM : Nat) (adM : Option Addr) (nM capM : Nat) (sM : Sls w' lM hM adM nM capM xsM) (hnM : nM ≤ 1048576) (hrM : ∀ xs ∈ xsM, xs.length ≤ 17592186044416) => ElimI.inv w' sM (by omega) hrM
  have hsm : Small (ElimOps.invR xsM).1 := by exact (ElimOps.few_invR xsM).small
  generalize hR : ElimOps.invR xsM = R at cS cI hsm
  clear hR
  obtain ⟨R0, R1⟩ := R
  try dsimp only [Three] at cS cI hsm
  have HS := Lib.hid cS
  have HI := Lib.hid cI
  clear cS cI
  have hsmS := hsm.sum
  have hsmL := hsm.len
  go_wp2_with fail
  go_at_call 40
  refine (toSS _ sM (by omega) hrowM.out).mono ?_
  rintro e w1 ⟨ad1, n1, cap1, us1, rfl, r1, bl⟩
  have z1 := bl.size
  replace sM := sM.below bl (by omega)
  replace frm := frm.trans (bl.mono (by omega))
  clear bl
  have q1 : n1 ≤ 1048576 := by have h1 := r1.len; have h2 := sM.len; omega
  go_wp2_with fail
  go_at_call 46
  refine (HS.out _ _ _ _ _ _ r1.sls (by omega) hrowM.out).mono ?_
  rintro e w2 ⟨ad2, n2, cap2, us2, rfl, r2, bl⟩
  have z2 := bl.size
  replace sM := sM.below bl (by omega)
  replace frm := frm.trans (bl.mono (by omega))
  clear bl
  have q2 : n2 ≤ 1048576 := by have h1 := r2.len; have h2 := hsm.len; omega
  clear r1
  go_wp2_with fail
  go_at_call 40
  refine (toSS _ sM (by omega) hrowM.out).mono ?_
  rintro e w3 ⟨ad3, n3, cap3, us3, rfl, r3, bl⟩
  have z3 := bl.size
  replace sM := sM.below bl (by omega)
  replace r2 := r2.below bl (by omega)
  replace frm := frm.trans (bl.mono (by omega))
  clear bl
  have q3 : n3 ≤ 1048576 := by have h1 := r3.len; have h2 := sM.len; omega
  go_wp2_with fail
  go_at_call 25
  refine (HI.out _ _ _ _ _ _ r3.sls (by omega) hrowM.out).mono ?_
  rintro e w4 ⟨ad4, n4, cap4, us4, rfl, r4, bl⟩
  have z4 := bl.size
  replace sM := sM.below bl (by omega)
  replace r2 := r2.below bl (by omega)
  replace r3 := r3.below bl (by omega)
  replace frm := frm.trans (bl.mono (by omega))
  clear bl
  have q4 : n4 ≤ 1048576 := by have h1 := r4.len; have h2 := hsm.len; omega
  go_wp2_with fail
  go_at_call 41
  refine (eqSS _ r4.sls r2.sls (by omega) hsm.rows rfl).mono ?_
  rintro e w5 ⟨rfl, bl⟩
  have z5 := bl.size
  replace sM := sM.below bl (by omega)
  replace r2 := r2.below bl (by omega)
  replace r3 := r3.below bl (by omega)
  replace r4 := r4.below bl (by omega)
  replace frm := frm.trans (bl.mono (by omega))
  clear bl
  go_wp2_with fail
  go_at_call 40
  refine (toSS _ sM (by omega) hrowM.out).mono ?_
  rintro e w6 ⟨ad6, n6, cap6, us6, rfl, r6, bl⟩
  have z6 := bl.size
  replace sM := sM.below bl (by omega)
  replace r2 := r2.below bl (by omega)
  replace r3 := r3.below bl (by omega)
  replace r4 := r4.below bl (by omega)
  replace frm := frm.trans (bl.mono (by omega))
  clear bl
  have q6 : n6 ≤ 1048576 := by have h1 := r6.len; have h2 := sM.len; omega
  go_wp2_with fail
  go_at_call 41
  refine (eqSS _ r3.sls r6.sls (by omega) hrowM.out rfl).mono ?_
  rintro e w7 ⟨rfl, bl⟩
  have z7 := bl.size
  replace sM := sM.below bl (by omega)
  replace r2 := r2.below bl (by omega)
  replace r3 := r3.below bl (by omega)
  replace r4 := r4.below bl (by omega)
  replace frm := frm.trans (bl.mono (by omega))
  clear bl
  clear r6
  go_wp2_with fail
  go_at_call 42
  refine (markSS _ r3 (by omega) (by omega) 1 (by omega) (by omega)).mono ?_
  rintro e w9 ⟨rfl, new, mv⟩
  have z9 := mv.size
  replace sM := sM.mv mv (by omega)
  replace r2 := r2.mv mv (by omega)
  replace r4 := r4.mv mv (by omega)
  replace frm := frm.trans (mv.below (by omega) (by omega))
  clear new mv
  clear r3
  go_wp2_with fail
  go_at_call 41
  refine (eqSS _ r4.sls r2.sls (by omega) hsm.rows rfl).mono ?_
  rintro e w10 ⟨rfl, bl⟩
  have z10 := bl.size
  replace sM := sM.below bl (by omega)
  replace r2 := r2.below bl (by omega)
  replace r4 := r4.below bl (by omega)
  replace frm := frm.trans (bl.mono (by omega))
  clear bl
  go_wp2_with fail
  go_at_call 42
  refine (markSSN _ r4 (by omega) (by omega) 1 (by omega) (by omega)).mono ?_
  rintro e w12 ⟨rfl, new, mv⟩
  have z12 := mv.size
  replace sM := sM.mv mv (by omega)
  replace r2 := r2.mv mv (by omega)
  replace frm := frm.trans (mv.below (by omega) (by omega))
  have r4m := new
  clear new mv
  go_wp2_with fail
  go_at_call 43
  refine (heldSS _ 1 r4m.sls (by omega) (by omega) (by omega) (by omega)).mono ?_
  rintro e w14 ⟨rfl, bl⟩
  have z14 := bl.size
  replace sM := sM.below bl (by omega)
  replace r2 := r2.below bl (by omega)
  replace r4m := r4m.below bl (by omega)
  replace frm := frm.trans (bl.mono (by omega))
  clear bl
  go_wp2_with fail
  go_at_call 40
  refine (toSS _ sM (by omega) hrowM.out).mono ?_
  rintro e w15 ⟨ad15, n15, cap15, us15, rfl, r15, bl⟩
  have z15 := bl.size
  replace r2 := r2.below bl (by omega)
  replace r4m := r4m.below bl (by omega)
  replace frm := frm.trans (bl.mono (by omega))
  clear bl
  have q15 : n15 ≤ 1048576 := by have h1 := r15.len; have h2 := sM.len; omega
  go_wp2_with fail
  go_at_call 25
  refine (HI.out _ _ _ _ _ _ r15.sls (by omega) hrowM.out).mono ?_
  rintro e w16 ⟨ad16, n16, cap16, us16, rfl, r16, bl⟩
  have z16 := bl.size
  replace r2 := r2.below bl (by omega)
  replace r4m := r4m.below bl (by omega)
  replace frm := frm.trans (bl.mono (by omega))
  clear bl
  have q16 : n16 ≤ 1048576 := by have h1 := r16.len; have h2 := hsm.len; omega
  clear r15
  go_wp2_with fail
  go_at_call 41
  refine (eqSS _ r16.sls r2.sls (by omega) hsm.rows rfl).mono ?_
  rintro e w17 ⟨rfl, bl⟩
  have z17 := bl.size
  replace r4m := r4m.below bl (by omega)
  replace frm := frm.trans (bl.mono (by omega))
  clear bl
  clear r2
  clear r16
  go_wp2_with fail
  go_at_call 43
  refine (heldSS _ 1 r4m.sls (by omega) (by omega) (by omega) (by omega)).mono ?_
  rintro e w19 ⟨rfl, bl⟩
  have z19 := bl.size
  replace frm := frm.trans (bl.mono (by omega))
  clear bl
  clear r4m
  go_wp2
  go_ret
  exact ⟨rfl, frm⟩

set_option maxRecDepth 100000 in
set_option maxHeartbeats 1600000 in
theorem exactSolveSystem (w : World) (vM : Value) (adM : Option Addr) (nM capM : Nat) (iaM : RowsAt .i64 w vM adM nM capM) (vB : Value) (adB : Option Addr) (nB capB : Nat) (iaB : Kit.IntsAt .i64 w vB adB nB capB) :
    Calls Try.prog 11 #[vM, vB] w fun e w' => e = .returned (.bool true) ∧ Below w.heap.size w w' := by
  obtain ⟨xsM, rfl, sM⟩ := of_rows iaM
  clear iaM
  obtain ⟨xsB, rfl, sB⟩ := of_ints iaB
  clear iaB
  rcases Nat.lt_or_ge 1048576 nB with bigB | bigB
  · go_enter Try.func11, Try.ntmps11
    go_wp2
    go_ret
    exact ⟨rfl, Below.refl _ _⟩
  have frm := Below.refl w.heap.size w
  go_enter Try.func11, Try.ntmps11
  go_wp2_with fail
  go_at_call 38
  refine (szSS_small w sM 1048576 (by omega) (by omega)).mono ?_
  rintro e w' ⟨leftM, rfl, leM, riM, smM, rfl⟩
  by_cases hlM : 0 ≤ leftM
  case neg =>
    clear smM
    go_wp2
    go_ret
    exact ⟨rfl, Below.refl _ _⟩
  replace smM := smM hlM
  have ssM := smM.sum
  have snM := smM.len
  rw [sM.len] at snM
  have hrowM := Lib.hid smM.rows
  have cS := fun (w' : World) (lM hM : Nat) (adM : Option Addr) (nM capM : Nat) (sM : Sls w' lM hM adM nM capM xsM) (hnM : nM ≤ 1048576) (hrM : ∀ xs ∈ xsM, xs.length ≤ 17592186044416) (lB hB : Nat) (adB : Option Addr) (nB capB : Nat) (sB : Sl w' lB hB .i64 adB nB capB xsB) (hnB : nB ≤ 1048576) => (fun w' s _ _ s2 _ => RedW.spec_solve w' s s2) w' sM (by omega) hrM sB (by omega)
  have cI := fun (w' : World) (lM hM : Nat) (adM : Option Addr) (nM capM : Nat) (sM : Sls w' lM hM adM nM capM xsM) (hnM : nM ≤ 1048576) (hrM : ∀ xs ∈ xsM, xs.length ≤ 17592186044416) (lB hB : Nat) (adB : Option Addr) (nB capB : Nat) (sB : Sl w' lB hB .i64 adB nB capB xsB) (hnB : nB ≤ 1048576) => ElimI.solve w' sM (by omega) hrM sB (by omega)
  have hlen : (SolP.solveM xsM xsB).1.length ≤ 17592186044416 := by have := SolP.few_solve xsM xsB; omega
  generalize hR : SolP.solveM xsM xsB = R at cS cI hlen
  clear hR
  obtain ⟨R0, R1⟩ := R
  try dsimp only [Three] at cS cI hlen
  have HS := Lib.hid cS
  have HI := Lib.hid cI
  clear cS cI
  go_wp2_with fail
  go_at_call 40
  refine (toSS _ sM (by omega) hrowM.out).mono ?_
  rintro e w1 ⟨ad1, n1, cap1, us1, rfl, r1, bl⟩
  have z1 := bl.size
  replace sM := sM.below bl (by omega)
  replace sB := sB.below bl (by omega)
  replace frm := frm.trans (bl.mono (by omega))
  clear bl
  have q1 : n1 ≤ 1048576 := by have h1 := r1.len; have h2 := sM.len; omega
  go_wp2_with fail
  go_at_call 47
  refine (toI _ sB (by omega)).mono ?_
  rintro e w2 ⟨ad2, n2, cap2, rfl, r2, bl⟩
  have z2 := bl.size
  replace sM := sM.below bl (by omega)
  replace sB := sB.below bl (by omega)
  replace r1 := r1.below bl (by omega)
  replace frm := frm.trans (bl.mono (by omega))
  clear bl
  have q2 : n2 ≤ 1048576 := by have h1 := r2.len; have h2 := sB.len; omega
  go_wp2_with fail
  go_at_call 34
  refine (HS.out _ _ _ _ _ _ r1.sls (by omega) hrowM.out  _ _ _ _ _ r2.sl (by omega)).mono ?_
  rintro e w3 ⟨ad3, n3, cap3, rfl, r3, bl⟩
  have z3 := bl.size
  replace sM := sM.below bl (by omega)
  replace sB := sB.below bl (by omega)
  replace frm := frm.trans (bl.mono (by omega))
  clear bl
  have q3 : n3 ≤ 17592186044416 := by have h1 := r3.len; omega
  clear r1
  clear r2
  go_wp2_with fail
  go_at_call 40
  refine (toSS _ sM (by omega) hrowM.out).mono ?_
  rintro e w4 ⟨ad4, n4, cap4, us4, rfl, r4, bl⟩
  have z4 := bl.size
  replace sM := sM.below bl (by omega)
  replace sB := sB.below bl (by omega)
  replace r3 := r3.below bl (by omega)
  replace frm := frm.trans (bl.mono (by omega))
  clear bl
  have q4 : n4 ≤ 1048576 := by have h1 := r4.len; have h2 := sM.len; omega
  go_wp2_with fail
  go_at_call 47
  refine (toI _ sB (by omega)).mono ?_
  rintro e w5 ⟨ad5, n5, cap5, rfl, r5, bl⟩
  have z5 := bl.size
  replace sM := sM.below bl (by omega)
  replace sB := sB.below bl (by omega)
  replace r3 := r3.below bl (by omega)
  replace r4 := r4.below bl (by omega)
  replace frm := frm.trans (bl.mono (by omega))
  clear bl
  have q5 : n5 ≤ 1048576 := by have h1 := r5.len; have h2 := sB.len; omega
  go_wp2_with fail
  go_at_call 33
  refine (HI.out _ _ _ _ _ _ r4.sls (by omega) hrowM.out  _ _ _ _ _ r5.sl (by omega)).mono ?_
  rintro e w6 ⟨ad6, n6, cap6, rfl, r6, bl⟩
  have z6 := bl.size
  replace sM := sM.below bl (by omega)
  replace sB := sB.below bl (by omega)
  replace r3 := r3.below bl (by omega)
  replace r4 := r4.below bl (by omega)
  replace r5 := r5.below bl (by omega)
  replace frm := frm.trans (bl.mono (by omega))
  clear bl
  have q6 : n6 ≤ 17592186044416 := by have h1 := r6.len; omega
  go_wp2_with fail
  go_at_call 48
  refine (eqI _ r6.sl r3.sl (by omega) rfl).mono ?_
  rintro e w7 ⟨rfl, bl⟩
  have z7 := bl.size
  replace sM := sM.below bl (by omega)
  replace sB := sB.below bl (by omega)
  replace r3 := r3.below bl (by omega)
  replace r4 := r4.below bl (by omega)
  replace r5 := r5.below bl (by omega)
  replace r6 := r6.below bl (by omega)
  replace frm := frm.trans (bl.mono (by omega))
  clear bl
  go_wp2_with fail
  go_at_call 40
  refine (toSS _ sM (by omega) hrowM.out).mono ?_
  rintro e w8 ⟨ad8, n8, cap8, us8, rfl, r8, bl⟩
  have z8 := bl.size
  replace sM := sM.below bl (by omega)
  replace sB := sB.below bl (by omega)
  replace r3 := r3.below bl (by omega)
  replace r4 := r4.below bl (by omega)
  replace r5 := r5.below bl (by omega)
  replace r6 := r6.below bl (by omega)
  replace frm := frm.trans (bl.mono (by omega))
  clear bl
  have q8 : n8 ≤ 1048576 := by have h1 := r8.len; have h2 := sM.len; omega
  go_wp2_with fail
  go_at_call 41
  refine (eqSS _ r4.sls r8.sls (by omega) hrowM.out rfl).mono ?_
  rintro e w9 ⟨rfl, bl⟩
  have z9 := bl.size
  replace sM := sM.below bl (by omega)
  replace sB := sB.below bl (by omega)
  replace r3 := r3.below bl (by omega)
  replace r4 := r4.below bl (by omega)
  replace r5 := r5.below bl (by omega)
  replace r6 := r6.below bl (by omega)
  replace frm := frm.trans (bl.mono (by omega))
  clear bl
  clear r8
  go_wp2_with fail
  go_at_call 47
  refine (toI _ sB (by omega)).mono ?_
  rintro e w10 ⟨ad10, n10, cap10, rfl, r10, bl⟩
  have z10 := bl.size
  replace sM := sM.below bl (by omega)
  replace sB := sB.below bl (by omega)
  replace r3 := r3.below bl (by omega)
  replace r4 := r4.below bl (by omega)
  replace r5 := r5.below bl (by omega)
  replace r6 := r6.below bl (by omega)
  replace frm := frm.trans (bl.mono (by omega))
  clear bl
  have q10 : n10 ≤ 1048576 := by have h1 := r10.len; have h2 := sB.len; omega
  go_wp2_with fail
  go_at_call 48
  refine (eqI _ r5.sl r10.sl (by omega) rfl).mono ?_
  rintro e w11 ⟨rfl, bl⟩
  have z11 := bl.size
  replace sM := sM.below bl (by omega)
  replace sB := sB.below bl (by omega)
  replace r3 := r3.below bl (by omega)
  replace r4 := r4.below bl (by omega)
  replace r5 := r5.below bl (by omega)
  replace r6 := r6.below bl (by omega)
  replace frm := frm.trans (bl.mono (by omega))
  clear bl
  clear r10
  go_wp2_with fail
  go_at_call 42
  refine (markSS _ r4 (by omega) (by omega) 1 (by omega) (by omega)).mono ?_
  rintro e w13 ⟨rfl, new, mv⟩
  have z13 := mv.size
  replace sM := sM.mv mv (by omega)
  replace sB := sB.mv mv (by omega)
  replace r3 := r3.mv mv (by omega)
  replace r5 := r5.mv mv (by omega)
  replace r6 := r6.mv mv (by omega)
  replace frm := frm.trans (mv.below (by omega) (by omega))
  clear new mv
  clear r4
  go_wp2_with fail
  go_at_call 49
  refine (markI _ r5 (by omega) (1 + (sumLen xsM : Int)) (by omega) (by omega)).mono ?_
  rintro e w14 ⟨rfl, new, mv⟩
  have z14 := mv.size
  replace sM := sM.mv mv (by omega)
  replace sB := sB.mv mv (by omega)
  replace r3 := r3.mv mv (by omega)
  replace r6 := r6.mv mv (by omega)
  replace frm := frm.trans (mv.below (by omega) (by omega))
  clear new mv
  clear r5
  go_wp2_with fail
  go_at_call 48
  refine (eqI _ r6.sl r3.sl (by omega) rfl).mono ?_
  rintro e w15 ⟨rfl, bl⟩
  have z15 := bl.size
  replace sM := sM.below bl (by omega)
  replace sB := sB.below bl (by omega)
  replace r3 := r3.below bl (by omega)
  replace r6 := r6.below bl (by omega)
  replace frm := frm.trans (bl.mono (by omega))
  clear bl
  go_wp2_with fail
  go_at_call 49
  refine (markI _ r6 (by omega) 1 (by omega) (by omega)).mono ?_
  rintro e w17 ⟨rfl, new, mv⟩
  have z17 := mv.size
  replace sM := sM.mv mv (by omega)
  replace sB := sB.mv mv (by omega)
  replace r3 := r3.mv mv (by omega)
  replace frm := frm.trans (mv.below (by omega) (by omega))
  have r6m := new
  clear new mv
  go_wp2_with fail
  go_at_call 50
  refine (heldI _ 1 r6m.sl (by omega) (by omega) (by omega)).mono ?_
  rintro e w19 ⟨rfl, bl⟩
  have z19 := bl.size
  replace sM := sM.below bl (by omega)
  replace sB := sB.below bl (by omega)
  replace r3 := r3.below bl (by omega)
  replace r6m := r6m.below bl (by omega)
  replace frm := frm.trans (bl.mono (by omega))
  clear bl
  go_wp2_with fail
  go_at_call 40
  refine (toSS _ sM (by omega) hrowM.out).mono ?_
  rintro e w20 ⟨ad20, n20, cap20, us20, rfl, r20, bl⟩
  have z20 := bl.size
  replace sB := sB.below bl (by omega)
  replace r3 := r3.below bl (by omega)
  replace r6m := r6m.below bl (by omega)
  replace frm := frm.trans (bl.mono (by omega))
  clear bl
  have q20 : n20 ≤ 1048576 := by have h1 := r20.len; have h2 := sM.len; omega
  go_wp2_with fail
  go_at_call 47
  refine (toI _ sB (by omega)).mono ?_
  rintro e w21 ⟨ad21, n21, cap21, rfl, r21, bl⟩
  have z21 := bl.size
  replace r3 := r3.below bl (by omega)
  replace r6m := r6m.below bl (by omega)
  replace r20 := r20.below bl (by omega)
  replace frm := frm.trans (bl.mono (by omega))
  clear bl
  have q21 : n21 ≤ 1048576 := by have h1 := r21.len; have h2 := sB.len; omega
  go_wp2_with fail
  go_at_call 33
  refine (HI.out _ _ _ _ _ _ r20.sls (by omega) hrowM.out  _ _ _ _ _ r21.sl (by omega)).mono ?_
  rintro e w22 ⟨ad22, n22, cap22, rfl, r22, bl⟩
  have z22 := bl.size
  replace r3 := r3.below bl (by omega)
  replace r6m := r6m.below bl (by omega)
  replace frm := frm.trans (bl.mono (by omega))
  clear bl
  have q22 : n22 ≤ 17592186044416 := by have h1 := r22.len; omega
  clear r20
  clear r21
  go_wp2_with fail
  go_at_call 48
  refine (eqI _ r22.sl r3.sl (by omega) rfl).mono ?_
  rintro e w23 ⟨rfl, bl⟩
  have z23 := bl.size
  replace r6m := r6m.below bl (by omega)
  replace frm := frm.trans (bl.mono (by omega))
  clear bl
  clear r3
  clear r22
  go_wp2_with fail
  go_at_call 50
  refine (heldI _ 1 r6m.sl (by omega) (by omega) (by omega)).mono ?_
  rintro e w25 ⟨rfl, bl⟩
  have z25 := bl.size
  replace frm := frm.trans (bl.mono (by omega))
  clear bl
  clear r6m
  go_wp2
  go_ret
  exact ⟨rfl, frm⟩

set_option maxRecDepth 100000 in
set_option maxHeartbeats 1600000 in
theorem exactNullSpace (w : World) (vM : Value) (adM : Option Addr) (nM capM : Nat) (iaM : RowsAt .i64 w vM adM nM capM) :
    Calls Try.prog 12 #[vM] w fun e w' => e = .returned (.bool true) ∧ Below w.heap.size w w' := by
  obtain ⟨xsM, rfl, sM⟩ := of_rows iaM
  clear iaM
  have frm := Below.refl w.heap.size w
  go_enter Try.func12, Try.ntmps12
  go_wp2_with fail
  go_at_call 38
  refine (szSS_small w sM 1048576 (by omega) (by omega)).mono ?_
  rintro e w' ⟨leftM, rfl, leM, riM, smM, rfl⟩
  by_cases hlM : 0 ≤ leftM
  case neg =>
    clear smM
    go_wp2
    go_ret
    exact ⟨rfl, Below.refl _ _⟩
  replace smM := smM hlM
  have ssM := smM.sum
  have snM := smM.len
  rw [sM.len] at snM
  have hrowM := Lib.hid smM.rows
  have cS := fun (w' : World) (lM hM : Nat) (adM : Option Addr) (nM capM : Nat) (sM : Sls w' lM hM adM nM capM xsM) (hnM : nM ≤ 1048576) (hrM : ∀ xs ∈ xsM, xs.length ≤ 17592186044416) => (fun w' s _ _ => RedW.spec_null w' s) w' sM (by omega) hrM
  have cI := fun (w' : World) (lM hM : Nat) (adM : Option Addr) (nM capM : Nat) (sM : Sls w' lM hM adM nM capM xsM) (hnM : nM ≤ 1048576) (hrM : ∀ xs ∈ xsM, xs.length ≤ 17592186044416) => ElimI.null w' sM (by omega) hrM
  have hsm : Small (SolP.nullOf xsM) := by exact (show MatOps.Few (SolP.nullOf xsM) from SolP.few_nullOf xsM).small
  generalize hR : SolP.nullOf xsM = R at cS cI hsm
  clear hR
  have HS := Lib.hid cS
  have HI := Lib.hid cI
  clear cS cI
  have hsmS := hsm.sum
  have hsmL := hsm.len
  go_wp2_with fail
  go_at_call 40
  refine (toSS _ sM (by omega) hrowM.out).mono ?_
  rintro e w1 ⟨ad1, n1, cap1, us1, rfl, r1, bl⟩
  have z1 := bl.size
  replace sM := sM.below bl (by omega)
  replace frm := frm.trans (bl.mono (by omega))
  clear bl
  have q1 : n1 ≤ 1048576 := by have h1 := r1.len; have h2 := sM.len; omega
  go_wp2_with fail
  go_at_call 51
  refine (HS.out _ _ _ _ _ _ r1.sls (by omega) hrowM.out).mono ?_
  rintro e w2 ⟨ad2, n2, cap2, us2, rfl, r2, bl⟩
  have z2 := bl.size
  replace sM := sM.below bl (by omega)
  replace frm := frm.trans (bl.mono (by omega))
  clear bl
  have q2 : n2 ≤ 1048576 := by have h1 := r2.len; have h2 := hsm.len; omega
  clear r1
  go_wp2_with fail
  go_at_call 40
  refine (toSS _ sM (by omega) hrowM.out).mono ?_
  rintro e w3 ⟨ad3, n3, cap3, us3, rfl, r3, bl⟩
  have z3 := bl.size
  replace sM := sM.below bl (by omega)
  replace r2 := r2.below bl (by omega)
  replace frm := frm.trans (bl.mono (by omega))
  clear bl
  have q3 : n3 ≤ 1048576 := by have h1 := r3.len; have h2 := sM.len; omega
  go_wp2_with fail
  go_at_call 17
  refine (HI.out _ _ _ _ _ _ r3.sls (by omega) hrowM.out).mono ?_
  rintro e w4 ⟨ad4, n4, cap4, us4, rfl, r4, bl⟩
  have z4 := bl.size
  replace sM := sM.below bl (by omega)
  replace r2 := r2.below bl (by omega)
  replace r3 := r3.below bl (by omega)
  replace frm := frm.trans (bl.mono (by omega))
  clear bl
  have q4 : n4 ≤ 1048576 := by have h1 := r4.len; have h2 := hsm.len; omega
  go_wp2_with fail
  go_at_call 41
  refine (eqSS _ r4.sls r2.sls (by omega) hsm.rows rfl).mono ?_
  rintro e w5 ⟨rfl, bl⟩
  have z5 := bl.size
  replace sM := sM.below bl (by omega)
  replace r2 := r2.below bl (by omega)
  replace r3 := r3.below bl (by omega)
  replace r4 := r4.below bl (by omega)
  replace frm := frm.trans (bl.mono (by omega))
  clear bl
  go_wp2_with fail
  go_at_call 40
  refine (toSS _ sM (by omega) hrowM.out).mono ?_
  rintro e w6 ⟨ad6, n6, cap6, us6, rfl, r6, bl⟩
  have z6 := bl.size
  replace sM := sM.below bl (by omega)
  replace r2 := r2.below bl (by omega)
  replace r3 := r3.below bl (by omega)
  replace r4 := r4.below bl (by omega)
  replace frm := frm.trans (bl.mono (by omega))
  clear bl
  have q6 : n6 ≤ 1048576 := by have h1 := r6.len; have h2 := sM.len; omega
  go_wp2_with fail
  go_at_call 41
  refine (eqSS _ r3.sls r6.sls (by omega) hrowM.out rfl).mono ?_
  rintro e w7 ⟨rfl, bl⟩
  have z7 := bl.size
  replace sM := sM.below bl (by omega)
  replace r2 := r2.below bl (by omega)
  replace r3 := r3.below bl (by omega)
  replace r4 := r4.below bl (by omega)
  replace frm := frm.trans (bl.mono (by omega))
  clear bl
  clear r6
  go_wp2_with fail
  go_at_call 42
  refine (markSS _ r3 (by omega) (by omega) 1 (by omega) (by omega)).mono ?_
  rintro e w9 ⟨rfl, new, mv⟩
  have z9 := mv.size
  replace sM := sM.mv mv (by omega)
  replace r2 := r2.mv mv (by omega)
  replace r4 := r4.mv mv (by omega)
  replace frm := frm.trans (mv.below (by omega) (by omega))
  clear new mv
  clear r3
  go_wp2_with fail
  go_at_call 41
  refine (eqSS _ r4.sls r2.sls (by omega) hsm.rows rfl).mono ?_
  rintro e w10 ⟨rfl, bl⟩
  have z10 := bl.size
  replace sM := sM.below bl (by omega)
  replace r2 := r2.below bl (by omega)
  replace r4 := r4.below bl (by omega)
  replace frm := frm.trans (bl.mono (by omega))
  clear bl
  go_wp2_with fail
  go_at_call 42
  refine (markSS _ r4 (by omega) (by omega) 1 (by omega) (by omega)).mono ?_
  rintro e w12 ⟨rfl, new, mv⟩
  have z12 := mv.size
  replace sM := sM.mv mv (by omega)
  replace r2 := r2.mv mv (by omega)
  replace frm := frm.trans (mv.below (by omega) (by omega))
  have r4m := new
  clear new mv
  go_wp2_with fail
  go_at_call 43
  refine (heldSS _ 1 r4m.sls (by omega) (by omega) (by omega) (by omega)).mono ?_
  rintro e w14 ⟨rfl, bl⟩
  have z14 := bl.size
  replace sM := sM.below bl (by omega)
  replace r2 := r2.below bl (by omega)
  replace r4m := r4m.below bl (by omega)
  replace frm := frm.trans (bl.mono (by omega))
  clear bl
  go_wp2_with fail
  go_at_call 40
  refine (toSS _ sM (by omega) hrowM.out).mono ?_
  rintro e w15 ⟨ad15, n15, cap15, us15, rfl, r15, bl⟩
  have z15 := bl.size
  replace r2 := r2.below bl (by omega)
  replace r4m := r4m.below bl (by omega)
  replace frm := frm.trans (bl.mono (by omega))
  clear bl
  have q15 : n15 ≤ 1048576 := by have h1 := r15.len; have h2 := sM.len; omega
  go_wp2_with fail
  go_at_call 17
  refine (HI.out _ _ _ _ _ _ r15.sls (by omega) hrowM.out).mono ?_
  rintro e w16 ⟨ad16, n16, cap16, us16, rfl, r16, bl⟩
  have z16 := bl.size
  replace r2 := r2.below bl (by omega)
  replace r4m := r4m.below bl (by omega)
  replace frm := frm.trans (bl.mono (by omega))
  clear bl
  have q16 : n16 ≤ 1048576 := by have h1 := r16.len; have h2 := hsm.len; omega
  clear r15
  go_wp2_with fail
  go_at_call 41
  refine (eqSS _ r16.sls r2.sls (by omega) hsm.rows rfl).mono ?_
  rintro e w17 ⟨rfl, bl⟩
  have z17 := bl.size
  replace r4m := r4m.below bl (by omega)
  replace frm := frm.trans (bl.mono (by omega))
  clear bl
  clear r2
  clear r16
  go_wp2_with fail
  go_at_call 43
  refine (heldSS _ 1 r4m.sls (by omega) (by omega) (by omega) (by omega)).mono ?_
  rintro e w19 ⟨rfl, bl⟩
  have z19 := bl.size
  replace frm := frm.trans (bl.mono (by omega))
  clear bl
  clear r4m
  go_wp2
  go_ret
  exact ⟨rfl, frm⟩

end Go.Proofs.Ytagncoaeochmnaa.LawElimEx
