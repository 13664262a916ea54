/-
  Exact laws walked, over the contracts of what they call.
-/
import Derived.Test.YtklcaagjneggpaaHelp
import Derived.Test.YtklcaagjneggpaaFieldW
import Derived.Test.YtklcaagjneggpaaInvW
namespace Go.Proofs.Ytklcaagjneggpaa.LawFieldEx
open Go.ChangeShapes Go.WideShapes Go.ChangeAt Go.RowKit
open Go.Proofs.Ytklcaagjneggpaa.Seq Go.Proofs.Ytklcaagjneggpaa.Help

set_option maxRecDepth 100000 in
theorem exactIsElement (w : World) (aX : Int) (wfX : (Lit.int .i64 aX).wf = true) :
    Calls Try.prog 5 #[.int .i64 aX] w fun e w' => e = .returned (.bool true) ∧ Below w.heap.size w w' := by
  obtain ⟨loX, hiX⟩ := fits_i64.1 wfX
  clear wfX
  have cS := fun (w' : World) => (fun w' a => (FieldW.spec_el w' a).mono FieldW.isB_below) w' aX
  have cI := fun (w' : World) => (fun w' a => (FieldW.impl_el w' a).mono FieldW.isB_below) w' aX
  generalize hR : Field.isEl aX = R at cS cI
  clear hR
  have HS := Lib.hid cS
  have HI := Lib.hid cI
  clear cS cI
  have frm := Below.refl w.heap.size w
  go_enter Try.func5, Try.ntmps5
  go_wp2_with fail
  go_at_call 17
  refine (HS.out _).mono ?_
  rintro e w1 ⟨rfl, bl⟩
  have z1 := bl.size
  replace frm := frm.trans (bl.mono (by omega))
  clear bl
  go_wp2_with fail
  go_at_call 29
  refine (HI.out _).mono ?_
  rintro e w2 ⟨rfl, bl⟩
  have z2 := bl.size
  replace frm := frm.trans (bl.mono (by omega))
  clear bl
  go_wp2
  go_ret
  exact ⟨rfl, frm⟩

set_option maxRecDepth 100000 in
theorem exactAddField (w : World) (aA : Int) (wfA : (Lit.int .i64 aA).wf = true) (aB : Int) (wfB : (Lit.int .i64 aB).wf = true) :
    Calls Try.prog 6 #[.int .i64 aA, .int .i64 aB] w fun e w' => e = .returned (.bool true) ∧ Below w.heap.size w w' := by
  obtain ⟨loA, hiA⟩ := fits_i64.1 wfA
  clear wfA
  obtain ⟨loB, hiB⟩ := fits_i64.1 wfB
  clear wfB
  have cS := fun (w' : World) => (fun w' a b => (FieldW.spec_add w' a b).mono FieldW.is_below) w' aA aB
  have cI := fun (w' : World) => (fun w' a b => (FieldW.impl_add w' a b).mono FieldW.is_below) w' aA aB
  generalize hR : Field.add aA aB = R at cS cI
  clear hR
  have HS := Lib.hid cS
  have HI := Lib.hid cI
  clear cS cI
  have frm := Below.refl w.heap.size w
  go_enter Try.func6, Try.ntmps6
  go_wp2_with fail
  go_at_call 28
  refine (HS.out _).mono ?_
  rintro e w1 ⟨rfl, bl⟩
  have z1 := bl.size
  replace frm := frm.trans (bl.mono (by omega))
  clear bl
  go_wp2_with fail
  go_at_call 18
  refine (HI.out _).mono ?_
  rintro e w2 ⟨rfl, bl⟩
  have z2 := bl.size
  replace frm := frm.trans (bl.mono (by omega))
  clear bl
  go_wp2
  go_ret
  exact ⟨rfl, frm⟩

set_option maxRecDepth 100000 in
theorem exactSubField (w : World) (aA : Int) (wfA : (Lit.int .i64 aA).wf = true) (aB : Int) (wfB : (Lit.int .i64 aB).wf = true) :
    Calls Try.prog 7 #[.int .i64 aA, .int .i64 aB] w fun e w' => e = .returned (.bool true) ∧ Below w.heap.size w w' := by
  obtain ⟨loA, hiA⟩ := fits_i64.1 wfA
  clear wfA
  obtain ⟨loB, hiB⟩ := fits_i64.1 wfB
  clear wfB
  have cS := fun (w' : World) => (fun w' a b => (FieldW.spec_sub w' a b).mono FieldW.is_below) w' aA aB
  have cI := fun (w' : World) => (fun w' a b => (FieldW.impl_sub w' a b).mono FieldW.is_below) w' aA aB
  generalize hR : Field.sub aA aB = R at cS cI
  clear hR
  have HS := Lib.hid cS
  have HI := Lib.hid cI
  clear cS cI
  have frm := Below.refl w.heap.size w
  go_enter Try.func7, Try.ntmps7
  go_wp2_with fail
  go_at_call 30
  refine (HS.out _).mono ?_
  rintro e w1 ⟨rfl, bl⟩
  have z1 := bl.size
  replace frm := frm.trans (bl.mono (by omega))
  clear bl
  go_wp2_with fail
  go_at_call 20
  refine (HI.out _).mono ?_
  rintro e w2 ⟨rfl, bl⟩
  have z2 := bl.size
  replace frm := frm.trans (bl.mono (by omega))
  clear bl
  go_wp2
  go_ret
  exact ⟨rfl, frm⟩

set_option maxRecDepth 100000 in
theorem exactMulField (w : World) (aA : Int) (wfA : (Lit.int .i64 aA).wf = true) (aB : Int) (wfB : (Lit.int .i64 aB).wf = true) :
    Calls Try.prog 8 #[.int .i64 aA, .int .i64 aB] w fun e w' => e = .returned (.bool true) ∧ Below w.heap.size w w' := by
  obtain ⟨loA, hiA⟩ := fits_i64.1 wfA
  clear wfA
  obtain ⟨loB, hiB⟩ := fits_i64.1 wfB
  clear wfB
  have cS := fun (w' : World) => (fun w' a b => (FieldW.spec_mul w' a b).mono FieldW.is_below) w' aA aB
  have cI := fun (w' : World) => (fun w' a b => (FieldW.impl_mul w' a b).mono FieldW.is_below) w' aA aB
  generalize hR : Field.mul aA aB = R at cS cI
  clear hR
  have HS := Lib.hid cS
  have HI := Lib.hid cI
  clear cS cI
  have frm := Below.refl w.heap.size w
  go_enter Try.func8, Try.ntmps8
  go_wp2_with fail
  go_at_call 31
  refine (HS.out _).mono ?_
  rintro e w1 ⟨rfl, bl⟩
  have z1 := bl.size
  replace frm := frm.trans (bl.mono (by omega))
  clear bl
  go_wp2_with fail
  go_at_call 19
  refine (HI.out _).mono ?_
  rintro e w2 ⟨rfl, bl⟩
  have z2 := bl.size
  replace frm := frm.trans (bl.mono (by omega))
  clear bl
  go_wp2
  go_ret
  exact ⟨rfl, frm⟩

set_option maxRecDepth 100000 in
theorem exactPowField (w : World) (aA : Int) (wfA : (Lit.int .i64 aA).wf = true) (aN : Int) (wfN : (Lit.int .i64 aN).wf = true) :
    Calls Try.prog 9 #[.int .i64 aA, .int .i64 aN] w fun e w' => e = .returned (.bool true) ∧ Below w.heap.size w w' := by
  obtain ⟨loA, hiA⟩ := fits_i64.1 wfA
  clear wfA
  obtain ⟨loN, hiN⟩ := fits_i64.1 wfN
  clear wfN
  have cS := fun (w' : World) => (fun w' a b => (FieldW.spec_powf w' a b).mono FieldW.is_below) w' aA aN
  have cI := fun (w' : World) => (fun w' a b => (FieldW.impl_powf w' a b).mono FieldW.is_below) w' aA aN
  generalize hR : Field.pow aA aN = R at cS cI
  clear hR
  have HS := Lib.hid cS
  have HI := Lib.hid cI
  clear cS cI
  have frm := Below.refl w.heap.size w
  go_enter Try.func9, Try.ntmps9
  go_wp2_with fail
  go_at_call 32
  refine (HS.out _).mono ?_
  rintro e w1 ⟨rfl, bl⟩
  have z1 := bl.size
  replace frm := frm.trans (bl.mono (by omega))
  clear bl
  go_wp2_with fail
  go_at_call 22
  refine (HI.out _).mono ?_
  rintro e w2 ⟨rfl, bl⟩
  have z2 := bl.size
  replace frm := frm.trans (bl.mono (by omega))
  clear bl
  go_wp2
  go_ret
  exact ⟨rfl, frm⟩

set_option maxRecDepth 100000 in
theorem exactInverseField (w : World) (aA : Int) (wfA : (Lit.int .i64 aA).wf = true) :
    Calls Try.prog 10 #[.int .i64 aA] w fun e w' => e = .returned (.bool true) ∧ Below w.heap.size w w' := by
  obtain ⟨loA, hiA⟩ := fits_i64.1 wfA
  clear wfA
  have cS := fun (w' : World) => (fun w' a => (FieldW.spec_inv w' a).mono FieldW.is_below) w' aA
  have cI := fun (w' : World) => InvW.impl_inv w' aA
  generalize hR : Field.inv aA = R at cS cI
  clear hR
  have HS := Lib.hid cS
  have HI := Lib.hid cI
  clear cS cI
  have frm := Below.refl w.heap.size w
  go_enter Try.func10, Try.ntmps10
  go_wp2_with fail
  go_at_call 33
  refine (HS.out _).mono ?_
  rintro e w1 ⟨rfl, bl⟩
  have z1 := bl.size
  replace frm := frm.trans (bl.mono (by omega))
  clear bl
  go_wp2_with fail
  go_at_call 21
  refine (HI.out _).mono ?_
  rintro e w2 ⟨rfl, bl⟩
  have z2 := bl.size
  replace frm := frm.trans (bl.mono (by omega))
  clear bl
  go_wp2
  go_ret
  exact ⟨rfl, frm⟩

set_option maxRecDepth 100000 in
theorem exactPowGroup (w : World) (aG : Int) (wfG : (Lit.int .i64 aG).wf = true) (aN : Int) (wfN : (Lit.int .i64 aN).wf = true) :
    Calls Try.prog 11 #[.int .i64 aG, .int .i64 aN] w fun e w' => e = .returned (.bool true) ∧ Below w.heap.size w w' := by
  obtain ⟨loG, hiG⟩ := fits_i64.1 wfG
  clear wfG
  obtain ⟨loN, hiN⟩ := fits_i64.1 wfN
  clear wfN
  have cS := fun (w' : World) => (fun w' a b => (FieldW.spec_powg w' a b).mono FieldW.is_below) w' aG aN
  have cI := fun (w' : World) => (fun w' a b => (FieldW.impl_powg w' a b).mono FieldW.is_below) w' aG aN
  generalize hR : Field.powG aG aN = R at cS cI
  clear hR
  have HS := Lib.hid cS
  have HI := Lib.hid cI
  clear cS cI
  have frm := Below.refl w.heap.size w
  go_enter Try.func11, Try.ntmps11
  go_wp2_with fail
  go_at_call 34
  refine (HS.out _).mono ?_
  rintro e w1 ⟨rfl, bl⟩
  have z1 := bl.size
  replace frm := frm.trans (bl.mono (by omega))
  clear bl
  go_wp2_with fail
  go_at_call 25
  refine (HI.out _).mono ?_
  rintro e w2 ⟨rfl, bl⟩
  have z2 := bl.size
  replace frm := frm.trans (bl.mono (by omega))
  clear bl
  go_wp2
  go_ret
  exact ⟨rfl, frm⟩

set_option maxRecDepth 100000 in
theorem exactMulGroup (w : World) (aA : Int) (wfA : (Lit.int .i64 aA).wf = true) (aB : Int) (wfB : (Lit.int .i64 aB).wf = true) :
    Calls Try.prog 12 #[.int .i64 aA, .int .i64 aB] w fun e w' => e = .returned (.bool true) ∧ Below w.heap.size w w' := by
  obtain ⟨loA, hiA⟩ := fits_i64.1 wfA
  clear wfA
  obtain ⟨loB, hiB⟩ := fits_i64.1 wfB
  clear wfB
  have cS := fun (w' : World) => (fun w' a b => (FieldW.spec_mulg w' a b).mono FieldW.is_below) w' aA aB
  have cI := fun (w' : World) => (fun w' a b => (FieldW.impl_mulg w' a b).mono FieldW.is_below) w' aA aB
  generalize hR : Field.mulG aA aB = R at cS cI
  clear hR
  have HS := Lib.hid cS
  have HI := Lib.hid cI
  clear cS cI
  have frm := Below.refl w.heap.size w
  go_enter Try.func12, Try.ntmps12
  go_wp2_with fail
  go_at_call 35
  refine (HS.out _).mono ?_
  rintro e w1 ⟨rfl, bl⟩
  have z1 := bl.size
  replace frm := frm.trans (bl.mono (by omega))
  clear bl
  go_wp2_with fail
  go_at_call 27
  refine (HI.out _).mono ?_
  rintro e w2 ⟨rfl, bl⟩
  have z2 := bl.size
  replace frm := frm.trans (bl.mono (by omega))
  clear bl
  go_wp2
  go_ret
  exact ⟨rfl, frm⟩

set_option maxRecDepth 100000 in
theorem exactIsGroupElement (w : World) (aX : Int) (wfX : (Lit.int .i64 aX).wf = true) :
    Calls Try.prog 13 #[.int .i64 aX] w fun e w' => e = .returned (.bool true) ∧ Below w.heap.size w w' := by
  obtain ⟨loX, hiX⟩ := fits_i64.1 wfX
  clear wfX
  have cS := fun (w' : World) => (fun w' a => (FieldW.spec_isG w' a).mono FieldW.isB_below) w' aX
  have cI := fun (w' : World) => (fun w' a => (FieldW.impl_isG w' a).mono FieldW.isB_below) w' aX
  generalize hR : Field.isG aX = R at cS cI
  clear hR
  have HS := Lib.hid cS
  have HI := Lib.hid cI
  clear cS cI
  have frm := Below.refl w.heap.size w
  go_enter Try.func13, Try.ntmps13
  go_wp2_with fail
  go_at_call 24
  refine (HS.out _).mono ?_
  rintro e w1 ⟨rfl, bl⟩
  have z1 := bl.size
  replace frm := frm.trans (bl.mono (by omega))
  clear bl
  go_wp2_with fail
  go_at_call 26
  refine (HI.out _).mono ?_
  rintro e w2 ⟨rfl, bl⟩
  have z2 := bl.size
  replace frm := frm.trans (bl.mono (by omega))
  clear bl
  go_wp2
  go_ret
  exact ⟨rfl, frm⟩

end Go.Proofs.Ytklcaagjneggpaa.LawFieldEx
