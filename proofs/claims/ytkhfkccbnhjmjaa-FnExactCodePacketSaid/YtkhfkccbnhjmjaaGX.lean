/-
  Exact laws walked, over the contracts of what they call.
-/
import Derived.Test.YtkhfkccbnhjmjaaGM
import Derived.Test.YtkhfkccbnhjmjaaGF
import Derived.Test.YtkhfkccbnhjmjaaGN
import Derived.Test.YtkhfkccbnhjmjaaGA
import Derived.Deep.DeepCutAuto
namespace Go.Proofs.Ytkhfkccbnhjmjaa.LawPktEx
open Go.ChangeShapes Go.WideShapes Go.ChangeAt Go.RowKit
open Go.Proofs.Ytkhfkccbnhjmjaa.Drawn Go.Proofs.Ytkhfkccbnhjmjaa.Seq Go.Proofs.Ytkhfkccbnhjmjaa.Help Go.Proofs.Ytkhfkccbnhjmjaa.Shape Go.Proofs.Ytkhfkccbnhjmjaa.Deep

set_option maxRecDepth 100000 in
set_option maxHeartbeats 1600000 in
theorem exactIsValidPacket (w : World) (vP : Value) (iaP : ∃ x, CodedPacketI w 0 w.heap.size vP x) (aSize : Int) (wfSize : (Lit.int .i64 aSize).wf = true) (aWidth : Int) (wfWidth : (Lit.int .i64 aWidth).wf = true) :
    Calls Try.prog 4 #[vP, .int .i64 aSize, .int .i64 aWidth] w fun e w' => e = .returned (.bool true) ∧ Below w.heap.size w w' := by
  obtain ⟨⟨f0_P, f1_P, f2_P⟩, sP⟩ := iaP
  obtain ⟨ad1_P, n1_P, cap1_P, ad2_P, n2_P, cap2_P, rfl, hw0_P, sP⟩ := CodedPacketI_cells sP
  obtain ⟨loSize, hiSize⟩ := fits_i64.1 wfSize
  clear wfSize
  obtain ⟨loWidth, hiWidth⟩ := fits_i64.1 wfWidth
  clear wfWidth
  have frm := Below.refl w.heap.size w
  have kP := Bx.new w [.int .i64 f0_P, .slice ad1_P n1_P cap1_P, .slice ad2_P n2_P cap2_P] 34
  replace frm := frm.alloc (by first | exact Nat.le_refl _ | (simp; done) | (simp; omega)) (.cells #[.int .i64 f0_P, .slice ad1_P n1_P cap1_P, .slice ad2_P n2_P cap2_P] 34)
  replace sP := CodedPacketI_below sP frm (.inr (Nat.le_refl _))
  have cP0 := kP.cell (i := 0) rfl
  have cP1 := kP.cell (i := 1) rfl
  have cP2 := kP.cell (i := 2) rfl
  have zw : (w.alloc (.cells #[.int .i64 f0_P, .slice ad1_P n1_P cap1_P, .slice ad2_P n2_P cap2_P] 34)).heap.size = w.heap.size + 1 := by simp
  go_enter Try.func4, Try.ntmps4
  go_wp2_with fail
  go_at_call 20
  generalize w.alloc (.cells #[.int .i64 f0_P, .slice ad1_P n1_P cap1_P, .slice ad2_P n2_P cap2_P] 34) = y0 at *
  refine (szCodedPacket sP 1048576 (by omega) (by omega)).mono ?_
  rintro e wsP ⟨leftP, rfl, leP, riP, fP, bl⟩
  have zsP := bl.size
  replace sP := CodedPacketI_below sP bl (by omega)
  replace kP := kP.below bl (by omega)
  clear cP0 cP1 cP2
  have cP0 := kP.cell (i := 0) rfl
  have cP1 := kP.cell (i := 1) rfl
  have cP2 := kP.cell (i := 2) rfl
  replace frm := frm.trans (bl.mono (by omega))
  clear bl
  by_cases hlP : 0 ≤ leftP
  case neg =>
    clear fP
    go_wp2
    go_ret
    exact ⟨rfl, frm⟩
  replace fP := fP hlP
  have cS := fun (w' : World) (lP hP : Nat) (uP : Value) (sP : CodedPacketI w' lP hP uP (f0_P, f1_P, f2_P)) => PktW.isPktS w' sP fP aSize loSize hiSize aWidth loWidth hiWidth
  have cI := fun (w' : World) (lP hP : Nat) (uP : Value) (sP : CodedPacketI w' lP hP uP (f0_P, f1_P, f2_P)) => PktI.isPkt w' sP fP aSize loSize hiSize aWidth loWidth hiWidth
  try dsimp only at cS cI
  generalize hR : (Pkt.isPkt (f0_P, f1_P, f2_P) aSize aWidth) = R at cS cI
  clear hR
  have HS := Lib.hid cS
  have HI := Lib.hid cI
  clear cS cI
  have hkP := CodedPacketC_le fP
  go_wp2_with fail
  go_at_call 22
  refine (toCodedPacket sP fP).mono ?_
  rintro e w1 ⟨u1, rfl, r1, bl⟩
  have z1 := bl.size
  replace sP := CodedPacketI_below sP bl (by omega)
  replace kP := kP.below bl (by omega)
  clear cP0 cP1 cP2
  have cP0 := kP.cell (i := 0) rfl
  have cP1 := kP.cell (i := 1) rfl
  have cP2 := kP.cell (i := 2) rfl
  replace frm := frm.trans (bl.mono (by omega))
  clear bl
  obtain ⟨ad1_1, n1_1, cap1_1, ad2_1, n2_1, cap2_1, rfl, hw0_1, r1⟩ := CodedPacketO_cells r1
  go_wp2_with fail
  go_at_call 21
  refine (HS.out _ _ _ _ (CodedPacketO_is r1)).mono ?_
  rintro e w2 ⟨rfl, bl⟩
  have z2 := bl.size
  replace sP := CodedPacketI_below sP bl (by omega)
  replace kP := kP.below bl (by omega)
  clear cP0 cP1 cP2
  have cP0 := kP.cell (i := 0) rfl
  have cP1 := kP.cell (i := 1) rfl
  have cP2 := kP.cell (i := 2) rfl
  replace frm := frm.trans (bl.mono (by omega))
  clear bl
  clear r1
  go_wp2_with fail
  go_at_call 22
  refine (toCodedPacket sP fP).mono ?_
  rintro e w3 ⟨u3, rfl, r3, bl⟩
  have z3 := bl.size
  replace sP := CodedPacketI_below sP bl (by omega)
  replace kP := kP.below bl (by omega)
  clear cP0 cP1 cP2
  have cP0 := kP.cell (i := 0) rfl
  have cP1 := kP.cell (i := 1) rfl
  have cP2 := kP.cell (i := 2) rfl
  replace frm := frm.trans (bl.mono (by omega))
  clear bl
  obtain ⟨ad1_3, n1_3, cap1_3, ad2_3, n2_3, cap2_3, rfl, hw0_3, r3⟩ := CodedPacketO_cells r3
  have kx0 := Bx.new w3 [.int .i64 f0_P, .slice ad1_3 n1_3 cap1_3, .slice ad2_3 n2_3 cap2_3] 26
  have hb := below_box w3 (.cells #[.int .i64 f0_P, .slice ad1_3 n1_3 cap1_3, .slice ad2_3 n2_3 cap2_3] 26)
  have zb3 : (w3.alloc (.cells #[.int .i64 f0_P, .slice ad1_3 n1_3 cap1_3, .slice ad2_3 n2_3 cap2_3] 26)).heap.size = w3.heap.size + 1 := by simp
  replace sP := CodedPacketI_below sP hb (.inr (Nat.le_refl _))
  replace r3 := CodedPacketO_below r3 hb (.inr (Nat.le_refl _))
  replace kP := kP.alloc (.cells #[.int .i64 f0_P, .slice ad1_3 n1_3 cap1_3, .slice ad2_3 n2_3 cap2_3] 26)
  clear cP0 cP1 cP2
  have cP0 := kP.cell (i := 0) rfl
  have cP1 := kP.cell (i := 1) rfl
  have cP2 := kP.cell (i := 2) rfl
  replace frm := frm.trans (hb.mono (by omega))
  clear hb
  have cx00 := kx0.cell (i := 0) rfl
  have cx01 := kx0.cell (i := 1) rfl
  have cx02 := kx0.cell (i := 2) rfl
  go_wp2_with fail
  go_at_call 23
  generalize w3.alloc (.cells #[.int .i64 f0_P, .slice ad1_3 n1_3 cap1_3, .slice ad2_3 n2_3 cap2_3] 26) = y1 at *
  refine (HI.out _ _ _ _ (CodedPacketO_is r3)).mono ?_
  rintro e w4 ⟨rfl, bl⟩
  have z4 := bl.size
  replace sP := CodedPacketI_below sP bl (by omega)
  replace r3 := CodedPacketO_below r3 bl (by omega)
  replace kP := kP.below bl (by omega)
  clear cP0 cP1 cP2
  have cP0 := kP.cell (i := 0) rfl
  have cP1 := kP.cell (i := 1) rfl
  have cP2 := kP.cell (i := 2) rfl
  replace kx0 := kx0.below bl (by omega)
  clear cx00 cx01 cx02
  have cx00 := kx0.cell (i := 0) rfl
  have cx01 := kx0.cell (i := 1) rfl
  have cx02 := kx0.cell (i := 2) rfl
  replace frm := frm.trans (bl.mono (by omega))
  clear bl
  go_wp2
  replace sP := CodedPacketI_mv sP (Mv.drew (Mv.refl w4 0 0)) (.inr (Nat.zero_le _))
  replace r3 := CodedPacketO_mv r3 (Mv.drew (Mv.refl w4 0 0)) (.inr (Nat.zero_le _))
  replace kP := kP.drew
  clear cP0 cP1 cP2
  have cP0 := kP.cell (i := 0) rfl
  have cP1 := kP.cell (i := 1) rfl
  have cP2 := kP.cell (i := 2) rfl
  replace kx0 := kx0.drew
  clear cx00 cx01 cx02
  have cx00 := kx0.cell (i := 0) rfl
  have cx01 := kx0.cell (i := 1) rfl
  have cx02 := kx0.cell (i := 2) rfl
  replace frm := frm.drew
  have zd : w4.heap.size = w4.drew.heap.size := rfl
  refine wp_region_held (S := fun w' => w'.cell? ⟨w.heap.size, 0, none⟩ = some (.int .i64 f0_P) ∧ w'.cell? ⟨w.heap.size, 1, none⟩ = some (.slice ad1_P n1_P cap1_P) ∧ w'.cell? ⟨w.heap.size, 2, none⟩ = some (.slice ad2_P n2_P cap2_P) ∧ w'.cell? ⟨w3.heap.size, 0, none⟩ = some (.int .i64 f0_P) ∧ w'.cell? ⟨w3.heap.size, 1, none⟩ = some (.slice ad1_3 n1_3 cap1_3) ∧ w'.cell? ⟨w3.heap.size, 2, none⟩ = some (.slice ad2_3 n2_3 cap2_3)) (by kernel_rfl) ?_
  change wpAnyH _ _ _ _ _ _ _ _ w4.drew
  generalize w4.drew = d0 at *
  have HH := Lib.hid (show d0.cell? ⟨w.heap.size, 0, none⟩ = some (.int .i64 f0_P) ∧ d0.cell? ⟨w.heap.size, 1, none⟩ = some (.slice ad1_P n1_P cap1_P) ∧ d0.cell? ⟨w.heap.size, 2, none⟩ = some (.slice ad2_P n2_P cap2_P) ∧ d0.cell? ⟨w3.heap.size, 0, none⟩ = some (.int .i64 f0_P) ∧ d0.cell? ⟨w3.heap.size, 1, none⟩ = some (.slice ad1_3 n1_3 cap1_3) ∧ d0.cell? ⟨w3.heap.size, 2, none⟩ = some (.slice ad2_3 n2_3 cap2_3) from ⟨cP0, cP1, cP2, cx00, cx01, cx02⟩)
  refine wpAnyH_take (i := 0) (oi := ⟨some _, _, _, _, _, _⟩) (v := ?_) rfl (by kernel_rfl) (by kernel_rfl) (by kernel_rfl) (fun _ _ _ h => h) (Or.inl ⟨by rfl, ?_⟩) HH.out ?_
  rotate_left
  · intro wS hSw
    try dsimp only at hSw
    go_simp
    all_goals (with_reducible rfl)
  simp only [Act.put, List.setIfInBounds_toArray, List.set_cons_zero, List.set_cons_succ]
  refine wpAnyH_take (i := 1) (oi := ⟨some _, _, _, _, _, _⟩) (v := ?_) rfl (by kernel_rfl) (by kernel_rfl) (by kernel_rfl) (fun _ _ _ h => h) (Or.inl ⟨by rfl, ?_⟩) HH.out ?_
  rotate_left
  · intro wS hSw
    try dsimp only at hSw
    go_simp
    all_goals (with_reducible rfl)
  simp only [Act.put, List.setIfInBounds_toArray, List.set_cons_zero, List.set_cons_succ]
  clear HH
  refine wpAnyH_ready (rs := [2]) (by kernel_rfl) (by simp) ?_
  refine AllReadyH.cons (o := ⟨some _, _, _, _, _, _⟩) rfl (fun Kq hKq => ?_) AllReadyH.nil
  go_simp
  refine (toCodedPacket sP fP).mono ?_
  rintro e w5 ⟨u5, rfl, r5, bl⟩
  have z5 := bl.size
  replace r3 := CodedPacketO_below r3 bl (by omega)
  replace kP := kP.below bl (by omega)
  clear cP0 cP1 cP2
  have cP0 := kP.cell (i := 0) rfl
  have cP1 := kP.cell (i := 1) rfl
  have cP2 := kP.cell (i := 2) rfl
  replace kx0 := kx0.below bl (by omega)
  clear cx00 cx01 cx02
  have cx00 := kx0.cell (i := 0) rfl
  have cx01 := kx0.cell (i := 1) rfl
  have cx02 := kx0.cell (i := 2) rfl
  replace frm := frm.trans (bl.mono (by omega))
  clear bl
  obtain ⟨ad1_5, n1_5, cap1_5, ad2_5, n2_5, cap2_5, rfl, hw0_5, r5⟩ := CodedPacketO_cells r5
  have HH := Lib.hid (show w5.cell? ⟨w.heap.size, 0, none⟩ = some (.int .i64 f0_P) ∧ w5.cell? ⟨w.heap.size, 1, none⟩ = some (.slice ad1_P n1_P cap1_P) ∧ w5.cell? ⟨w.heap.size, 2, none⟩ = some (.slice ad2_P n2_P cap2_P) ∧ w5.cell? ⟨w3.heap.size, 0, none⟩ = some (.int .i64 f0_P) ∧ w5.cell? ⟨w3.heap.size, 1, none⟩ = some (.slice ad1_3 n1_3 cap1_3) ∧ w5.cell? ⟨w3.heap.size, 2, none⟩ = some (.slice ad2_3 n2_3 cap2_3) from ⟨cP0, cP1, cP2, cx00, cx01, cx02⟩)
  refine hKq.out _ _ HH.out (fun _ => ?_)
  clear hKq Kq
  clear HH
  refine wpAnyH_ready (rs := [3]) (by kernel_rfl) (by simp) ?_
  refine AllReadyH.cons (o := ⟨some _, _, _, _, _, _⟩) rfl (fun Kq hKq => ?_) AllReadyH.nil
  go_simp
  refine (eqCodedPacket (CodedPacketO_is r3) (CodedPacketO_is r5) fP rfl).mono ?_
  rintro e w6 ⟨rfl, bl⟩
  have z6 := bl.size
  replace kP := kP.below bl (by omega)
  clear cP0 cP1 cP2
  have cP0 := kP.cell (i := 0) rfl
  have cP1 := kP.cell (i := 1) rfl
  have cP2 := kP.cell (i := 2) rfl
  replace kx0 := kx0.below bl (by omega)
  clear cx00 cx01 cx02
  have cx00 := kx0.cell (i := 0) rfl
  have cx01 := kx0.cell (i := 1) rfl
  have cx02 := kx0.cell (i := 2) rfl
  replace frm := frm.trans (bl.mono (by omega))
  clear bl
  have HH := Lib.hid (show w6.cell? ⟨w.heap.size, 0, none⟩ = some (.int .i64 f0_P) ∧ w6.cell? ⟨w.heap.size, 1, none⟩ = some (.slice ad1_P n1_P cap1_P) ∧ w6.cell? ⟨w.heap.size, 2, none⟩ = some (.slice ad2_P n2_P cap2_P) ∧ w6.cell? ⟨w3.heap.size, 0, none⟩ = some (.int .i64 f0_P) ∧ w6.cell? ⟨w3.heap.size, 1, none⟩ = some (.slice ad1_3 n1_3 cap1_3) ∧ w6.cell? ⟨w3.heap.size, 2, none⟩ = some (.slice ad2_3 n2_3 cap2_3) from ⟨cP0, cP1, cP2, cx00, cx01, cx02⟩)
  refine hKq.out _ _ HH.out (fun _ => ?_)
  clear hKq Kq
  try simp only [Act.put, List.setIfInBounds_toArray, List.set_cons_zero, List.set_cons_succ]
  refine wpAnyH_take (i := 4) (oi := ⟨some _, _, _, _, _, _⟩) (v := ?_) rfl (by kernel_rfl) (by kernel_rfl) (by kernel_rfl) (fun _ _ _ h => h) (Or.inl ⟨by rfl, ?_⟩) HH.out ?_
  rotate_left
  · intro wS hSw
    try dsimp only at hSw
    go_simp
    all_goals (with_reducible rfl)
  simp only [Act.put, List.setIfInBounds_toArray, List.set_cons_zero, List.set_cons_succ]
  refine wpAnyH_done (by kernel_rfl) ?_ _
  clear HH
  clear r3
  clear r5
  go_wp2
  go_ret
  exact ⟨rfl, frm⟩

set_option maxRecDepth 100000 in
set_option maxHeartbeats 1600000 in
theorem exactSourcePacket (w : World) (vG : Value) (iaG : ∃ x, GenerationI w 0 w.heap.size vG x) (aIndex : Int) (wfIndex : (Lit.int .i64 aIndex).wf = true) :
    Calls Try.prog 5 #[vG, .int .i64 aIndex] w fun e w' => e = .returned (.bool true) ∧ Below w.heap.size w w' := by
  obtain ⟨⟨f0_G, f1_G⟩, sG⟩ := iaG
  obtain ⟨ad1_G, n1_G, cap1_G, rfl, hw0_G, sG⟩ := GenerationI_cells sG
  obtain ⟨loIndex, hiIndex⟩ := fits_i64.1 wfIndex
  clear wfIndex
  have frm := Below.refl w.heap.size w
  have kG := Bx.new w [.int .i64 f0_G, .slice ad1_G n1_G cap1_G] 41
  replace frm := frm.alloc (by first | exact Nat.le_refl _ | (simp; done) | (simp; omega)) (.cells #[.int .i64 f0_G, .slice ad1_G n1_G cap1_G] 41)
  replace sG := GenerationI_below sG frm (.inr (Nat.le_refl _))
  have cG0 := kG.cell (i := 0) rfl
  have cG1 := kG.cell (i := 1) rfl
  have zw : (w.alloc (.cells #[.int .i64 f0_G, .slice ad1_G n1_G cap1_G] 41)).heap.size = w.heap.size + 1 := by simp
  go_enter Try.func5, Try.ntmps5
  go_wp2_with fail
  go_at_call 25
  generalize w.alloc (.cells #[.int .i64 f0_G, .slice ad1_G n1_G cap1_G] 41) = y0 at *
  refine (szGeneration sG 1048576 (by omega) (by omega)).mono ?_
  rintro e wsG ⟨leftG, rfl, leG, riG, fG, bl⟩
  have zsG := bl.size
  replace sG := GenerationI_below sG bl (by omega)
  replace kG := kG.below bl (by omega)
  clear cG0 cG1
  have cG0 := kG.cell (i := 0) rfl
  have cG1 := kG.cell (i := 1) rfl
  replace frm := frm.trans (bl.mono (by omega))
  clear bl
  by_cases hlG : 0 ≤ leftG
  case neg =>
    clear fG
    go_wp2
    go_ret
    exact ⟨rfl, frm⟩
  replace fG := fG hlG
  have cS := fun (w' : World) (lG hG : Nat) (uG : Value) (sG : GenerationI w' lG hG uG (f0_G, f1_G)) => PktW.sourceS w' sG fG aIndex loIndex hiIndex
  have cI := fun (w' : World) (lG hG : Nat) (uG : Value) (sG : GenerationI w' lG hG uG (f0_G, f1_G)) => PktI.source w' sG fG aIndex loIndex hiIndex
  try dsimp only at cS cI
  have hfit : CodedPacketF ((Pkt.source (f0_G, f1_G) aIndex)).1 := by exact PktW.fit_source _ _
  generalize hR : (Pkt.source (f0_G, f1_G) aIndex) = R at cS cI hfit
  clear hR
  obtain ⟨⟨f0_R, f1_R, f2_R⟩, R1⟩ := R
  try dsimp only at cS cI hfit
  have HS := Lib.hid cS
  have HI := Lib.hid cI
  clear cS cI
  have hcnt := CodedPacketC_le hfit
  have hkG := GenerationC_le fG
  go_wp2_with fail
  go_at_call 27
  refine (toGeneration sG fG).mono ?_
  rintro e w1 ⟨u1, rfl, r1, bl⟩
  have z1 := bl.size
  replace sG := GenerationI_below sG bl (by omega)
  replace kG := kG.below bl (by omega)
  clear cG0 cG1
  have cG0 := kG.cell (i := 0) rfl
  have cG1 := kG.cell (i := 1) rfl
  replace frm := frm.trans (bl.mono (by omega))
  clear bl
  obtain ⟨ad1_1, n1_1, cap1_1, rfl, hw0_1, r1⟩ := GenerationO_cells r1
  go_wp2_with fail
  go_at_call 26
  refine (HS.out _ _ _ _ (GenerationO_is r1)).mono ?_
  rintro e w2 ⟨u2, rfl, r2, bl⟩
  have z2 := bl.size
  replace sG := GenerationI_below sG bl (by omega)
  replace kG := kG.below bl (by omega)
  clear cG0 cG1
  have cG0 := kG.cell (i := 0) rfl
  have cG1 := kG.cell (i := 1) rfl
  replace frm := frm.trans (bl.mono (by omega))
  clear bl
  obtain ⟨ad1_2, n1_2, cap1_2, ad2_2, n2_2, cap2_2, rfl, hw0_2, r2⟩ := CodedPacketO_cells r2
  have kw0 := Bx.new w2 [.int .i64 f0_R, .slice ad1_2 n1_2 cap1_2, .slice ad2_2 n2_2 cap2_2] 26
  have hb := below_box w2 (.cells #[.int .i64 f0_R, .slice ad1_2 n1_2 cap1_2, .slice ad2_2 n2_2 cap2_2] 26)
  have zb2 : (w2.alloc (.cells #[.int .i64 f0_R, .slice ad1_2 n1_2 cap1_2, .slice ad2_2 n2_2 cap2_2] 26)).heap.size = w2.heap.size + 1 := by simp
  replace sG := GenerationI_below sG hb (.inr (Nat.le_refl _))
  replace r2 := CodedPacketO_below r2 hb (.inr (Nat.le_refl _))
  replace kG := kG.alloc (.cells #[.int .i64 f0_R, .slice ad1_2 n1_2 cap1_2, .slice ad2_2 n2_2 cap2_2] 26)
  clear cG0 cG1
  have cG0 := kG.cell (i := 0) rfl
  have cG1 := kG.cell (i := 1) rfl
  replace frm := frm.trans (hb.mono (by omega))
  clear hb
  have cw00 := kw0.cell (i := 0) rfl
  have cw01 := kw0.cell (i := 1) rfl
  have cw02 := kw0.cell (i := 2) rfl
  clear r1
  go_wp2_with fail
  go_at_call 27
  generalize w2.alloc (.cells #[.int .i64 f0_R, .slice ad1_2 n1_2 cap1_2, .slice ad2_2 n2_2 cap2_2] 26) = y1 at *
  refine (toGeneration sG fG).mono ?_
  rintro e w3 ⟨u3, rfl, r3, bl⟩
  have z3 := bl.size
  replace sG := GenerationI_below sG bl (by omega)
  replace r2 := CodedPacketO_below r2 bl (by omega)
  replace kG := kG.below bl (by omega)
  clear cG0 cG1
  have cG0 := kG.cell (i := 0) rfl
  have cG1 := kG.cell (i := 1) rfl
  replace kw0 := kw0.below bl (by omega)
  clear cw00 cw01 cw02
  have cw00 := kw0.cell (i := 0) rfl
  have cw01 := kw0.cell (i := 1) rfl
  have cw02 := kw0.cell (i := 2) rfl
  replace frm := frm.trans (bl.mono (by omega))
  clear bl
  obtain ⟨ad1_3, n1_3, cap1_3, rfl, hw0_3, r3⟩ := GenerationO_cells r3
  have kx0 := Bx.new w3 [.int .i64 f0_G, .slice ad1_3 n1_3 cap1_3] 44
  have hb := below_box w3 (.cells #[.int .i64 f0_G, .slice ad1_3 n1_3 cap1_3] 44)
  have zb3 : (w3.alloc (.cells #[.int .i64 f0_G, .slice ad1_3 n1_3 cap1_3] 44)).heap.size = w3.heap.size + 1 := by simp
  replace sG := GenerationI_below sG hb (.inr (Nat.le_refl _))
  replace r2 := CodedPacketO_below r2 hb (.inr (Nat.le_refl _))
  replace r3 := GenerationO_below r3 hb (.inr (Nat.le_refl _))
  replace kG := kG.alloc (.cells #[.int .i64 f0_G, .slice ad1_3 n1_3 cap1_3] 44)
  clear cG0 cG1
  have cG0 := kG.cell (i := 0) rfl
  have cG1 := kG.cell (i := 1) rfl
  replace kw0 := kw0.alloc (.cells #[.int .i64 f0_G, .slice ad1_3 n1_3 cap1_3] 44)
  clear cw00 cw01 cw02
  have cw00 := kw0.cell (i := 0) rfl
  have cw01 := kw0.cell (i := 1) rfl
  have cw02 := kw0.cell (i := 2) rfl
  replace frm := frm.trans (hb.mono (by omega))
  clear hb
  have cx00 := kx0.cell (i := 0) rfl
  have cx01 := kx0.cell (i := 1) rfl
  go_wp2_with fail
  go_at_call 28
  generalize w3.alloc (.cells #[.int .i64 f0_G, .slice ad1_3 n1_3 cap1_3] 44) = y2 at *
  refine (HI.out _ _ _ _ (GenerationO_is r3)).mono ?_
  rintro e w4 ⟨u4, rfl, r4, bl⟩
  have z4 := bl.size
  replace sG := GenerationI_below sG bl (by omega)
  replace r2 := CodedPacketO_below r2 bl (by omega)
  replace r3 := GenerationO_below r3 bl (by omega)
  replace kG := kG.below bl (by omega)
  clear cG0 cG1
  have cG0 := kG.cell (i := 0) rfl
  have cG1 := kG.cell (i := 1) rfl
  replace kw0 := kw0.below bl (by omega)
  clear cw00 cw01 cw02
  have cw00 := kw0.cell (i := 0) rfl
  have cw01 := kw0.cell (i := 1) rfl
  have cw02 := kw0.cell (i := 2) rfl
  replace kx0 := kx0.below bl (by omega)
  clear cx00 cx01
  have cx00 := kx0.cell (i := 0) rfl
  have cx01 := kx0.cell (i := 1) rfl
  replace frm := frm.trans (bl.mono (by omega))
  clear bl
  obtain ⟨ad1_4, n1_4, cap1_4, ad2_4, n2_4, cap2_4, rfl, hw0_4, r4⟩ := CodedPacketO_cells r4
  have kg0 := Bx.new w4 [.int .i64 f0_R, .slice ad1_4 n1_4 cap1_4, .slice ad2_4 n2_4 cap2_4] 26
  have hb := below_box w4 (.cells #[.int .i64 f0_R, .slice ad1_4 n1_4 cap1_4, .slice ad2_4 n2_4 cap2_4] 26)
  have zb4 : (w4.alloc (.cells #[.int .i64 f0_R, .slice ad1_4 n1_4 cap1_4, .slice ad2_4 n2_4 cap2_4] 26)).heap.size = w4.heap.size + 1 := by simp
  replace sG := GenerationI_below sG hb (.inr (Nat.le_refl _))
  replace r2 := CodedPacketO_below r2 hb (.inr (Nat.le_refl _))
  replace r3 := GenerationO_below r3 hb (.inr (Nat.le_refl _))
  replace r4 := CodedPacketO_below r4 hb (.inr (Nat.le_refl _))
  replace kG := kG.alloc (.cells #[.int .i64 f0_R, .slice ad1_4 n1_4 cap1_4, .slice ad2_4 n2_4 cap2_4] 26)
  clear cG0 cG1
  have cG0 := kG.cell (i := 0) rfl
  have cG1 := kG.cell (i := 1) rfl
  replace kw0 := kw0.alloc (.cells #[.int .i64 f0_R, .slice ad1_4 n1_4 cap1_4, .slice ad2_4 n2_4 cap2_4] 26)
  clear cw00 cw01 cw02
  have cw00 := kw0.cell (i := 0) rfl
  have cw01 := kw0.cell (i := 1) rfl
  have cw02 := kw0.cell (i := 2) rfl
  replace kx0 := kx0.alloc (.cells #[.int .i64 f0_R, .slice ad1_4 n1_4 cap1_4, .slice ad2_4 n2_4 cap2_4] 26)
  clear cx00 cx01
  have cx00 := kx0.cell (i := 0) rfl
  have cx01 := kx0.cell (i := 1) rfl
  replace frm := frm.trans (hb.mono (by omega))
  clear hb
  have cg00 := kg0.cell (i := 0) rfl
  have cg01 := kg0.cell (i := 1) rfl
  have cg02 := kg0.cell (i := 2) rfl
  go_wp2_with fail
  go_at_call 24
  generalize w4.alloc (.cells #[.int .i64 f0_R, .slice ad1_4 n1_4 cap1_4, .slice ad2_4 n2_4 cap2_4] 26) = y3 at *
  refine (eqCodedPacket (CodedPacketO_is r4) (CodedPacketO_is r2) hfit rfl).mono ?_
  rintro e w5 ⟨rfl, bl⟩
  have z5 := bl.size
  replace sG := GenerationI_below sG bl (by omega)
  replace r2 := CodedPacketO_below r2 bl (by omega)
  replace r3 := GenerationO_below r3 bl (by omega)
  replace r4 := CodedPacketO_below r4 bl (by omega)
  replace kG := kG.below bl (by omega)
  clear cG0 cG1
  have cG0 := kG.cell (i := 0) rfl
  have cG1 := kG.cell (i := 1) rfl
  replace kw0 := kw0.below bl (by omega)
  clear cw00 cw01 cw02
  have cw00 := kw0.cell (i := 0) rfl
  have cw01 := kw0.cell (i := 1) rfl
  have cw02 := kw0.cell (i := 2) rfl
  replace kx0 := kx0.below bl (by omega)
  clear cx00 cx01
  have cx00 := kx0.cell (i := 0) rfl
  have cx01 := kx0.cell (i := 1) rfl
  replace kg0 := kg0.below bl (by omega)
  clear cg00 cg01 cg02
  have cg00 := kg0.cell (i := 0) rfl
  have cg01 := kg0.cell (i := 1) rfl
  have cg02 := kg0.cell (i := 2) rfl
  replace frm := frm.trans (bl.mono (by omega))
  clear bl
  go_wp2
  replace sG := GenerationI_mv sG (Mv.drew (Mv.refl w5 0 0)) (.inr (Nat.zero_le _))
  replace r2 := CodedPacketO_mv r2 (Mv.drew (Mv.refl w5 0 0)) (.inr (Nat.zero_le _))
  replace r3 := GenerationO_mv r3 (Mv.drew (Mv.refl w5 0 0)) (.inr (Nat.zero_le _))
  replace r4 := CodedPacketO_mv r4 (Mv.drew (Mv.refl w5 0 0)) (.inr (Nat.zero_le _))
  replace kG := kG.drew
  clear cG0 cG1
  have cG0 := kG.cell (i := 0) rfl
  have cG1 := kG.cell (i := 1) rfl
  replace kw0 := kw0.drew
  clear cw00 cw01 cw02
  have cw00 := kw0.cell (i := 0) rfl
  have cw01 := kw0.cell (i := 1) rfl
  have cw02 := kw0.cell (i := 2) rfl
  replace kx0 := kx0.drew
  clear cx00 cx01
  have cx00 := kx0.cell (i := 0) rfl
  have cx01 := kx0.cell (i := 1) rfl
  replace kg0 := kg0.drew
  clear cg00 cg01 cg02
  have cg00 := kg0.cell (i := 0) rfl
  have cg01 := kg0.cell (i := 1) rfl
  have cg02 := kg0.cell (i := 2) rfl
  replace frm := frm.drew
  have zd : w5.heap.size = w5.drew.heap.size := rfl
  refine wp_region_held (S := fun w' => w'.cell? ⟨w.heap.size, 0, none⟩ = some (.int .i64 f0_G) ∧ w'.cell? ⟨w.heap.size, 1, none⟩ = some (.slice ad1_G n1_G cap1_G) ∧ w'.cell? ⟨w2.heap.size, 0, none⟩ = some (.int .i64 f0_R) ∧ w'.cell? ⟨w2.heap.size, 1, none⟩ = some (.slice ad1_2 n1_2 cap1_2) ∧ w'.cell? ⟨w2.heap.size, 2, none⟩ = some (.slice ad2_2 n2_2 cap2_2) ∧ w'.cell? ⟨w3.heap.size, 0, none⟩ = some (.int .i64 f0_G) ∧ w'.cell? ⟨w3.heap.size, 1, none⟩ = some (.slice ad1_3 n1_3 cap1_3) ∧ w'.cell? ⟨w4.heap.size, 0, none⟩ = some (.int .i64 f0_R) ∧ w'.cell? ⟨w4.heap.size, 1, none⟩ = some (.slice ad1_4 n1_4 cap1_4) ∧ w'.cell? ⟨w4.heap.size, 2, none⟩ = some (.slice ad2_4 n2_4 cap2_4)) (by kernel_rfl) ?_
  change wpAnyH _ _ _ _ _ _ _ _ w5.drew
  generalize w5.drew = d0 at *
  have HH := Lib.hid (show d0.cell? ⟨w.heap.size, 0, none⟩ = some (.int .i64 f0_G) ∧ d0.cell? ⟨w.heap.size, 1, none⟩ = some (.slice ad1_G n1_G cap1_G) ∧ d0.cell? ⟨w2.heap.size, 0, none⟩ = some (.int .i64 f0_R) ∧ d0.cell? ⟨w2.heap.size, 1, none⟩ = some (.slice ad1_2 n1_2 cap1_2) ∧ d0.cell? ⟨w2.heap.size, 2, none⟩ = some (.slice ad2_2 n2_2 cap2_2) ∧ d0.cell? ⟨w3.heap.size, 0, none⟩ = some (.int .i64 f0_G) ∧ d0.cell? ⟨w3.heap.size, 1, none⟩ = some (.slice ad1_3 n1_3 cap1_3) ∧ d0.cell? ⟨w4.heap.size, 0, none⟩ = some (.int .i64 f0_R) ∧ d0.cell? ⟨w4.heap.size, 1, none⟩ = some (.slice ad1_4 n1_4 cap1_4) ∧ d0.cell? ⟨w4.heap.size, 2, none⟩ = some (.slice ad2_4 n2_4 cap2_4) from ⟨cG0, cG1, cw00, cw01, cw02, cx00, cx01, cg00, cg01, cg02⟩)
  refine wpAnyH_take (i := 0) (oi := ⟨some _, _, _, _, _, _⟩) (v := ?_) rfl (by kernel_rfl) (by kernel_rfl) (by kernel_rfl) (fun _ _ _ h => h) (Or.inl ⟨by rfl, ?_⟩) HH.out ?_
  rotate_left
  · intro wS hSw
    try dsimp only at hSw
    go_simp
    all_goals (with_reducible rfl)
  simp only [Act.put, List.setIfInBounds_toArray, List.set_cons_zero, List.set_cons_succ]
  refine wpAnyH_take (i := 1) (oi := ⟨some _, _, _, _, _, _⟩) (v := ?_) rfl (by kernel_rfl) (by kernel_rfl) (by kernel_rfl) (fun _ _ _ h => h) (Or.inl ⟨by rfl, ?_⟩) HH.out ?_
  rotate_left
  · intro wS hSw
    try dsimp only at hSw
    go_simp
    all_goals (with_reducible rfl)
  simp only [Act.put, List.setIfInBounds_toArray, List.set_cons_zero, List.set_cons_succ]
  clear HH
  refine wpAnyH_ready (rs := [2]) (by kernel_rfl) (by simp) ?_
  refine AllReadyH.cons (o := ⟨some _, _, _, _, _, _⟩) rfl (fun Kq hKq => ?_) AllReadyH.nil
  go_simp
  refine (toGeneration sG fG).mono ?_
  rintro e w6 ⟨u6, rfl, r6, bl⟩
  have z6 := bl.size
  replace sG := GenerationI_below sG bl (by omega)
  replace r2 := CodedPacketO_below r2 bl (by omega)
  replace r3 := GenerationO_below r3 bl (by omega)
  replace r4 := CodedPacketO_below r4 bl (by omega)
  replace kG := kG.below bl (by omega)
  clear cG0 cG1
  have cG0 := kG.cell (i := 0) rfl
  have cG1 := kG.cell (i := 1) rfl
  replace kw0 := kw0.below bl (by omega)
  clear cw00 cw01 cw02
  have cw00 := kw0.cell (i := 0) rfl
  have cw01 := kw0.cell (i := 1) rfl
  have cw02 := kw0.cell (i := 2) rfl
  replace kx0 := kx0.below bl (by omega)
  clear cx00 cx01
  have cx00 := kx0.cell (i := 0) rfl
  have cx01 := kx0.cell (i := 1) rfl
  replace kg0 := kg0.below bl (by omega)
  clear cg00 cg01 cg02
  have cg00 := kg0.cell (i := 0) rfl
  have cg01 := kg0.cell (i := 1) rfl
  have cg02 := kg0.cell (i := 2) rfl
  replace frm := frm.trans (bl.mono (by omega))
  clear bl
  obtain ⟨ad1_6, n1_6, cap1_6, rfl, hw0_6, r6⟩ := GenerationO_cells r6
  have HH := Lib.hid (show w6.cell? ⟨w.heap.size, 0, none⟩ = some (.int .i64 f0_G) ∧ w6.cell? ⟨w.heap.size, 1, none⟩ = some (.slice ad1_G n1_G cap1_G) ∧ w6.cell? ⟨w2.heap.size, 0, none⟩ = some (.int .i64 f0_R) ∧ w6.cell? ⟨w2.heap.size, 1, none⟩ = some (.slice ad1_2 n1_2 cap1_2) ∧ w6.cell? ⟨w2.heap.size, 2, none⟩ = some (.slice ad2_2 n2_2 cap2_2) ∧ w6.cell? ⟨w3.heap.size, 0, none⟩ = some (.int .i64 f0_G) ∧ w6.cell? ⟨w3.heap.size, 1, none⟩ = some (.slice ad1_3 n1_3 cap1_3) ∧ w6.cell? ⟨w4.heap.size, 0, none⟩ = some (.int .i64 f0_R) ∧ w6.cell? ⟨w4.heap.size, 1, none⟩ = some (.slice ad1_4 n1_4 cap1_4) ∧ w6.cell? ⟨w4.heap.size, 2, none⟩ = some (.slice ad2_4 n2_4 cap2_4) from ⟨cG0, cG1, cw00, cw01, cw02, cx00, cx01, cg00, cg01, cg02⟩)
  refine hKq.out _ _ HH.out (fun _ => ?_)
  clear hKq Kq
  clear HH
  refine wpAnyH_ready (rs := [3]) (by kernel_rfl) (by simp) ?_
  refine AllReadyH.cons (o := ⟨some _, _, _, _, _, _⟩) rfl (fun Kq hKq => ?_) AllReadyH.nil
  go_simp
  refine (eqGeneration (GenerationO_is r3) (GenerationO_is r6) fG rfl).mono ?_
  rintro e w7 ⟨rfl, bl⟩
  have z7 := bl.size
  replace sG := GenerationI_below sG bl (by omega)
  replace r2 := CodedPacketO_below r2 bl (by omega)
  replace r3 := GenerationO_below r3 bl (by omega)
  replace r4 := CodedPacketO_below r4 bl (by omega)
  replace kG := kG.below bl (by omega)
  clear cG0 cG1
  have cG0 := kG.cell (i := 0) rfl
  have cG1 := kG.cell (i := 1) rfl
  replace kw0 := kw0.below bl (by omega)
  clear cw00 cw01 cw02
  have cw00 := kw0.cell (i := 0) rfl
  have cw01 := kw0.cell (i := 1) rfl
  have cw02 := kw0.cell (i := 2) rfl
  replace kx0 := kx0.below bl (by omega)
  clear cx00 cx01
  have cx00 := kx0.cell (i := 0) rfl
  have cx01 := kx0.cell (i := 1) rfl
  replace kg0 := kg0.below bl (by omega)
  clear cg00 cg01 cg02
  have cg00 := kg0.cell (i := 0) rfl
  have cg01 := kg0.cell (i := 1) rfl
  have cg02 := kg0.cell (i := 2) rfl
  replace frm := frm.trans (bl.mono (by omega))
  clear bl
  have HH := Lib.hid (show w7.cell? ⟨w.heap.size, 0, none⟩ = some (.int .i64 f0_G) ∧ w7.cell? ⟨w.heap.size, 1, none⟩ = some (.slice ad1_G n1_G cap1_G) ∧ w7.cell? ⟨w2.heap.size, 0, none⟩ = some (.int .i64 f0_R) ∧ w7.cell? ⟨w2.heap.size, 1, none⟩ = some (.slice ad1_2 n1_2 cap1_2) ∧ w7.cell? ⟨w2.heap.size, 2, none⟩ = some (.slice ad2_2 n2_2 cap2_2) ∧ w7.cell? ⟨w3.heap.size, 0, none⟩ = some (.int .i64 f0_G) ∧ w7.cell? ⟨w3.heap.size, 1, none⟩ = some (.slice ad1_3 n1_3 cap1_3) ∧ w7.cell? ⟨w4.heap.size, 0, none⟩ = some (.int .i64 f0_R) ∧ w7.cell? ⟨w4.heap.size, 1, none⟩ = some (.slice ad1_4 n1_4 cap1_4) ∧ w7.cell? ⟨w4.heap.size, 2, none⟩ = some (.slice ad2_4 n2_4 cap2_4) from ⟨cG0, cG1, cw00, cw01, cw02, cx00, cx01, cg00, cg01, cg02⟩)
  refine hKq.out _ _ HH.out (fun _ => ?_)
  clear hKq Kq
  try simp only [Act.put, List.setIfInBounds_toArray, List.set_cons_zero, List.set_cons_succ]
  refine wpAnyH_take (i := 4) (oi := ⟨some _, _, _, _, _, _⟩) (v := ?_) rfl (by kernel_rfl) (by kernel_rfl) (by kernel_rfl) (fun _ _ _ h => h) (Or.inl ⟨by rfl, ?_⟩) HH.out ?_
  rotate_left
  · intro wS hSw
    try dsimp only at hSw
    go_simp
    all_goals (with_reducible rfl)
  simp only [Act.put, List.setIfInBounds_toArray, List.set_cons_zero, List.set_cons_succ]
  refine wpAnyH_done (by kernel_rfl) ?_ _
  clear HH
  clear r6
  go_wp2_with fail
  go_at_call 30
  refine (markGeneration r3 fG (1) (by omega) (by omega)).mono ?_
  rintro e w8 ⟨rfl, new, mv⟩
  have z8 := mv.size
  replace sG := GenerationI_mv sG mv (by omega)
  replace r2 := CodedPacketO_mv r2 mv (by omega)
  replace r4 := CodedPacketO_mv r4 mv (by omega)
  replace kG := kG.mv mv (by omega)
  clear cG0 cG1
  have cG0 := kG.cell (i := 0) rfl
  have cG1 := kG.cell (i := 1) rfl
  replace kw0 := kw0.mv mv (by omega)
  clear cw00 cw01 cw02
  have cw00 := kw0.cell (i := 0) rfl
  have cw01 := kw0.cell (i := 1) rfl
  have cw02 := kw0.cell (i := 2) rfl
  replace kx0 := kx0.mv mv (by omega)
  clear cx00 cx01
  have cx00 := kx0.cell (i := 0) rfl
  have cx01 := kx0.cell (i := 1) rfl
  replace kg0 := kg0.mv mv (by omega)
  clear cg00 cg01 cg02
  have cg00 := kg0.cell (i := 0) rfl
  have cg01 := kg0.cell (i := 1) rfl
  have cg02 := kg0.cell (i := 2) rfl
  replace frm := frm.trans (mv.below (by omega) (by omega))
  clear new mv
  clear r3
  go_wp2_with fail
  go_at_call 24
  refine (eqCodedPacket (CodedPacketO_is r4) (CodedPacketO_is r2) hfit rfl).mono ?_
  rintro e w9 ⟨rfl, bl⟩
  have z9 := bl.size
  replace sG := GenerationI_below sG bl (by omega)
  replace r2 := CodedPacketO_below r2 bl (by omega)
  replace r4 := CodedPacketO_below r4 bl (by omega)
  replace kG := kG.below bl (by omega)
  clear cG0 cG1
  have cG0 := kG.cell (i := 0) rfl
  have cG1 := kG.cell (i := 1) rfl
  replace kw0 := kw0.below bl (by omega)
  clear cw00 cw01 cw02
  have cw00 := kw0.cell (i := 0) rfl
  have cw01 := kw0.cell (i := 1) rfl
  have cw02 := kw0.cell (i := 2) rfl
  replace kx0 := kx0.below bl (by omega)
  clear cx00 cx01
  have cx00 := kx0.cell (i := 0) rfl
  have cx01 := kx0.cell (i := 1) rfl
  replace kg0 := kg0.below bl (by omega)
  clear cg00 cg01 cg02
  have cg00 := kg0.cell (i := 0) rfl
  have cg01 := kg0.cell (i := 1) rfl
  have cg02 := kg0.cell (i := 2) rfl
  replace frm := frm.trans (bl.mono (by omega))
  clear bl
  go_wp2_with fail
  go_at_call 31
  refine (markCodedPacket r4 hfit (1) (by omega) (by omega)).mono ?_
  rintro e w10 ⟨rfl, new, mv⟩
  have z10 := mv.size
  replace sG := GenerationI_mv sG mv (by omega)
  replace r2 := CodedPacketO_mv r2 mv (by omega)
  replace kG := kG.mv mv (by omega)
  clear cG0 cG1
  have cG0 := kG.cell (i := 0) rfl
  have cG1 := kG.cell (i := 1) rfl
  replace kw0 := kw0.mv mv (by omega)
  clear cw00 cw01 cw02
  have cw00 := kw0.cell (i := 0) rfl
  have cw01 := kw0.cell (i := 1) rfl
  have cw02 := kw0.cell (i := 2) rfl
  replace kx0 := kx0.mv mv (by omega)
  clear cx00 cx01
  have cx00 := kx0.cell (i := 0) rfl
  have cx01 := kx0.cell (i := 1) rfl
  replace kg0 := kg0.mv mv (by omega)
  clear cg00 cg01 cg02
  have cg00 := kg0.cell (i := 0) rfl
  have cg01 := kg0.cell (i := 1) rfl
  have cg02 := kg0.cell (i := 2) rfl
  replace frm := frm.trans (mv.below (by omega) (by omega))
  have r4m := new
  clear new mv
  go_wp2_with fail
  go_at_call 32
  refine (heldCodedPacket (1) (CodedPacketO_is r4m) hfit (by omega) (by omega)).mono ?_
  rintro e w11 ⟨rfl, bl⟩
  have z11 := bl.size
  replace sG := GenerationI_below sG bl (by omega)
  replace r2 := CodedPacketO_below r2 bl (by omega)
  replace r4m := CodedPacketO_below r4m bl (by omega)
  replace kG := kG.below bl (by omega)
  clear cG0 cG1
  have cG0 := kG.cell (i := 0) rfl
  have cG1 := kG.cell (i := 1) rfl
  replace kw0 := kw0.below bl (by omega)
  clear cw00 cw01 cw02
  have cw00 := kw0.cell (i := 0) rfl
  have cw01 := kw0.cell (i := 1) rfl
  have cw02 := kw0.cell (i := 2) rfl
  replace kx0 := kx0.below bl (by omega)
  clear cx00 cx01
  have cx00 := kx0.cell (i := 0) rfl
  have cx01 := kx0.cell (i := 1) rfl
  replace kg0 := kg0.below bl (by omega)
  clear cg00 cg01 cg02
  have cg00 := kg0.cell (i := 0) rfl
  have cg01 := kg0.cell (i := 1) rfl
  have cg02 := kg0.cell (i := 2) rfl
  replace frm := frm.trans (bl.mono (by omega))
  clear bl
  go_wp2_with fail
  go_at_call 27
  refine (toGeneration sG fG).mono ?_
  rintro e w12 ⟨u12, rfl, r12, bl⟩
  have z12 := bl.size
  replace r2 := CodedPacketO_below r2 bl (by omega)
  replace r4m := CodedPacketO_below r4m bl (by omega)
  replace kG := kG.below bl (by omega)
  clear cG0 cG1
  have cG0 := kG.cell (i := 0) rfl
  have cG1 := kG.cell (i := 1) rfl
  replace kw0 := kw0.below bl (by omega)
  clear cw00 cw01 cw02
  have cw00 := kw0.cell (i := 0) rfl
  have cw01 := kw0.cell (i := 1) rfl
  have cw02 := kw0.cell (i := 2) rfl
  replace kx0 := kx0.below bl (by omega)
  clear cx00 cx01
  have cx00 := kx0.cell (i := 0) rfl
  have cx01 := kx0.cell (i := 1) rfl
  replace kg0 := kg0.below bl (by omega)
  clear cg00 cg01 cg02
  have cg00 := kg0.cell (i := 0) rfl
  have cg01 := kg0.cell (i := 1) rfl
  have cg02 := kg0.cell (i := 2) rfl
  replace frm := frm.trans (bl.mono (by omega))
  clear bl
  obtain ⟨ad1_12, n1_12, cap1_12, rfl, hw0_12, r12⟩ := GenerationO_cells r12
  go_wp2_with fail
  go_at_call 28
  refine (HI.out _ _ _ _ (GenerationO_is r12)).mono ?_
  rintro e w13 ⟨u13, rfl, r13, bl⟩
  have z13 := bl.size
  replace r2 := CodedPacketO_below r2 bl (by omega)
  replace r4m := CodedPacketO_below r4m bl (by omega)
  replace kG := kG.below bl (by omega)
  clear cG0 cG1
  have cG0 := kG.cell (i := 0) rfl
  have cG1 := kG.cell (i := 1) rfl
  replace kw0 := kw0.below bl (by omega)
  clear cw00 cw01 cw02
  have cw00 := kw0.cell (i := 0) rfl
  have cw01 := kw0.cell (i := 1) rfl
  have cw02 := kw0.cell (i := 2) rfl
  replace kx0 := kx0.below bl (by omega)
  clear cx00 cx01
  have cx00 := kx0.cell (i := 0) rfl
  have cx01 := kx0.cell (i := 1) rfl
  replace kg0 := kg0.below bl (by omega)
  clear cg00 cg01 cg02
  have cg00 := kg0.cell (i := 0) rfl
  have cg01 := kg0.cell (i := 1) rfl
  have cg02 := kg0.cell (i := 2) rfl
  replace frm := frm.trans (bl.mono (by omega))
  clear bl
  obtain ⟨ad1_13, n1_13, cap1_13, ad2_13, n2_13, cap2_13, rfl, hw0_13, r13⟩ := CodedPacketO_cells r13
  have kh0 := Bx.new w13 [.int .i64 f0_R, .slice ad1_13 n1_13 cap1_13, .slice ad2_13 n2_13 cap2_13] 26
  have hb := below_box w13 (.cells #[.int .i64 f0_R, .slice ad1_13 n1_13 cap1_13, .slice ad2_13 n2_13 cap2_13] 26)
  have zb13 : (w13.alloc (.cells #[.int .i64 f0_R, .slice ad1_13 n1_13 cap1_13, .slice ad2_13 n2_13 cap2_13] 26)).heap.size = w13.heap.size + 1 := by simp
  replace r2 := CodedPacketO_below r2 hb (.inr (Nat.le_refl _))
  replace r4m := CodedPacketO_below r4m hb (.inr (Nat.le_refl _))
  replace r13 := CodedPacketO_below r13 hb (.inr (Nat.le_refl _))
  replace kG := kG.alloc (.cells #[.int .i64 f0_R, .slice ad1_13 n1_13 cap1_13, .slice ad2_13 n2_13 cap2_13] 26)
  clear cG0 cG1
  have cG0 := kG.cell (i := 0) rfl
  have cG1 := kG.cell (i := 1) rfl
  replace kw0 := kw0.alloc (.cells #[.int .i64 f0_R, .slice ad1_13 n1_13 cap1_13, .slice ad2_13 n2_13 cap2_13] 26)
  clear cw00 cw01 cw02
  have cw00 := kw0.cell (i := 0) rfl
  have cw01 := kw0.cell (i := 1) rfl
  have cw02 := kw0.cell (i := 2) rfl
  replace kx0 := kx0.alloc (.cells #[.int .i64 f0_R, .slice ad1_13 n1_13 cap1_13, .slice ad2_13 n2_13 cap2_13] 26)
  clear cx00 cx01
  have cx00 := kx0.cell (i := 0) rfl
  have cx01 := kx0.cell (i := 1) rfl
  replace kg0 := kg0.alloc (.cells #[.int .i64 f0_R, .slice ad1_13 n1_13 cap1_13, .slice ad2_13 n2_13 cap2_13] 26)
  clear cg00 cg01 cg02
  have cg00 := kg0.cell (i := 0) rfl
  have cg01 := kg0.cell (i := 1) rfl
  have cg02 := kg0.cell (i := 2) rfl
  replace frm := frm.trans (hb.mono (by omega))
  clear hb
  have ch00 := kh0.cell (i := 0) rfl
  have ch01 := kh0.cell (i := 1) rfl
  have ch02 := kh0.cell (i := 2) rfl
  clear r12
  go_wp2_with fail
  go_at_call 24
  generalize w13.alloc (.cells #[.int .i64 f0_R, .slice ad1_13 n1_13 cap1_13, .slice ad2_13 n2_13 cap2_13] 26) = y4 at *
  refine (eqCodedPacket (CodedPacketO_is r13) (CodedPacketO_is r2) hfit rfl).mono ?_
  rintro e w14 ⟨rfl, bl⟩
  have z14 := bl.size
  replace r4m := CodedPacketO_below r4m bl (by omega)
  replace kG := kG.below bl (by omega)
  clear cG0 cG1
  have cG0 := kG.cell (i := 0) rfl
  have cG1 := kG.cell (i := 1) rfl
  replace kw0 := kw0.below bl (by omega)
  clear cw00 cw01 cw02
  have cw00 := kw0.cell (i := 0) rfl
  have cw01 := kw0.cell (i := 1) rfl
  have cw02 := kw0.cell (i := 2) rfl
  replace kx0 := kx0.below bl (by omega)
  clear cx00 cx01
  have cx00 := kx0.cell (i := 0) rfl
  have cx01 := kx0.cell (i := 1) rfl
  replace kg0 := kg0.below bl (by omega)
  clear cg00 cg01 cg02
  have cg00 := kg0.cell (i := 0) rfl
  have cg01 := kg0.cell (i := 1) rfl
  have cg02 := kg0.cell (i := 2) rfl
  replace kh0 := kh0.below bl (by omega)
  clear ch00 ch01 ch02
  have ch00 := kh0.cell (i := 0) rfl
  have ch01 := kh0.cell (i := 1) rfl
  have ch02 := kh0.cell (i := 2) rfl
  replace frm := frm.trans (bl.mono (by omega))
  clear bl
  clear r2
  clear r13
  go_wp2_with fail
  go_at_call 32
  refine (heldCodedPacket (1) (CodedPacketO_is r4m) hfit (by omega) (by omega)).mono ?_
  rintro e w15 ⟨rfl, bl⟩
  have z15 := bl.size
  replace kG := kG.below bl (by omega)
  clear cG0 cG1
  have cG0 := kG.cell (i := 0) rfl
  have cG1 := kG.cell (i := 1) rfl
  replace kw0 := kw0.below bl (by omega)
  clear cw00 cw01 cw02
  have cw00 := kw0.cell (i := 0) rfl
  have cw01 := kw0.cell (i := 1) rfl
  have cw02 := kw0.cell (i := 2) rfl
  replace kx0 := kx0.below bl (by omega)
  clear cx00 cx01
  have cx00 := kx0.cell (i := 0) rfl
  have cx01 := kx0.cell (i := 1) rfl
  replace kg0 := kg0.below bl (by omega)
  clear cg00 cg01 cg02
  have cg00 := kg0.cell (i := 0) rfl
  have cg01 := kg0.cell (i := 1) rfl
  have cg02 := kg0.cell (i := 2) rfl
  replace kh0 := kh0.below bl (by omega)
  clear ch00 ch01 ch02
  have ch00 := kh0.cell (i := 0) rfl
  have ch01 := kh0.cell (i := 1) rfl
  have ch02 := kh0.cell (i := 2) rfl
  replace frm := frm.trans (bl.mono (by omega))
  clear bl
  clear r4m
  go_wp2
  go_ret
  exact ⟨rfl, frm⟩

set_option maxRecDepth 100000 in
set_option maxHeartbeats 1600000 in
theorem exactCodePacket (w : World) (vG : Value) (iaG : ∃ x, GenerationI w 0 w.heap.size vG x) (vCoefficients : Value) (iaCoefficients : ∃ x, IntSI w 0 w.heap.size vCoefficients x) :
    Calls Try.prog 6 #[vG, vCoefficients] w fun e w' => e = .returned (.bool true) ∧ Below w.heap.size w w' := by
  obtain ⟨⟨f0_G, f1_G⟩, sG⟩ := iaG
  obtain ⟨ad1_G, n1_G, cap1_G, rfl, hw0_G, sG⟩ := GenerationI_cells sG
  obtain ⟨xCoefficients, adCoefficients, nCoefficients, capCoefficients, rfl, sCoefficients⟩ := iaCoefficients
  have frm := Below.refl w.heap.size w
  have kG := Bx.new w [.int .i64 f0_G, .slice ad1_G n1_G cap1_G] 41
  replace frm := frm.alloc (by first | exact Nat.le_refl _ | (simp; done) | (simp; omega)) (.cells #[.int .i64 f0_G, .slice ad1_G n1_G cap1_G] 41)
  replace sG := GenerationI_below sG frm (.inr (Nat.le_refl _))
  replace sCoefficients := sCoefficients.below frm (.inr (Nat.le_refl _))
  have cG0 := kG.cell (i := 0) rfl
  have cG1 := kG.cell (i := 1) rfl
  have zw : (w.alloc (.cells #[.int .i64 f0_G, .slice ad1_G n1_G cap1_G] 41)).heap.size = w.heap.size + 1 := by simp
  rcases Nat.lt_or_ge 1048576 nCoefficients with bigCoefficients | bigCoefficients
  · have hbCoefficients := sCoefficients.big
    have hcCoefficients := sCoefficients.le
    unfold maxLen at hbCoefficients
    go_enter Try.func6, Try.ntmps6
    go_wp2
    go_ret
    exact ⟨rfl, frm⟩
  have fCoefficients : IntSF xCoefficients := by have := sCoefficients.len; show xCoefficients.length ≤ 1048576; omega
  have hbCoefficients := sCoefficients.big
  have hcCoefficients := sCoefficients.le
  unfold maxLen at hbCoefficients
  replace sCoefficients : IntSI _ 0 w.heap.size (.slice adCoefficients nCoefficients capCoefficients) xCoefficients := ⟨_, _, _, rfl, sCoefficients⟩
  go_enter Try.func6, Try.ntmps6
  go_wp2_with fail
  go_at_call 25
  generalize w.alloc (.cells #[.int .i64 f0_G, .slice ad1_G n1_G cap1_G] 41) = y0 at *
  refine (szGeneration sG 1048576 (by omega) (by omega)).mono ?_
  rintro e wsG ⟨leftG, rfl, leG, riG, fG, bl⟩
  have zsG := bl.size
  replace sG := GenerationI_below sG bl (by omega)
  replace sCoefficients := IntSI_below sCoefficients bl (by omega)
  replace kG := kG.below bl (by omega)
  clear cG0 cG1
  have cG0 := kG.cell (i := 0) rfl
  have cG1 := kG.cell (i := 1) rfl
  replace frm := frm.trans (bl.mono (by omega))
  clear bl
  by_cases hlG : 0 ≤ leftG
  case neg =>
    clear fG
    go_wp2
    go_ret
    exact ⟨rfl, frm⟩
  replace fG := fG hlG
  have cS := fun (w' : World) (lG hG : Nat) (uG : Value) (sG : GenerationI w' lG hG uG (f0_G, f1_G)) (lCoefficients hCoefficients : Nat) (uCoefficients : Value) (sCoefficients : IntSI w' lCoefficients hCoefficients uCoefficients xCoefficients) => PktW.codeS w' sG fG sCoefficients fCoefficients
  have cI := fun (w' : World) (lG hG : Nat) (uG : Value) (sG : GenerationI w' lG hG uG (f0_G, f1_G)) (lCoefficients hCoefficients : Nat) (uCoefficients : Value) (sCoefficients : IntSI w' lCoefficients hCoefficients uCoefficients xCoefficients) => PktI.code w' sG fG sCoefficients fCoefficients
  try dsimp only at cS cI
  have hfit : CodedPacketF ((Pkt.codeP (f0_G, f1_G) xCoefficients)).1 := by exact PktW.fit_code _ _
  generalize hR : (Pkt.codeP (f0_G, f1_G) xCoefficients) = R at cS cI hfit
  clear hR
  obtain ⟨⟨f0_R, f1_R, f2_R⟩, R1⟩ := R
  try dsimp only at cS cI hfit
  have HS := Lib.hid cS
  have HI := Lib.hid cI
  clear cS cI
  have hcnt := CodedPacketC_le hfit
  have hkG := GenerationC_le fG
  have hkCoefficients := IntSC_le fCoefficients
  go_wp2_with fail
  go_at_call 27
  refine (toGeneration sG fG).mono ?_
  rintro e w1 ⟨u1, rfl, r1, bl⟩
  have z1 := bl.size
  replace sG := GenerationI_below sG bl (by omega)
  replace sCoefficients := IntSI_below sCoefficients bl (by omega)
  replace kG := kG.below bl (by omega)
  clear cG0 cG1
  have cG0 := kG.cell (i := 0) rfl
  have cG1 := kG.cell (i := 1) rfl
  replace frm := frm.trans (bl.mono (by omega))
  clear bl
  obtain ⟨ad1_1, n1_1, cap1_1, rfl, hw0_1, r1⟩ := GenerationO_cells r1
  go_wp2_with fail
  go_at_call 34
  refine (toIntS sCoefficients fCoefficients).mono ?_
  rintro e w2 ⟨u2, rfl, r2, bl⟩
  have z2 := bl.size
  replace sG := GenerationI_below sG bl (by omega)
  replace sCoefficients := IntSI_below sCoefficients bl (by omega)
  replace r1 := GenerationO_below r1 bl (by omega)
  replace kG := kG.below bl (by omega)
  clear cG0 cG1
  have cG0 := kG.cell (i := 0) rfl
  have cG1 := kG.cell (i := 1) rfl
  replace frm := frm.trans (bl.mono (by omega))
  clear bl
  go_wp2_with fail
  go_at_call 33
  refine (HS.out _ _ _ _ (GenerationO_is r1) _ _ _ (IntSO_is r2)).mono ?_
  rintro e w3 ⟨u3, rfl, r3, bl⟩
  have z3 := bl.size
  replace sG := GenerationI_below sG bl (by omega)
  replace sCoefficients := IntSI_below sCoefficients bl (by omega)
  replace kG := kG.below bl (by omega)
  clear cG0 cG1
  have cG0 := kG.cell (i := 0) rfl
  have cG1 := kG.cell (i := 1) rfl
  replace frm := frm.trans (bl.mono (by omega))
  clear bl
  obtain ⟨ad1_3, n1_3, cap1_3, ad2_3, n2_3, cap2_3, rfl, hw0_3, r3⟩ := CodedPacketO_cells r3
  have kw0 := Bx.new w3 [.int .i64 f0_R, .slice ad1_3 n1_3 cap1_3, .slice ad2_3 n2_3 cap2_3] 26
  have hb := below_box w3 (.cells #[.int .i64 f0_R, .slice ad1_3 n1_3 cap1_3, .slice ad2_3 n2_3 cap2_3] 26)
  have zb3 : (w3.alloc (.cells #[.int .i64 f0_R, .slice ad1_3 n1_3 cap1_3, .slice ad2_3 n2_3 cap2_3] 26)).heap.size = w3.heap.size + 1 := by simp
  replace sG := GenerationI_below sG hb (.inr (Nat.le_refl _))
  replace sCoefficients := IntSI_below sCoefficients hb (.inr (Nat.le_refl _))
  replace r3 := CodedPacketO_below r3 hb (.inr (Nat.le_refl _))
  replace kG := kG.alloc (.cells #[.int .i64 f0_R, .slice ad1_3 n1_3 cap1_3, .slice ad2_3 n2_3 cap2_3] 26)
  clear cG0 cG1
  have cG0 := kG.cell (i := 0) rfl
  have cG1 := kG.cell (i := 1) rfl
  replace frm := frm.trans (hb.mono (by omega))
  clear hb
  have cw00 := kw0.cell (i := 0) rfl
  have cw01 := kw0.cell (i := 1) rfl
  have cw02 := kw0.cell (i := 2) rfl
  clear r1
  clear r2
  go_wp2_with fail
  go_at_call 27
  generalize w3.alloc (.cells #[.int .i64 f0_R, .slice ad1_3 n1_3 cap1_3, .slice ad2_3 n2_3 cap2_3] 26) = y1 at *
  refine (toGeneration sG fG).mono ?_
  rintro e w4 ⟨u4, rfl, r4, bl⟩
  have z4 := bl.size
  replace sG := GenerationI_below sG bl (by omega)
  replace sCoefficients := IntSI_below sCoefficients bl (by omega)
  replace r3 := CodedPacketO_below r3 bl (by omega)
  replace kG := kG.below bl (by omega)
  clear cG0 cG1
  have cG0 := kG.cell (i := 0) rfl
  have cG1 := kG.cell (i := 1) rfl
  replace kw0 := kw0.below bl (by omega)
  clear cw00 cw01 cw02
  have cw00 := kw0.cell (i := 0) rfl
  have cw01 := kw0.cell (i := 1) rfl
  have cw02 := kw0.cell (i := 2) rfl
  replace frm := frm.trans (bl.mono (by omega))
  clear bl
  obtain ⟨ad1_4, n1_4, cap1_4, rfl, hw0_4, r4⟩ := GenerationO_cells r4
  have kx0 := Bx.new w4 [.int .i64 f0_G, .slice ad1_4 n1_4 cap1_4] 44
  have hb := below_box w4 (.cells #[.int .i64 f0_G, .slice ad1_4 n1_4 cap1_4] 44)
  have zb4 : (w4.alloc (.cells #[.int .i64 f0_G, .slice ad1_4 n1_4 cap1_4] 44)).heap.size = w4.heap.size + 1 := by simp
  replace sG := GenerationI_below sG hb (.inr (Nat.le_refl _))
  replace sCoefficients := IntSI_below sCoefficients hb (.inr (Nat.le_refl _))
  replace r3 := CodedPacketO_below r3 hb (.inr (Nat.le_refl _))
  replace r4 := GenerationO_below r4 hb (.inr (Nat.le_refl _))
  replace kG := kG.alloc (.cells #[.int .i64 f0_G, .slice ad1_4 n1_4 cap1_4] 44)
  clear cG0 cG1
  have cG0 := kG.cell (i := 0) rfl
  have cG1 := kG.cell (i := 1) rfl
  replace kw0 := kw0.alloc (.cells #[.int .i64 f0_G, .slice ad1_4 n1_4 cap1_4] 44)
  clear cw00 cw01 cw02
  have cw00 := kw0.cell (i := 0) rfl
  have cw01 := kw0.cell (i := 1) rfl
  have cw02 := kw0.cell (i := 2) rfl
  replace frm := frm.trans (hb.mono (by omega))
  clear hb
  have cx00 := kx0.cell (i := 0) rfl
  have cx01 := kx0.cell (i := 1) rfl
  go_wp2_with fail
  go_at_call 34
  generalize w4.alloc (.cells #[.int .i64 f0_G, .slice ad1_4 n1_4 cap1_4] 44) = y2 at *
  refine (toIntS sCoefficients fCoefficients).mono ?_
  rintro e w5 ⟨u5, rfl, r5, bl⟩
  have z5 := bl.size
  replace sG := GenerationI_below sG bl (by omega)
  replace sCoefficients := IntSI_below sCoefficients bl (by omega)
  replace r3 := CodedPacketO_below r3 bl (by omega)
  replace r4 := GenerationO_below r4 bl (by omega)
  replace kG := kG.below bl (by omega)
  clear cG0 cG1
  have cG0 := kG.cell (i := 0) rfl
  have cG1 := kG.cell (i := 1) rfl
  replace kw0 := kw0.below bl (by omega)
  clear cw00 cw01 cw02
  have cw00 := kw0.cell (i := 0) rfl
  have cw01 := kw0.cell (i := 1) rfl
  have cw02 := kw0.cell (i := 2) rfl
  replace kx0 := kx0.below bl (by omega)
  clear cx00 cx01
  have cx00 := kx0.cell (i := 0) rfl
  have cx01 := kx0.cell (i := 1) rfl
  replace frm := frm.trans (bl.mono (by omega))
  clear bl
  go_wp2_with fail
  go_at_call 35
  refine (HI.out _ _ _ _ (GenerationO_is r4) _ _ _ (IntSO_is r5)).mono ?_
  rintro e w6 ⟨u6, rfl, r6, bl⟩
  have z6 := bl.size
  replace sG := GenerationI_below sG bl (by omega)
  replace sCoefficients := IntSI_below sCoefficients bl (by omega)
  replace r3 := CodedPacketO_below r3 bl (by omega)
  replace r4 := GenerationO_below r4 bl (by omega)
  replace r5 := IntSO_below r5 bl (by omega)
  replace kG := kG.below bl (by omega)
  clear cG0 cG1
  have cG0 := kG.cell (i := 0) rfl
  have cG1 := kG.cell (i := 1) rfl
  replace kw0 := kw0.below bl (by omega)
  clear cw00 cw01 cw02
  have cw00 := kw0.cell (i := 0) rfl
  have cw01 := kw0.cell (i := 1) rfl
  have cw02 := kw0.cell (i := 2) rfl
  replace kx0 := kx0.below bl (by omega)
  clear cx00 cx01
  have cx00 := kx0.cell (i := 0) rfl
  have cx01 := kx0.cell (i := 1) rfl
  replace frm := frm.trans (bl.mono (by omega))
  clear bl
  obtain ⟨ad1_6, n1_6, cap1_6, ad2_6, n2_6, cap2_6, rfl, hw0_6, r6⟩ := CodedPacketO_cells r6
  have kg0 := Bx.new w6 [.int .i64 f0_R, .slice ad1_6 n1_6 cap1_6, .slice ad2_6 n2_6 cap2_6] 26
  have hb := below_box w6 (.cells #[.int .i64 f0_R, .slice ad1_6 n1_6 cap1_6, .slice ad2_6 n2_6 cap2_6] 26)
  have zb6 : (w6.alloc (.cells #[.int .i64 f0_R, .slice ad1_6 n1_6 cap1_6, .slice ad2_6 n2_6 cap2_6] 26)).heap.size = w6.heap.size + 1 := by simp
  replace sG := GenerationI_below sG hb (.inr (Nat.le_refl _))
  replace sCoefficients := IntSI_below sCoefficients hb (.inr (Nat.le_refl _))
  replace r3 := CodedPacketO_below r3 hb (.inr (Nat.le_refl _))
  replace r4 := GenerationO_below r4 hb (.inr (Nat.le_refl _))
  replace r5 := IntSO_below r5 hb (.inr (Nat.le_refl _))
  replace r6 := CodedPacketO_below r6 hb (.inr (Nat.le_refl _))
  replace kG := kG.alloc (.cells #[.int .i64 f0_R, .slice ad1_6 n1_6 cap1_6, .slice ad2_6 n2_6 cap2_6] 26)
  clear cG0 cG1
  have cG0 := kG.cell (i := 0) rfl
  have cG1 := kG.cell (i := 1) rfl
  replace kw0 := kw0.alloc (.cells #[.int .i64 f0_R, .slice ad1_6 n1_6 cap1_6, .slice ad2_6 n2_6 cap2_6] 26)
  clear cw00 cw01 cw02
  have cw00 := kw0.cell (i := 0) rfl
  have cw01 := kw0.cell (i := 1) rfl
  have cw02 := kw0.cell (i := 2) rfl
  replace kx0 := kx0.alloc (.cells #[.int .i64 f0_R, .slice ad1_6 n1_6 cap1_6, .slice ad2_6 n2_6 cap2_6] 26)
  clear cx00 cx01
  have cx00 := kx0.cell (i := 0) rfl
  have cx01 := kx0.cell (i := 1) rfl
  replace frm := frm.trans (hb.mono (by omega))
  clear hb
  have cg00 := kg0.cell (i := 0) rfl
  have cg01 := kg0.cell (i := 1) rfl
  have cg02 := kg0.cell (i := 2) rfl
  go_wp2_with fail
  go_at_call 24
  generalize w6.alloc (.cells #[.int .i64 f0_R, .slice ad1_6 n1_6 cap1_6, .slice ad2_6 n2_6 cap2_6] 26) = y3 at *
  refine (eqCodedPacket (CodedPacketO_is r6) (CodedPacketO_is r3) hfit rfl).mono ?_
  rintro e w7 ⟨rfl, bl⟩
  have z7 := bl.size
  replace sG := GenerationI_below sG bl (by omega)
  replace sCoefficients := IntSI_below sCoefficients bl (by omega)
  replace r3 := CodedPacketO_below r3 bl (by omega)
  replace r4 := GenerationO_below r4 bl (by omega)
  replace r5 := IntSO_below r5 bl (by omega)
  replace r6 := CodedPacketO_below r6 bl (by omega)
  replace kG := kG.below bl (by omega)
  clear cG0 cG1
  have cG0 := kG.cell (i := 0) rfl
  have cG1 := kG.cell (i := 1) rfl
  replace kw0 := kw0.below bl (by omega)
  clear cw00 cw01 cw02
  have cw00 := kw0.cell (i := 0) rfl
  have cw01 := kw0.cell (i := 1) rfl
  have cw02 := kw0.cell (i := 2) rfl
  replace kx0 := kx0.below bl (by omega)
  clear cx00 cx01
  have cx00 := kx0.cell (i := 0) rfl
  have cx01 := kx0.cell (i := 1) rfl
  replace kg0 := kg0.below bl (by omega)
  clear cg00 cg01 cg02
  have cg00 := kg0.cell (i := 0) rfl
  have cg01 := kg0.cell (i := 1) rfl
  have cg02 := kg0.cell (i := 2) rfl
  replace frm := frm.trans (bl.mono (by omega))
  clear bl
  go_wp2
  replace sG := GenerationI_mv sG (Mv.drew (Mv.refl w7 0 0)) (.inr (Nat.zero_le _))
  replace sCoefficients := IntSI_mv sCoefficients (Mv.drew (Mv.refl w7 0 0)) (.inr (Nat.zero_le _))
  replace r3 := CodedPacketO_mv r3 (Mv.drew (Mv.refl w7 0 0)) (.inr (Nat.zero_le _))
  replace r4 := GenerationO_mv r4 (Mv.drew (Mv.refl w7 0 0)) (.inr (Nat.zero_le _))
  replace r5 := IntSO_mv r5 (Mv.drew (Mv.refl w7 0 0)) (.inr (Nat.zero_le _))
  replace r6 := CodedPacketO_mv r6 (Mv.drew (Mv.refl w7 0 0)) (.inr (Nat.zero_le _))
  replace kG := kG.drew
  clear cG0 cG1
  have cG0 := kG.cell (i := 0) rfl
  have cG1 := kG.cell (i := 1) rfl
  replace kw0 := kw0.drew
  clear cw00 cw01 cw02
  have cw00 := kw0.cell (i := 0) rfl
  have cw01 := kw0.cell (i := 1) rfl
  have cw02 := kw0.cell (i := 2) rfl
  replace kx0 := kx0.drew
  clear cx00 cx01
  have cx00 := kx0.cell (i := 0) rfl
  have cx01 := kx0.cell (i := 1) rfl
  replace kg0 := kg0.drew
  clear cg00 cg01 cg02
  have cg00 := kg0.cell (i := 0) rfl
  have cg01 := kg0.cell (i := 1) rfl
  have cg02 := kg0.cell (i := 2) rfl
  replace frm := frm.drew
  have zd : w7.heap.size = w7.drew.heap.size := rfl
  refine wp_region_held (S := fun w' => w'.cell? ⟨w.heap.size, 0, none⟩ = some (.int .i64 f0_G) ∧ w'.cell? ⟨w.heap.size, 1, none⟩ = some (.slice ad1_G n1_G cap1_G) ∧ w'.cell? ⟨w3.heap.size, 0, none⟩ = some (.int .i64 f0_R) ∧ w'.cell? ⟨w3.heap.size, 1, none⟩ = some (.slice ad1_3 n1_3 cap1_3) ∧ w'.cell? ⟨w3.heap.size, 2, none⟩ = some (.slice ad2_3 n2_3 cap2_3) ∧ w'.cell? ⟨w4.heap.size, 0, none⟩ = some (.int .i64 f0_G) ∧ w'.cell? ⟨w4.heap.size, 1, none⟩ = some (.slice ad1_4 n1_4 cap1_4) ∧ w'.cell? ⟨w6.heap.size, 0, none⟩ = some (.int .i64 f0_R) ∧ w'.cell? ⟨w6.heap.size, 1, none⟩ = some (.slice ad1_6 n1_6 cap1_6) ∧ w'.cell? ⟨w6.heap.size, 2, none⟩ = some (.slice ad2_6 n2_6 cap2_6)) (by kernel_rfl) ?_
  change wpAnyH _ _ _ _ _ _ _ _ w7.drew
  generalize w7.drew = d0 at *
  have HH := Lib.hid (show d0.cell? ⟨w.heap.size, 0, none⟩ = some (.int .i64 f0_G) ∧ d0.cell? ⟨w.heap.size, 1, none⟩ = some (.slice ad1_G n1_G cap1_G) ∧ d0.cell? ⟨w3.heap.size, 0, none⟩ = some (.int .i64 f0_R) ∧ d0.cell? ⟨w3.heap.size, 1, none⟩ = some (.slice ad1_3 n1_3 cap1_3) ∧ d0.cell? ⟨w3.heap.size, 2, none⟩ = some (.slice ad2_3 n2_3 cap2_3) ∧ d0.cell? ⟨w4.heap.size, 0, none⟩ = some (.int .i64 f0_G) ∧ d0.cell? ⟨w4.heap.size, 1, none⟩ = some (.slice ad1_4 n1_4 cap1_4) ∧ d0.cell? ⟨w6.heap.size, 0, none⟩ = some (.int .i64 f0_R) ∧ d0.cell? ⟨w6.heap.size, 1, none⟩ = some (.slice ad1_6 n1_6 cap1_6) ∧ d0.cell? ⟨w6.heap.size, 2, none⟩ = some (.slice ad2_6 n2_6 cap2_6) from ⟨cG0, cG1, cw00, cw01, cw02, cx00, cx01, cg00, cg01, cg02⟩)
  refine wpAnyH_take (i := 0) (oi := ⟨some _, _, _, _, _, _⟩) (v := ?_) rfl (by kernel_rfl) (by kernel_rfl) (by kernel_rfl) (fun _ _ _ h => h) (Or.inl ⟨by rfl, ?_⟩) HH.out ?_
  rotate_left
  · intro wS hSw
    try dsimp only at hSw
    go_simp
    all_goals (with_reducible rfl)
  simp only [Act.put, List.setIfInBounds_toArray, List.set_cons_zero, List.set_cons_succ]
  refine wpAnyH_take (i := 1) (oi := ⟨some _, _, _, _, _, _⟩) (v := ?_) rfl (by kernel_rfl) (by kernel_rfl) (by kernel_rfl) (fun _ _ _ h => h) (Or.inl ⟨by rfl, ?_⟩) HH.out ?_
  rotate_left
  · intro wS hSw
    try dsimp only at hSw
    go_simp
    all_goals (with_reducible rfl)
  simp only [Act.put, List.setIfInBounds_toArray, List.set_cons_zero, List.set_cons_succ]
  clear HH
  refine wpAnyH_ready (rs := [2]) (by kernel_rfl) (by simp) ?_
  refine AllReadyH.cons (o := ⟨some _, _, _, _, _, _⟩) rfl (fun Kq hKq => ?_) AllReadyH.nil
  go_simp
  refine (toGeneration sG fG).mono ?_
  rintro e w8 ⟨u8, rfl, r8, bl⟩
  have z8 := bl.size
  replace sG := GenerationI_below sG bl (by omega)
  replace sCoefficients := IntSI_below sCoefficients bl (by omega)
  replace r3 := CodedPacketO_below r3 bl (by omega)
  replace r4 := GenerationO_below r4 bl (by omega)
  replace r5 := IntSO_below r5 bl (by omega)
  replace r6 := CodedPacketO_below r6 bl (by omega)
  replace kG := kG.below bl (by omega)
  clear cG0 cG1
  have cG0 := kG.cell (i := 0) rfl
  have cG1 := kG.cell (i := 1) rfl
  replace kw0 := kw0.below bl (by omega)
  clear cw00 cw01 cw02
  have cw00 := kw0.cell (i := 0) rfl
  have cw01 := kw0.cell (i := 1) rfl
  have cw02 := kw0.cell (i := 2) rfl
  replace kx0 := kx0.below bl (by omega)
  clear cx00 cx01
  have cx00 := kx0.cell (i := 0) rfl
  have cx01 := kx0.cell (i := 1) rfl
  replace kg0 := kg0.below bl (by omega)
  clear cg00 cg01 cg02
  have cg00 := kg0.cell (i := 0) rfl
  have cg01 := kg0.cell (i := 1) rfl
  have cg02 := kg0.cell (i := 2) rfl
  replace frm := frm.trans (bl.mono (by omega))
  clear bl
  obtain ⟨ad1_8, n1_8, cap1_8, rfl, hw0_8, r8⟩ := GenerationO_cells r8
  have HH := Lib.hid (show w8.cell? ⟨w.heap.size, 0, none⟩ = some (.int .i64 f0_G) ∧ w8.cell? ⟨w.heap.size, 1, none⟩ = some (.slice ad1_G n1_G cap1_G) ∧ w8.cell? ⟨w3.heap.size, 0, none⟩ = some (.int .i64 f0_R) ∧ w8.cell? ⟨w3.heap.size, 1, none⟩ = some (.slice ad1_3 n1_3 cap1_3) ∧ w8.cell? ⟨w3.heap.size, 2, none⟩ = some (.slice ad2_3 n2_3 cap2_3) ∧ w8.cell? ⟨w4.heap.size, 0, none⟩ = some (.int .i64 f0_G) ∧ w8.cell? ⟨w4.heap.size, 1, none⟩ = some (.slice ad1_4 n1_4 cap1_4) ∧ w8.cell? ⟨w6.heap.size, 0, none⟩ = some (.int .i64 f0_R) ∧ w8.cell? ⟨w6.heap.size, 1, none⟩ = some (.slice ad1_6 n1_6 cap1_6) ∧ w8.cell? ⟨w6.heap.size, 2, none⟩ = some (.slice ad2_6 n2_6 cap2_6) from ⟨cG0, cG1, cw00, cw01, cw02, cx00, cx01, cg00, cg01, cg02⟩)
  refine hKq.out _ _ HH.out (fun _ => ?_)
  clear hKq Kq
  clear HH
  refine wpAnyH_ready (rs := [3]) (by kernel_rfl) (by simp) ?_
  refine AllReadyH.cons (o := ⟨some _, _, _, _, _, _⟩) rfl (fun Kq hKq => ?_) AllReadyH.nil
  go_simp
  refine (eqGeneration (GenerationO_is r4) (GenerationO_is r8) fG rfl).mono ?_
  rintro e w9 ⟨rfl, bl⟩
  have z9 := bl.size
  replace sG := GenerationI_below sG bl (by omega)
  replace sCoefficients := IntSI_below sCoefficients bl (by omega)
  replace r3 := CodedPacketO_below r3 bl (by omega)
  replace r4 := GenerationO_below r4 bl (by omega)
  replace r5 := IntSO_below r5 bl (by omega)
  replace r6 := CodedPacketO_below r6 bl (by omega)
  replace kG := kG.below bl (by omega)
  clear cG0 cG1
  have cG0 := kG.cell (i := 0) rfl
  have cG1 := kG.cell (i := 1) rfl
  replace kw0 := kw0.below bl (by omega)
  clear cw00 cw01 cw02
  have cw00 := kw0.cell (i := 0) rfl
  have cw01 := kw0.cell (i := 1) rfl
  have cw02 := kw0.cell (i := 2) rfl
  replace kx0 := kx0.below bl (by omega)
  clear cx00 cx01
  have cx00 := kx0.cell (i := 0) rfl
  have cx01 := kx0.cell (i := 1) rfl
  replace kg0 := kg0.below bl (by omega)
  clear cg00 cg01 cg02
  have cg00 := kg0.cell (i := 0) rfl
  have cg01 := kg0.cell (i := 1) rfl
  have cg02 := kg0.cell (i := 2) rfl
  replace frm := frm.trans (bl.mono (by omega))
  clear bl
  have HH := Lib.hid (show w9.cell? ⟨w.heap.size, 0, none⟩ = some (.int .i64 f0_G) ∧ w9.cell? ⟨w.heap.size, 1, none⟩ = some (.slice ad1_G n1_G cap1_G) ∧ w9.cell? ⟨w3.heap.size, 0, none⟩ = some (.int .i64 f0_R) ∧ w9.cell? ⟨w3.heap.size, 1, none⟩ = some (.slice ad1_3 n1_3 cap1_3) ∧ w9.cell? ⟨w3.heap.size, 2, none⟩ = some (.slice ad2_3 n2_3 cap2_3) ∧ w9.cell? ⟨w4.heap.size, 0, none⟩ = some (.int .i64 f0_G) ∧ w9.cell? ⟨w4.heap.size, 1, none⟩ = some (.slice ad1_4 n1_4 cap1_4) ∧ w9.cell? ⟨w6.heap.size, 0, none⟩ = some (.int .i64 f0_R) ∧ w9.cell? ⟨w6.heap.size, 1, none⟩ = some (.slice ad1_6 n1_6 cap1_6) ∧ w9.cell? ⟨w6.heap.size, 2, none⟩ = some (.slice ad2_6 n2_6 cap2_6) from ⟨cG0, cG1, cw00, cw01, cw02, cx00, cx01, cg00, cg01, cg02⟩)
  refine hKq.out _ _ HH.out (fun _ => ?_)
  clear hKq Kq
  try simp only [Act.put, List.setIfInBounds_toArray, List.set_cons_zero, List.set_cons_succ]
  refine wpAnyH_take (i := 4) (oi := ⟨some _, _, _, _, _, _⟩) (v := ?_) rfl (by kernel_rfl) (by kernel_rfl) (by kernel_rfl) (fun _ _ _ h => h) (Or.inl ⟨by rfl, ?_⟩) HH.out ?_
  rotate_left
  · intro wS hSw
    try dsimp only at hSw
    go_simp
    all_goals (with_reducible rfl)
  simp only [Act.put, List.setIfInBounds_toArray, List.set_cons_zero, List.set_cons_succ]
  refine wpAnyH_done (by kernel_rfl) ?_ _
  clear HH
  clear r8
  go_wp2_with fail
  go_at_call 34
  refine (toIntS sCoefficients fCoefficients).mono ?_
  rintro e w10 ⟨u10, rfl, r10, bl⟩
  have z10 := bl.size
  replace sG := GenerationI_below sG bl (by omega)
  replace sCoefficients := IntSI_below sCoefficients bl (by omega)
  replace r3 := CodedPacketO_below r3 bl (by omega)
  replace r4 := GenerationO_below r4 bl (by omega)
  replace r5 := IntSO_below r5 bl (by omega)
  replace r6 := CodedPacketO_below r6 bl (by omega)
  replace kG := kG.below bl (by omega)
  clear cG0 cG1
  have cG0 := kG.cell (i := 0) rfl
  have cG1 := kG.cell (i := 1) rfl
  replace kw0 := kw0.below bl (by omega)
  clear cw00 cw01 cw02
  have cw00 := kw0.cell (i := 0) rfl
  have cw01 := kw0.cell (i := 1) rfl
  have cw02 := kw0.cell (i := 2) rfl
  replace kx0 := kx0.below bl (by omega)
  clear cx00 cx01
  have cx00 := kx0.cell (i := 0) rfl
  have cx01 := kx0.cell (i := 1) rfl
  replace kg0 := kg0.below bl (by omega)
  clear cg00 cg01 cg02
  have cg00 := kg0.cell (i := 0) rfl
  have cg01 := kg0.cell (i := 1) rfl
  have cg02 := kg0.cell (i := 2) rfl
  replace frm := frm.trans (bl.mono (by omega))
  clear bl
  go_wp2_with fail
  go_at_call 36
  refine (eqIntS (IntSO_is r5) (IntSO_is r10) fCoefficients rfl).mono ?_
  rintro e w11 ⟨rfl, bl⟩
  have z11 := bl.size
  replace sG := GenerationI_below sG bl (by omega)
  replace sCoefficients := IntSI_below sCoefficients bl (by omega)
  replace r3 := CodedPacketO_below r3 bl (by omega)
  replace r4 := GenerationO_below r4 bl (by omega)
  replace r5 := IntSO_below r5 bl (by omega)
  replace r6 := CodedPacketO_below r6 bl (by omega)
  replace kG := kG.below bl (by omega)
  clear cG0 cG1
  have cG0 := kG.cell (i := 0) rfl
  have cG1 := kG.cell (i := 1) rfl
  replace kw0 := kw0.below bl (by omega)
  clear cw00 cw01 cw02
  have cw00 := kw0.cell (i := 0) rfl
  have cw01 := kw0.cell (i := 1) rfl
  have cw02 := kw0.cell (i := 2) rfl
  replace kx0 := kx0.below bl (by omega)
  clear cx00 cx01
  have cx00 := kx0.cell (i := 0) rfl
  have cx01 := kx0.cell (i := 1) rfl
  replace kg0 := kg0.below bl (by omega)
  clear cg00 cg01 cg02
  have cg00 := kg0.cell (i := 0) rfl
  have cg01 := kg0.cell (i := 1) rfl
  have cg02 := kg0.cell (i := 2) rfl
  replace frm := frm.trans (bl.mono (by omega))
  clear bl
  clear r10
  go_wp2_with fail
  go_at_call 30
  refine (markGeneration r4 fG (1) (by omega) (by omega)).mono ?_
  rintro e w12 ⟨rfl, new, mv⟩
  have z12 := mv.size
  replace sG := GenerationI_mv sG mv (by omega)
  replace sCoefficients := IntSI_mv sCoefficients mv (by omega)
  replace r3 := CodedPacketO_mv r3 mv (by omega)
  replace r5 := IntSO_mv r5 mv (by omega)
  replace r6 := CodedPacketO_mv r6 mv (by omega)
  replace kG := kG.mv mv (by omega)
  clear cG0 cG1
  have cG0 := kG.cell (i := 0) rfl
  have cG1 := kG.cell (i := 1) rfl
  replace kw0 := kw0.mv mv (by omega)
  clear cw00 cw01 cw02
  have cw00 := kw0.cell (i := 0) rfl
  have cw01 := kw0.cell (i := 1) rfl
  have cw02 := kw0.cell (i := 2) rfl
  replace kx0 := kx0.mv mv (by omega)
  clear cx00 cx01
  have cx00 := kx0.cell (i := 0) rfl
  have cx01 := kx0.cell (i := 1) rfl
  replace kg0 := kg0.mv mv (by omega)
  clear cg00 cg01 cg02
  have cg00 := kg0.cell (i := 0) rfl
  have cg01 := kg0.cell (i := 1) rfl
  have cg02 := kg0.cell (i := 2) rfl
  replace frm := frm.trans (mv.below (by omega) (by omega))
  clear new mv
  clear r4
  go_wp2_with fail
  go_at_call 37
  refine (markIntS r5 fCoefficients (1 + (GenerationC (f0_G, f1_G) : Int)) (by omega) (by omega)).mono ?_
  rintro e w13 ⟨rfl, new, mv⟩
  have z13 := mv.size
  replace sG := GenerationI_mv sG mv (by omega)
  replace sCoefficients := IntSI_mv sCoefficients mv (by omega)
  replace r3 := CodedPacketO_mv r3 mv (by omega)
  replace r6 := CodedPacketO_mv r6 mv (by omega)
  replace kG := kG.mv mv (by omega)
  clear cG0 cG1
  have cG0 := kG.cell (i := 0) rfl
  have cG1 := kG.cell (i := 1) rfl
  replace kw0 := kw0.mv mv (by omega)
  clear cw00 cw01 cw02
  have cw00 := kw0.cell (i := 0) rfl
  have cw01 := kw0.cell (i := 1) rfl
  have cw02 := kw0.cell (i := 2) rfl
  replace kx0 := kx0.mv mv (by omega)
  clear cx00 cx01
  have cx00 := kx0.cell (i := 0) rfl
  have cx01 := kx0.cell (i := 1) rfl
  replace kg0 := kg0.mv mv (by omega)
  clear cg00 cg01 cg02
  have cg00 := kg0.cell (i := 0) rfl
  have cg01 := kg0.cell (i := 1) rfl
  have cg02 := kg0.cell (i := 2) rfl
  replace frm := frm.trans (mv.below (by omega) (by omega))
  clear new mv
  clear r5
  go_wp2_with fail
  go_at_call 24
  refine (eqCodedPacket (CodedPacketO_is r6) (CodedPacketO_is r3) hfit rfl).mono ?_
  rintro e w14 ⟨rfl, bl⟩
  have z14 := bl.size
  replace sG := GenerationI_below sG bl (by omega)
  replace sCoefficients := IntSI_below sCoefficients bl (by omega)
  replace r3 := CodedPacketO_below r3 bl (by omega)
  replace r6 := CodedPacketO_below r6 bl (by omega)
  replace kG := kG.below bl (by omega)
  clear cG0 cG1
  have cG0 := kG.cell (i := 0) rfl
  have cG1 := kG.cell (i := 1) rfl
  replace kw0 := kw0.below bl (by omega)
  clear cw00 cw01 cw02
  have cw00 := kw0.cell (i := 0) rfl
  have cw01 := kw0.cell (i := 1) rfl
  have cw02 := kw0.cell (i := 2) rfl
  replace kx0 := kx0.below bl (by omega)
  clear cx00 cx01
  have cx00 := kx0.cell (i := 0) rfl
  have cx01 := kx0.cell (i := 1) rfl
  replace kg0 := kg0.below bl (by omega)
  clear cg00 cg01 cg02
  have cg00 := kg0.cell (i := 0) rfl
  have cg01 := kg0.cell (i := 1) rfl
  have cg02 := kg0.cell (i := 2) rfl
  replace frm := frm.trans (bl.mono (by omega))
  clear bl
  go_wp2_with fail
  go_at_call 31
  refine (markCodedPacket r6 hfit (1) (by omega) (by omega)).mono ?_
  rintro e w15 ⟨rfl, new, mv⟩
  have z15 := mv.size
  replace sG := GenerationI_mv sG mv (by omega)
  replace sCoefficients := IntSI_mv sCoefficients mv (by omega)
  replace r3 := CodedPacketO_mv r3 mv (by omega)
  replace kG := kG.mv mv (by omega)
  clear cG0 cG1
  have cG0 := kG.cell (i := 0) rfl
  have cG1 := kG.cell (i := 1) rfl
  replace kw0 := kw0.mv mv (by omega)
  clear cw00 cw01 cw02
  have cw00 := kw0.cell (i := 0) rfl
  have cw01 := kw0.cell (i := 1) rfl
  have cw02 := kw0.cell (i := 2) rfl
  replace kx0 := kx0.mv mv (by omega)
  clear cx00 cx01
  have cx00 := kx0.cell (i := 0) rfl
  have cx01 := kx0.cell (i := 1) rfl
  replace kg0 := kg0.mv mv (by omega)
  clear cg00 cg01 cg02
  have cg00 := kg0.cell (i := 0) rfl
  have cg01 := kg0.cell (i := 1) rfl
  have cg02 := kg0.cell (i := 2) rfl
  replace frm := frm.trans (mv.below (by omega) (by omega))
  have r6m := new
  clear new mv
  go_wp2_with fail
  go_at_call 32
  refine (heldCodedPacket (1) (CodedPacketO_is r6m) hfit (by omega) (by omega)).mono ?_
  rintro e w16 ⟨rfl, bl⟩
  have z16 := bl.size
  replace sG := GenerationI_below sG bl (by omega)
  replace sCoefficients := IntSI_below sCoefficients bl (by omega)
  replace r3 := CodedPacketO_below r3 bl (by omega)
  replace r6m := CodedPacketO_below r6m bl (by omega)
  replace kG := kG.below bl (by omega)
  clear cG0 cG1
  have cG0 := kG.cell (i := 0) rfl
  have cG1 := kG.cell (i := 1) rfl
  replace kw0 := kw0.below bl (by omega)
  clear cw00 cw01 cw02
  have cw00 := kw0.cell (i := 0) rfl
  have cw01 := kw0.cell (i := 1) rfl
  have cw02 := kw0.cell (i := 2) rfl
  replace kx0 := kx0.below bl (by omega)
  clear cx00 cx01
  have cx00 := kx0.cell (i := 0) rfl
  have cx01 := kx0.cell (i := 1) rfl
  replace kg0 := kg0.below bl (by omega)
  clear cg00 cg01 cg02
  have cg00 := kg0.cell (i := 0) rfl
  have cg01 := kg0.cell (i := 1) rfl
  have cg02 := kg0.cell (i := 2) rfl
  replace frm := frm.trans (bl.mono (by omega))
  clear bl
  go_wp2_with fail
  go_at_call 27
  refine (toGeneration sG fG).mono ?_
  rintro e w17 ⟨u17, rfl, r17, bl⟩
  have z17 := bl.size
  replace sCoefficients := IntSI_below sCoefficients bl (by omega)
  replace r3 := CodedPacketO_below r3 bl (by omega)
  replace r6m := CodedPacketO_below r6m bl (by omega)
  replace kG := kG.below bl (by omega)
  clear cG0 cG1
  have cG0 := kG.cell (i := 0) rfl
  have cG1 := kG.cell (i := 1) rfl
  replace kw0 := kw0.below bl (by omega)
  clear cw00 cw01 cw02
  have cw00 := kw0.cell (i := 0) rfl
  have cw01 := kw0.cell (i := 1) rfl
  have cw02 := kw0.cell (i := 2) rfl
  replace kx0 := kx0.below bl (by omega)
  clear cx00 cx01
  have cx00 := kx0.cell (i := 0) rfl
  have cx01 := kx0.cell (i := 1) rfl
  replace kg0 := kg0.below bl (by omega)
  clear cg00 cg01 cg02
  have cg00 := kg0.cell (i := 0) rfl
  have cg01 := kg0.cell (i := 1) rfl
  have cg02 := kg0.cell (i := 2) rfl
  replace frm := frm.trans (bl.mono (by omega))
  clear bl
  obtain ⟨ad1_17, n1_17, cap1_17, rfl, hw0_17, r17⟩ := GenerationO_cells r17
  go_wp2_with fail
  go_at_call 34
  refine (toIntS sCoefficients fCoefficients).mono ?_
  rintro e w18 ⟨u18, rfl, r18, bl⟩
  have z18 := bl.size
  replace r3 := CodedPacketO_below r3 bl (by omega)
  replace r6m := CodedPacketO_below r6m bl (by omega)
  replace r17 := GenerationO_below r17 bl (by omega)
  replace kG := kG.below bl (by omega)
  clear cG0 cG1
  have cG0 := kG.cell (i := 0) rfl
  have cG1 := kG.cell (i := 1) rfl
  replace kw0 := kw0.below bl (by omega)
  clear cw00 cw01 cw02
  have cw00 := kw0.cell (i := 0) rfl
  have cw01 := kw0.cell (i := 1) rfl
  have cw02 := kw0.cell (i := 2) rfl
  replace kx0 := kx0.below bl (by omega)
  clear cx00 cx01
  have cx00 := kx0.cell (i := 0) rfl
  have cx01 := kx0.cell (i := 1) rfl
  replace kg0 := kg0.below bl (by omega)
  clear cg00 cg01 cg02
  have cg00 := kg0.cell (i := 0) rfl
  have cg01 := kg0.cell (i := 1) rfl
  have cg02 := kg0.cell (i := 2) rfl
  replace frm := frm.trans (bl.mono (by omega))
  clear bl
  go_wp2_with fail
  go_at_call 35
  refine (HI.out _ _ _ _ (GenerationO_is r17) _ _ _ (IntSO_is r18)).mono ?_
  rintro e w19 ⟨u19, rfl, r19, bl⟩
  have z19 := bl.size
  replace r3 := CodedPacketO_below r3 bl (by omega)
  replace r6m := CodedPacketO_below r6m bl (by omega)
  replace kG := kG.below bl (by omega)
  clear cG0 cG1
  have cG0 := kG.cell (i := 0) rfl
  have cG1 := kG.cell (i := 1) rfl
  replace kw0 := kw0.below bl (by omega)
  clear cw00 cw01 cw02
  have cw00 := kw0.cell (i := 0) rfl
  have cw01 := kw0.cell (i := 1) rfl
  have cw02 := kw0.cell (i := 2) rfl
  replace kx0 := kx0.below bl (by omega)
  clear cx00 cx01
  have cx00 := kx0.cell (i := 0) rfl
  have cx01 := kx0.cell (i := 1) rfl
  replace kg0 := kg0.below bl (by omega)
  clear cg00 cg01 cg02
  have cg00 := kg0.cell (i := 0) rfl
  have cg01 := kg0.cell (i := 1) rfl
  have cg02 := kg0.cell (i := 2) rfl
  replace frm := frm.trans (bl.mono (by omega))
  clear bl
  obtain ⟨ad1_19, n1_19, cap1_19, ad2_19, n2_19, cap2_19, rfl, hw0_19, r19⟩ := CodedPacketO_cells r19
  have kh0 := Bx.new w19 [.int .i64 f0_R, .slice ad1_19 n1_19 cap1_19, .slice ad2_19 n2_19 cap2_19] 26
  have hb := below_box w19 (.cells #[.int .i64 f0_R, .slice ad1_19 n1_19 cap1_19, .slice ad2_19 n2_19 cap2_19] 26)
  have zb19 : (w19.alloc (.cells #[.int .i64 f0_R, .slice ad1_19 n1_19 cap1_19, .slice ad2_19 n2_19 cap2_19] 26)).heap.size = w19.heap.size + 1 := by simp
  replace r3 := CodedPacketO_below r3 hb (.inr (Nat.le_refl _))
  replace r6m := CodedPacketO_below r6m hb (.inr (Nat.le_refl _))
  replace r19 := CodedPacketO_below r19 hb (.inr (Nat.le_refl _))
  replace kG := kG.alloc (.cells #[.int .i64 f0_R, .slice ad1_19 n1_19 cap1_19, .slice ad2_19 n2_19 cap2_19] 26)
  clear cG0 cG1
  have cG0 := kG.cell (i := 0) rfl
  have cG1 := kG.cell (i := 1) rfl
  replace kw0 := kw0.alloc (.cells #[.int .i64 f0_R, .slice ad1_19 n1_19 cap1_19, .slice ad2_19 n2_19 cap2_19] 26)
  clear cw00 cw01 cw02
  have cw00 := kw0.cell (i := 0) rfl
  have cw01 := kw0.cell (i := 1) rfl
  have cw02 := kw0.cell (i := 2) rfl
  replace kx0 := kx0.alloc (.cells #[.int .i64 f0_R, .slice ad1_19 n1_19 cap1_19, .slice ad2_19 n2_19 cap2_19] 26)
  clear cx00 cx01
  have cx00 := kx0.cell (i := 0) rfl
  have cx01 := kx0.cell (i := 1) rfl
  replace kg0 := kg0.alloc (.cells #[.int .i64 f0_R, .slice ad1_19 n1_19 cap1_19, .slice ad2_19 n2_19 cap2_19] 26)
  clear cg00 cg01 cg02
  have cg00 := kg0.cell (i := 0) rfl
  have cg01 := kg0.cell (i := 1) rfl
  have cg02 := kg0.cell (i := 2) rfl
  replace frm := frm.trans (hb.mono (by omega))
  clear hb
  have ch00 := kh0.cell (i := 0) rfl
  have ch01 := kh0.cell (i := 1) rfl
  have ch02 := kh0.cell (i := 2) rfl
  clear r17
  clear r18
  go_wp2_with fail
  go_at_call 24
  generalize w19.alloc (.cells #[.int .i64 f0_R, .slice ad1_19 n1_19 cap1_19, .slice ad2_19 n2_19 cap2_19] 26) = y4 at *
  refine (eqCodedPacket (CodedPacketO_is r19) (CodedPacketO_is r3) hfit rfl).mono ?_
  rintro e w20 ⟨rfl, bl⟩
  have z20 := bl.size
  replace r6m := CodedPacketO_below r6m bl (by omega)
  replace kG := kG.below bl (by omega)
  clear cG0 cG1
  have cG0 := kG.cell (i := 0) rfl
  have cG1 := kG.cell (i := 1) rfl
  replace kw0 := kw0.below bl (by omega)
  clear cw00 cw01 cw02
  have cw00 := kw0.cell (i := 0) rfl
  have cw01 := kw0.cell (i := 1) rfl
  have cw02 := kw0.cell (i := 2) rfl
  replace kx0 := kx0.below bl (by omega)
  clear cx00 cx01
  have cx00 := kx0.cell (i := 0) rfl
  have cx01 := kx0.cell (i := 1) rfl
  replace kg0 := kg0.below bl (by omega)
  clear cg00 cg01 cg02
  have cg00 := kg0.cell (i := 0) rfl
  have cg01 := kg0.cell (i := 1) rfl
  have cg02 := kg0.cell (i := 2) rfl
  replace kh0 := kh0.below bl (by omega)
  clear ch00 ch01 ch02
  have ch00 := kh0.cell (i := 0) rfl
  have ch01 := kh0.cell (i := 1) rfl
  have ch02 := kh0.cell (i := 2) rfl
  replace frm := frm.trans (bl.mono (by omega))
  clear bl
  clear r3
  clear r19
  go_wp2_with fail
  go_at_call 32
  refine (heldCodedPacket (1) (CodedPacketO_is r6m) hfit (by omega) (by omega)).mono ?_
  rintro e w21 ⟨rfl, bl⟩
  have z21 := bl.size
  replace kG := kG.below bl (by omega)
  clear cG0 cG1
  have cG0 := kG.cell (i := 0) rfl
  have cG1 := kG.cell (i := 1) rfl
  replace kw0 := kw0.below bl (by omega)
  clear cw00 cw01 cw02
  have cw00 := kw0.cell (i := 0) rfl
  have cw01 := kw0.cell (i := 1) rfl
  have cw02 := kw0.cell (i := 2) rfl
  replace kx0 := kx0.below bl (by omega)
  clear cx00 cx01
  have cx00 := kx0.cell (i := 0) rfl
  have cx01 := kx0.cell (i := 1) rfl
  replace kg0 := kg0.below bl (by omega)
  clear cg00 cg01 cg02
  have cg00 := kg0.cell (i := 0) rfl
  have cg01 := kg0.cell (i := 1) rfl
  have cg02 := kg0.cell (i := 2) rfl
  replace kh0 := kh0.below bl (by omega)
  clear ch00 ch01 ch02
  have ch00 := kh0.cell (i := 0) rfl
  have ch01 := kh0.cell (i := 1) rfl
  have ch02 := kh0.cell (i := 2) rfl
  replace frm := frm.trans (bl.mono (by omega))
  clear bl
  clear r6m
  go_wp2
  go_ret
  exact ⟨rfl, frm⟩


set_option maxRecDepth 100000 in
set_option maxHeartbeats 1600000 in
theorem exactCombinePackets (w : World) (vPackets : Value) (iaPackets : ∃ x, CodedPacketSI w 0 w.heap.size vPackets x) (vCoefficients : Value) (iaCoefficients : ∃ x, IntSI w 0 w.heap.size vCoefficients x) :
    Calls Try.prog 7 #[vPackets, vCoefficients] w fun e w' => e = .returned (.bool true) ∧ Below w.heap.size w w' := by
  obtain ⟨xPackets, sPackets⟩ := iaPackets
  obtain ⟨xCoefficients, adCoefficients, nCoefficients, capCoefficients, rfl, sCoefficients⟩ := iaCoefficients
  have frm := Below.refl w.heap.size w
  rcases Nat.lt_or_ge 1048576 nCoefficients with bigCoefficients | bigCoefficients
  · have hbCoefficients := sCoefficients.big
    have hcCoefficients := sCoefficients.le
    unfold maxLen at hbCoefficients
    go_enter Try.func7, Try.ntmps7
    go_wp2
    go_ret
    exact ⟨rfl, frm⟩
  have fCoefficients : IntSF xCoefficients := by have := sCoefficients.len; show xCoefficients.length ≤ 1048576; omega
  have hbCoefficients := sCoefficients.big
  have hcCoefficients := sCoefficients.le
  unfold maxLen at hbCoefficients
  replace sCoefficients : IntSI _ 0 w.heap.size (.slice adCoefficients nCoefficients capCoefficients) xCoefficients := ⟨_, _, _, rfl, sCoefficients⟩
  go_enter Try.func7, Try.ntmps7
  go_wp2_with fail
  go_at_call 38
  refine (szCodedPacketS sPackets 1048576 (by omega) (by omega)).mono ?_
  rintro e wsPackets ⟨leftPackets, rfl, lePackets, riPackets, fPackets, bl⟩
  have zsPackets := bl.size
  replace sPackets := CodedPacketSI_below sPackets bl (by omega)
  replace sCoefficients := IntSI_below sCoefficients bl (by omega)
  replace frm := frm.trans (bl.mono (by omega))
  clear bl
  by_cases hlPackets : 0 ≤ leftPackets
  case neg =>
    clear fPackets
    go_wp2
    go_ret
    exact ⟨rfl, frm⟩
  replace fPackets := fPackets hlPackets
  have cS := fun (w' : World) (lPackets hPackets : Nat) (uPackets : Value) (sPackets : CodedPacketSI w' lPackets hPackets uPackets xPackets) (lCoefficients hCoefficients : Nat) (uCoefficients : Value) (sCoefficients : IntSI w' lCoefficients hCoefficients uCoefficients xCoefficients) => PktW.mixS w' sPackets fPackets sCoefficients fCoefficients
  have cI := fun (w' : World) (lPackets hPackets : Nat) (uPackets : Value) (sPackets : CodedPacketSI w' lPackets hPackets uPackets xPackets) (lCoefficients hCoefficients : Nat) (uCoefficients : Value) (sCoefficients : IntSI w' lCoefficients hCoefficients uCoefficients xCoefficients) => PktI.mix w' sPackets fPackets sCoefficients fCoefficients
  try dsimp only at cS cI
  have hfit : CodedPacketF ((Pkt.mixP xPackets xCoefficients)).1 := by exact PktW.fit_mix _ _
  generalize hR : (Pkt.mixP xPackets xCoefficients) = R at cS cI hfit
  clear hR
  obtain ⟨⟨f0_R, f1_R, f2_R⟩, R1⟩ := R
  try dsimp only at cS cI hfit
  have HS := Lib.hid cS
  have HI := Lib.hid cI
  clear cS cI
  have hcnt := CodedPacketC_le hfit
  have hkPackets := CodedPacketSC_le fPackets
  have hkCoefficients := IntSC_le fCoefficients
  go_wp2_with fail
  go_at_call 40
  refine (toCodedPacketS sPackets fPackets).mono ?_
  rintro e w1 ⟨u1, rfl, r1, bl⟩
  have z1 := bl.size
  replace sPackets := CodedPacketSI_below sPackets bl (by omega)
  replace sCoefficients := IntSI_below sCoefficients bl (by omega)
  replace frm := frm.trans (bl.mono (by omega))
  clear bl
  go_wp2_with fail
  go_at_call 34
  refine (toIntS sCoefficients fCoefficients).mono ?_
  rintro e w2 ⟨u2, rfl, r2, bl⟩
  have z2 := bl.size
  replace sPackets := CodedPacketSI_below sPackets bl (by omega)
  replace sCoefficients := IntSI_below sCoefficients bl (by omega)
  replace r1 := CodedPacketSO_below r1 bl (by omega)
  replace frm := frm.trans (bl.mono (by omega))
  clear bl
  go_wp2_with fail
  go_at_call 39
  refine (HS.out _ _ _ _ (CodedPacketSO_is r1) _ _ _ (IntSO_is r2)).mono ?_
  rintro e w3 ⟨u3, rfl, r3, bl⟩
  have z3 := bl.size
  replace sPackets := CodedPacketSI_below sPackets bl (by omega)
  replace sCoefficients := IntSI_below sCoefficients bl (by omega)
  replace frm := frm.trans (bl.mono (by omega))
  clear bl
  obtain ⟨ad1_3, n1_3, cap1_3, ad2_3, n2_3, cap2_3, rfl, hw0_3, r3⟩ := CodedPacketO_cells r3
  have kw0 := Bx.new w3 [.int .i64 f0_R, .slice ad1_3 n1_3 cap1_3, .slice ad2_3 n2_3 cap2_3] 26
  have hb := below_box w3 (.cells #[.int .i64 f0_R, .slice ad1_3 n1_3 cap1_3, .slice ad2_3 n2_3 cap2_3] 26)
  have zb3 : (w3.alloc (.cells #[.int .i64 f0_R, .slice ad1_3 n1_3 cap1_3, .slice ad2_3 n2_3 cap2_3] 26)).heap.size = w3.heap.size + 1 := by simp
  replace sPackets := CodedPacketSI_below sPackets hb (.inr (Nat.le_refl _))
  replace sCoefficients := IntSI_below sCoefficients hb (.inr (Nat.le_refl _))
  replace r3 := CodedPacketO_below r3 hb (.inr (Nat.le_refl _))
  replace frm := frm.trans (hb.mono (by omega))
  clear hb
  have cw00 := kw0.cell (i := 0) rfl
  have cw01 := kw0.cell (i := 1) rfl
  have cw02 := kw0.cell (i := 2) rfl
  clear r1
  clear r2
  go_wp2_with fail
  go_at_call 40
  generalize w3.alloc (.cells #[.int .i64 f0_R, .slice ad1_3 n1_3 cap1_3, .slice ad2_3 n2_3 cap2_3] 26) = y0 at *
  refine (toCodedPacketS sPackets fPackets).mono ?_
  rintro e w4 ⟨u4, rfl, r4, bl⟩
  have z4 := bl.size
  replace sPackets := CodedPacketSI_below sPackets bl (by omega)
  replace sCoefficients := IntSI_below sCoefficients bl (by omega)
  replace r3 := CodedPacketO_below r3 bl (by omega)
  replace kw0 := kw0.below bl (by omega)
  clear cw00 cw01 cw02
  have cw00 := kw0.cell (i := 0) rfl
  have cw01 := kw0.cell (i := 1) rfl
  have cw02 := kw0.cell (i := 2) rfl
  replace frm := frm.trans (bl.mono (by omega))
  clear bl
  go_wp2_with fail
  go_at_call 34
  refine (toIntS sCoefficients fCoefficients).mono ?_
  rintro e w5 ⟨u5, rfl, r5, bl⟩
  have z5 := bl.size
  replace sPackets := CodedPacketSI_below sPackets bl (by omega)
  replace sCoefficients := IntSI_below sCoefficients bl (by omega)
  replace r3 := CodedPacketO_below r3 bl (by omega)
  replace r4 := CodedPacketSO_below r4 bl (by omega)
  replace kw0 := kw0.below bl (by omega)
  clear cw00 cw01 cw02
  have cw00 := kw0.cell (i := 0) rfl
  have cw01 := kw0.cell (i := 1) rfl
  have cw02 := kw0.cell (i := 2) rfl
  replace frm := frm.trans (bl.mono (by omega))
  clear bl
  go_wp2_with fail
  go_at_call 41
  refine (HI.out _ _ _ _ (CodedPacketSO_is r4) _ _ _ (IntSO_is r5)).mono ?_
  rintro e w6 ⟨u6, rfl, r6, bl⟩
  have z6 := bl.size
  replace sPackets := CodedPacketSI_below sPackets bl (by omega)
  replace sCoefficients := IntSI_below sCoefficients bl (by omega)
  replace r3 := CodedPacketO_below r3 bl (by omega)
  replace r4 := CodedPacketSO_below r4 bl (by omega)
  replace r5 := IntSO_below r5 bl (by omega)
  replace kw0 := kw0.below bl (by omega)
  clear cw00 cw01 cw02
  have cw00 := kw0.cell (i := 0) rfl
  have cw01 := kw0.cell (i := 1) rfl
  have cw02 := kw0.cell (i := 2) rfl
  replace frm := frm.trans (bl.mono (by omega))
  clear bl
  obtain ⟨ad1_6, n1_6, cap1_6, ad2_6, n2_6, cap2_6, rfl, hw0_6, r6⟩ := CodedPacketO_cells r6
  have kg0 := Bx.new w6 [.int .i64 f0_R, .slice ad1_6 n1_6 cap1_6, .slice ad2_6 n2_6 cap2_6] 26
  have hb := below_box w6 (.cells #[.int .i64 f0_R, .slice ad1_6 n1_6 cap1_6, .slice ad2_6 n2_6 cap2_6] 26)
  have zb6 : (w6.alloc (.cells #[.int .i64 f0_R, .slice ad1_6 n1_6 cap1_6, .slice ad2_6 n2_6 cap2_6] 26)).heap.size = w6.heap.size + 1 := by simp
  replace sPackets := CodedPacketSI_below sPackets hb (.inr (Nat.le_refl _))
  replace sCoefficients := IntSI_below sCoefficients hb (.inr (Nat.le_refl _))
  replace r3 := CodedPacketO_below r3 hb (.inr (Nat.le_refl _))
  replace r4 := CodedPacketSO_below r4 hb (.inr (Nat.le_refl _))
  replace r5 := IntSO_below r5 hb (.inr (Nat.le_refl _))
  replace r6 := CodedPacketO_below r6 hb (.inr (Nat.le_refl _))
  replace kw0 := kw0.alloc (.cells #[.int .i64 f0_R, .slice ad1_6 n1_6 cap1_6, .slice ad2_6 n2_6 cap2_6] 26)
  clear cw00 cw01 cw02
  have cw00 := kw0.cell (i := 0) rfl
  have cw01 := kw0.cell (i := 1) rfl
  have cw02 := kw0.cell (i := 2) rfl
  replace frm := frm.trans (hb.mono (by omega))
  clear hb
  have cg00 := kg0.cell (i := 0) rfl
  have cg01 := kg0.cell (i := 1) rfl
  have cg02 := kg0.cell (i := 2) rfl
  go_wp2_with fail
  go_at_call 24
  generalize w6.alloc (.cells #[.int .i64 f0_R, .slice ad1_6 n1_6 cap1_6, .slice ad2_6 n2_6 cap2_6] 26) = y1 at *
  refine (eqCodedPacket (CodedPacketO_is r6) (CodedPacketO_is r3) hfit rfl).mono ?_
  rintro e w7 ⟨rfl, bl⟩
  have z7 := bl.size
  replace sPackets := CodedPacketSI_below sPackets bl (by omega)
  replace sCoefficients := IntSI_below sCoefficients bl (by omega)
  replace r3 := CodedPacketO_below r3 bl (by omega)
  replace r4 := CodedPacketSO_below r4 bl (by omega)
  replace r5 := IntSO_below r5 bl (by omega)
  replace r6 := CodedPacketO_below r6 bl (by omega)
  replace kw0 := kw0.below bl (by omega)
  clear cw00 cw01 cw02
  have cw00 := kw0.cell (i := 0) rfl
  have cw01 := kw0.cell (i := 1) rfl
  have cw02 := kw0.cell (i := 2) rfl
  replace kg0 := kg0.below bl (by omega)
  clear cg00 cg01 cg02
  have cg00 := kg0.cell (i := 0) rfl
  have cg01 := kg0.cell (i := 1) rfl
  have cg02 := kg0.cell (i := 2) rfl
  replace frm := frm.trans (bl.mono (by omega))
  clear bl
  go_wp2_with fail
  go_at_call 40
  refine (toCodedPacketS sPackets fPackets).mono ?_
  rintro e w8 ⟨u8, rfl, r8, bl⟩
  have z8 := bl.size
  replace sPackets := CodedPacketSI_below sPackets bl (by omega)
  replace sCoefficients := IntSI_below sCoefficients bl (by omega)
  replace r3 := CodedPacketO_below r3 bl (by omega)
  replace r4 := CodedPacketSO_below r4 bl (by omega)
  replace r5 := IntSO_below r5 bl (by omega)
  replace r6 := CodedPacketO_below r6 bl (by omega)
  replace kw0 := kw0.below bl (by omega)
  clear cw00 cw01 cw02
  have cw00 := kw0.cell (i := 0) rfl
  have cw01 := kw0.cell (i := 1) rfl
  have cw02 := kw0.cell (i := 2) rfl
  replace kg0 := kg0.below bl (by omega)
  clear cg00 cg01 cg02
  have cg00 := kg0.cell (i := 0) rfl
  have cg01 := kg0.cell (i := 1) rfl
  have cg02 := kg0.cell (i := 2) rfl
  replace frm := frm.trans (bl.mono (by omega))
  clear bl
  go_wp2_with fail
  go_at_call 42
  refine (eqCodedPacketS (CodedPacketSO_is r4) (CodedPacketSO_is r8) fPackets rfl).mono ?_
  rintro e w9 ⟨rfl, bl⟩
  have z9 := bl.size
  replace sPackets := CodedPacketSI_below sPackets bl (by omega)
  replace sCoefficients := IntSI_below sCoefficients bl (by omega)
  replace r3 := CodedPacketO_below r3 bl (by omega)
  replace r4 := CodedPacketSO_below r4 bl (by omega)
  replace r5 := IntSO_below r5 bl (by omega)
  replace r6 := CodedPacketO_below r6 bl (by omega)
  replace kw0 := kw0.below bl (by omega)
  clear cw00 cw01 cw02
  have cw00 := kw0.cell (i := 0) rfl
  have cw01 := kw0.cell (i := 1) rfl
  have cw02 := kw0.cell (i := 2) rfl
  replace kg0 := kg0.below bl (by omega)
  clear cg00 cg01 cg02
  have cg00 := kg0.cell (i := 0) rfl
  have cg01 := kg0.cell (i := 1) rfl
  have cg02 := kg0.cell (i := 2) rfl
  replace frm := frm.trans (bl.mono (by omega))
  clear bl
  clear r8
  go_wp2_with fail
  go_at_call 34
  refine (toIntS sCoefficients fCoefficients).mono ?_
  rintro e w10 ⟨u10, rfl, r10, bl⟩
  have z10 := bl.size
  replace sPackets := CodedPacketSI_below sPackets bl (by omega)
  replace sCoefficients := IntSI_below sCoefficients bl (by omega)
  replace r3 := CodedPacketO_below r3 bl (by omega)
  replace r4 := CodedPacketSO_below r4 bl (by omega)
  replace r5 := IntSO_below r5 bl (by omega)
  replace r6 := CodedPacketO_below r6 bl (by omega)
  replace kw0 := kw0.below bl (by omega)
  clear cw00 cw01 cw02
  have cw00 := kw0.cell (i := 0) rfl
  have cw01 := kw0.cell (i := 1) rfl
  have cw02 := kw0.cell (i := 2) rfl
  replace kg0 := kg0.below bl (by omega)
  clear cg00 cg01 cg02
  have cg00 := kg0.cell (i := 0) rfl
  have cg01 := kg0.cell (i := 1) rfl
  have cg02 := kg0.cell (i := 2) rfl
  replace frm := frm.trans (bl.mono (by omega))
  clear bl
  go_wp2_with fail
  go_at_call 36
  refine (eqIntS (IntSO_is r5) (IntSO_is r10) fCoefficients rfl).mono ?_
  rintro e w11 ⟨rfl, bl⟩
  have z11 := bl.size
  replace sPackets := CodedPacketSI_below sPackets bl (by omega)
  replace sCoefficients := IntSI_below sCoefficients bl (by omega)
  replace r3 := CodedPacketO_below r3 bl (by omega)
  replace r4 := CodedPacketSO_below r4 bl (by omega)
  replace r5 := IntSO_below r5 bl (by omega)
  replace r6 := CodedPacketO_below r6 bl (by omega)
  replace kw0 := kw0.below bl (by omega)
  clear cw00 cw01 cw02
  have cw00 := kw0.cell (i := 0) rfl
  have cw01 := kw0.cell (i := 1) rfl
  have cw02 := kw0.cell (i := 2) rfl
  replace kg0 := kg0.below bl (by omega)
  clear cg00 cg01 cg02
  have cg00 := kg0.cell (i := 0) rfl
  have cg01 := kg0.cell (i := 1) rfl
  have cg02 := kg0.cell (i := 2) rfl
  replace frm := frm.trans (bl.mono (by omega))
  clear bl
  clear r10
  go_wp2_with fail
  go_at_call 43
  refine (markCodedPacketS r4 fPackets (1) (by omega) (by omega)).mono ?_
  rintro e w12 ⟨rfl, new, mv⟩
  have z12 := mv.size
  replace sPackets := CodedPacketSI_mv sPackets mv (by omega)
  replace sCoefficients := IntSI_mv sCoefficients mv (by omega)
  replace r3 := CodedPacketO_mv r3 mv (by omega)
  replace r5 := IntSO_mv r5 mv (by omega)
  replace r6 := CodedPacketO_mv r6 mv (by omega)
  replace kw0 := kw0.mv mv (by omega)
  clear cw00 cw01 cw02
  have cw00 := kw0.cell (i := 0) rfl
  have cw01 := kw0.cell (i := 1) rfl
  have cw02 := kw0.cell (i := 2) rfl
  replace kg0 := kg0.mv mv (by omega)
  clear cg00 cg01 cg02
  have cg00 := kg0.cell (i := 0) rfl
  have cg01 := kg0.cell (i := 1) rfl
  have cg02 := kg0.cell (i := 2) rfl
  replace frm := frm.trans (mv.below (by omega) (by omega))
  clear new mv
  clear r4
  go_wp2_with fail
  go_at_call 37
  refine (markIntS r5 fCoefficients (1 + (CodedPacketSC xPackets : Int)) (by omega) (by omega)).mono ?_
  rintro e w13 ⟨rfl, new, mv⟩
  have z13 := mv.size
  replace sPackets := CodedPacketSI_mv sPackets mv (by omega)
  replace sCoefficients := IntSI_mv sCoefficients mv (by omega)
  replace r3 := CodedPacketO_mv r3 mv (by omega)
  replace r6 := CodedPacketO_mv r6 mv (by omega)
  replace kw0 := kw0.mv mv (by omega)
  clear cw00 cw01 cw02
  have cw00 := kw0.cell (i := 0) rfl
  have cw01 := kw0.cell (i := 1) rfl
  have cw02 := kw0.cell (i := 2) rfl
  replace kg0 := kg0.mv mv (by omega)
  clear cg00 cg01 cg02
  have cg00 := kg0.cell (i := 0) rfl
  have cg01 := kg0.cell (i := 1) rfl
  have cg02 := kg0.cell (i := 2) rfl
  replace frm := frm.trans (mv.below (by omega) (by omega))
  clear new mv
  clear r5
  go_wp2_with fail
  go_at_call 24
  refine (eqCodedPacket (CodedPacketO_is r6) (CodedPacketO_is r3) hfit rfl).mono ?_
  rintro e w14 ⟨rfl, bl⟩
  have z14 := bl.size
  replace sPackets := CodedPacketSI_below sPackets bl (by omega)
  replace sCoefficients := IntSI_below sCoefficients bl (by omega)
  replace r3 := CodedPacketO_below r3 bl (by omega)
  replace r6 := CodedPacketO_below r6 bl (by omega)
  replace kw0 := kw0.below bl (by omega)
  clear cw00 cw01 cw02
  have cw00 := kw0.cell (i := 0) rfl
  have cw01 := kw0.cell (i := 1) rfl
  have cw02 := kw0.cell (i := 2) rfl
  replace kg0 := kg0.below bl (by omega)
  clear cg00 cg01 cg02
  have cg00 := kg0.cell (i := 0) rfl
  have cg01 := kg0.cell (i := 1) rfl
  have cg02 := kg0.cell (i := 2) rfl
  replace frm := frm.trans (bl.mono (by omega))
  clear bl
  go_wp2_with fail
  go_at_call 31
  refine (markCodedPacket r6 hfit (1) (by omega) (by omega)).mono ?_
  rintro e w15 ⟨rfl, new, mv⟩
  have z15 := mv.size
  replace sPackets := CodedPacketSI_mv sPackets mv (by omega)
  replace sCoefficients := IntSI_mv sCoefficients mv (by omega)
  replace r3 := CodedPacketO_mv r3 mv (by omega)
  replace kw0 := kw0.mv mv (by omega)
  clear cw00 cw01 cw02
  have cw00 := kw0.cell (i := 0) rfl
  have cw01 := kw0.cell (i := 1) rfl
  have cw02 := kw0.cell (i := 2) rfl
  replace kg0 := kg0.mv mv (by omega)
  clear cg00 cg01 cg02
  have cg00 := kg0.cell (i := 0) rfl
  have cg01 := kg0.cell (i := 1) rfl
  have cg02 := kg0.cell (i := 2) rfl
  replace frm := frm.trans (mv.below (by omega) (by omega))
  have r6m := new
  clear new mv
  go_wp2_with fail
  go_at_call 32
  refine (heldCodedPacket (1) (CodedPacketO_is r6m) hfit (by omega) (by omega)).mono ?_
  rintro e w16 ⟨rfl, bl⟩
  have z16 := bl.size
  replace sPackets := CodedPacketSI_below sPackets bl (by omega)
  replace sCoefficients := IntSI_below sCoefficients bl (by omega)
  replace r3 := CodedPacketO_below r3 bl (by omega)
  replace r6m := CodedPacketO_below r6m bl (by omega)
  replace kw0 := kw0.below bl (by omega)
  clear cw00 cw01 cw02
  have cw00 := kw0.cell (i := 0) rfl
  have cw01 := kw0.cell (i := 1) rfl
  have cw02 := kw0.cell (i := 2) rfl
  replace kg0 := kg0.below bl (by omega)
  clear cg00 cg01 cg02
  have cg00 := kg0.cell (i := 0) rfl
  have cg01 := kg0.cell (i := 1) rfl
  have cg02 := kg0.cell (i := 2) rfl
  replace frm := frm.trans (bl.mono (by omega))
  clear bl
  go_wp2_with fail
  go_at_call 40
  refine (toCodedPacketS sPackets fPackets).mono ?_
  rintro e w17 ⟨u17, rfl, r17, bl⟩
  have z17 := bl.size
  replace sCoefficients := IntSI_below sCoefficients bl (by omega)
  replace r3 := CodedPacketO_below r3 bl (by omega)
  replace r6m := CodedPacketO_below r6m bl (by omega)
  replace kw0 := kw0.below bl (by omega)
  clear cw00 cw01 cw02
  have cw00 := kw0.cell (i := 0) rfl
  have cw01 := kw0.cell (i := 1) rfl
  have cw02 := kw0.cell (i := 2) rfl
  replace kg0 := kg0.below bl (by omega)
  clear cg00 cg01 cg02
  have cg00 := kg0.cell (i := 0) rfl
  have cg01 := kg0.cell (i := 1) rfl
  have cg02 := kg0.cell (i := 2) rfl
  replace frm := frm.trans (bl.mono (by omega))
  clear bl
  go_wp2_with fail
  go_at_call 34
  refine (toIntS sCoefficients fCoefficients).mono ?_
  rintro e w18 ⟨u18, rfl, r18, bl⟩
  have z18 := bl.size
  replace r3 := CodedPacketO_below r3 bl (by omega)
  replace r6m := CodedPacketO_below r6m bl (by omega)
  replace r17 := CodedPacketSO_below r17 bl (by omega)
  replace kw0 := kw0.below bl (by omega)
  clear cw00 cw01 cw02
  have cw00 := kw0.cell (i := 0) rfl
  have cw01 := kw0.cell (i := 1) rfl
  have cw02 := kw0.cell (i := 2) rfl
  replace kg0 := kg0.below bl (by omega)
  clear cg00 cg01 cg02
  have cg00 := kg0.cell (i := 0) rfl
  have cg01 := kg0.cell (i := 1) rfl
  have cg02 := kg0.cell (i := 2) rfl
  replace frm := frm.trans (bl.mono (by omega))
  clear bl
  go_wp2_with fail
  go_at_call 41
  refine (HI.out _ _ _ _ (CodedPacketSO_is r17) _ _ _ (IntSO_is r18)).mono ?_
  rintro e w19 ⟨u19, rfl, r19, bl⟩
  have z19 := bl.size
  replace r3 := CodedPacketO_below r3 bl (by omega)
  replace r6m := CodedPacketO_below r6m bl (by omega)
  replace kw0 := kw0.below bl (by omega)
  clear cw00 cw01 cw02
  have cw00 := kw0.cell (i := 0) rfl
  have cw01 := kw0.cell (i := 1) rfl
  have cw02 := kw0.cell (i := 2) rfl
  replace kg0 := kg0.below bl (by omega)
  clear cg00 cg01 cg02
  have cg00 := kg0.cell (i := 0) rfl
  have cg01 := kg0.cell (i := 1) rfl
  have cg02 := kg0.cell (i := 2) rfl
  replace frm := frm.trans (bl.mono (by omega))
  clear bl
  obtain ⟨ad1_19, n1_19, cap1_19, ad2_19, n2_19, cap2_19, rfl, hw0_19, r19⟩ := CodedPacketO_cells r19
  have kh0 := Bx.new w19 [.int .i64 f0_R, .slice ad1_19 n1_19 cap1_19, .slice ad2_19 n2_19 cap2_19] 26
  have hb := below_box w19 (.cells #[.int .i64 f0_R, .slice ad1_19 n1_19 cap1_19, .slice ad2_19 n2_19 cap2_19] 26)
  have zb19 : (w19.alloc (.cells #[.int .i64 f0_R, .slice ad1_19 n1_19 cap1_19, .slice ad2_19 n2_19 cap2_19] 26)).heap.size = w19.heap.size + 1 := by simp
  replace r3 := CodedPacketO_below r3 hb (.inr (Nat.le_refl _))
  replace r6m := CodedPacketO_below r6m hb (.inr (Nat.le_refl _))
  replace r19 := CodedPacketO_below r19 hb (.inr (Nat.le_refl _))
  replace kw0 := kw0.alloc (.cells #[.int .i64 f0_R, .slice ad1_19 n1_19 cap1_19, .slice ad2_19 n2_19 cap2_19] 26)
  clear cw00 cw01 cw02
  have cw00 := kw0.cell (i := 0) rfl
  have cw01 := kw0.cell (i := 1) rfl
  have cw02 := kw0.cell (i := 2) rfl
  replace kg0 := kg0.alloc (.cells #[.int .i64 f0_R, .slice ad1_19 n1_19 cap1_19, .slice ad2_19 n2_19 cap2_19] 26)
  clear cg00 cg01 cg02
  have cg00 := kg0.cell (i := 0) rfl
  have cg01 := kg0.cell (i := 1) rfl
  have cg02 := kg0.cell (i := 2) rfl
  replace frm := frm.trans (hb.mono (by omega))
  clear hb
  have ch00 := kh0.cell (i := 0) rfl
  have ch01 := kh0.cell (i := 1) rfl
  have ch02 := kh0.cell (i := 2) rfl
  clear r17
  clear r18
  go_wp2_with fail
  go_at_call 24
  generalize w19.alloc (.cells #[.int .i64 f0_R, .slice ad1_19 n1_19 cap1_19, .slice ad2_19 n2_19 cap2_19] 26) = y2 at *
  refine (eqCodedPacket (CodedPacketO_is r19) (CodedPacketO_is r3) hfit rfl).mono ?_
  rintro e w20 ⟨rfl, bl⟩
  have z20 := bl.size
  replace r6m := CodedPacketO_below r6m bl (by omega)
  replace kw0 := kw0.below bl (by omega)
  clear cw00 cw01 cw02
  have cw00 := kw0.cell (i := 0) rfl
  have cw01 := kw0.cell (i := 1) rfl
  have cw02 := kw0.cell (i := 2) rfl
  replace kg0 := kg0.below bl (by omega)
  clear cg00 cg01 cg02
  have cg00 := kg0.cell (i := 0) rfl
  have cg01 := kg0.cell (i := 1) rfl
  have cg02 := kg0.cell (i := 2) rfl
  replace kh0 := kh0.below bl (by omega)
  clear ch00 ch01 ch02
  have ch00 := kh0.cell (i := 0) rfl
  have ch01 := kh0.cell (i := 1) rfl
  have ch02 := kh0.cell (i := 2) rfl
  replace frm := frm.trans (bl.mono (by omega))
  clear bl
  clear r3
  clear r19
  go_wp2_with fail
  go_at_call 32
  refine (heldCodedPacket (1) (CodedPacketO_is r6m) hfit (by omega) (by omega)).mono ?_
  rintro e w21 ⟨rfl, bl⟩
  have z21 := bl.size
  replace kw0 := kw0.below bl (by omega)
  clear cw00 cw01 cw02
  have cw00 := kw0.cell (i := 0) rfl
  have cw01 := kw0.cell (i := 1) rfl
  have cw02 := kw0.cell (i := 2) rfl
  replace kg0 := kg0.below bl (by omega)
  clear cg00 cg01 cg02
  have cg00 := kg0.cell (i := 0) rfl
  have cg01 := kg0.cell (i := 1) rfl
  have cg02 := kg0.cell (i := 2) rfl
  replace kh0 := kh0.below bl (by omega)
  clear ch00 ch01 ch02
  have ch00 := kh0.cell (i := 0) rfl
  have ch01 := kh0.cell (i := 1) rfl
  have ch02 := kh0.cell (i := 2) rfl
  replace frm := frm.trans (bl.mono (by omega))
  clear bl
  clear r6m
  go_wp2
  go_ret
  exact ⟨rfl, frm⟩

set_option maxRecDepth 100000 in
set_option maxHeartbeats 1600000 in
theorem exactEncodePacket (w : World) (vP : Value) (iaP : ∃ x, CodedPacketI w 0 w.heap.size vP x) :
    Calls Try.prog 8 #[vP] w fun e w' => e = .returned (.bool true) ∧ Below w.heap.size w w' := by
  obtain ⟨⟨f0_P, f1_P, f2_P⟩, sP⟩ := iaP
  obtain ⟨ad1_P, n1_P, cap1_P, ad2_P, n2_P, cap2_P, rfl, hw0_P, sP⟩ := CodedPacketI_cells sP
  have frm := Below.refl w.heap.size w
  have kP := Bx.new w [.int .i64 f0_P, .slice ad1_P n1_P cap1_P, .slice ad2_P n2_P cap2_P] 34
  replace frm := frm.alloc (by first | exact Nat.le_refl _ | (simp; done) | (simp; omega)) (.cells #[.int .i64 f0_P, .slice ad1_P n1_P cap1_P, .slice ad2_P n2_P cap2_P] 34)
  replace sP := CodedPacketI_below sP frm (.inr (Nat.le_refl _))
  have cP0 := kP.cell (i := 0) rfl
  have cP1 := kP.cell (i := 1) rfl
  have cP2 := kP.cell (i := 2) rfl
  have zw : (w.alloc (.cells #[.int .i64 f0_P, .slice ad1_P n1_P cap1_P, .slice ad2_P n2_P cap2_P] 34)).heap.size = w.heap.size + 1 := by simp
  go_enter Try.func8, Try.ntmps8
  go_wp2_with fail
  go_at_call 20
  generalize w.alloc (.cells #[.int .i64 f0_P, .slice ad1_P n1_P cap1_P, .slice ad2_P n2_P cap2_P] 34) = y0 at *
  refine (szCodedPacket sP 1048576 (by omega) (by omega)).mono ?_
  rintro e wsP ⟨leftP, rfl, leP, riP, fP, bl⟩
  have zsP := bl.size
  replace sP := CodedPacketI_below sP bl (by omega)
  replace kP := kP.below bl (by omega)
  clear cP0 cP1 cP2
  have cP0 := kP.cell (i := 0) rfl
  have cP1 := kP.cell (i := 1) rfl
  have cP2 := kP.cell (i := 2) rfl
  replace frm := frm.trans (bl.mono (by omega))
  clear bl
  by_cases hlP : 0 ≤ leftP
  case neg =>
    clear fP
    go_wp2
    go_ret
    exact ⟨rfl, frm⟩
  replace fP := fP hlP
  have cS := fun (w' : World) (lP hP : Nat) (uP : Value) (sP : CodedPacketI w' lP hP uP (f0_P, f1_P, f2_P)) => PktW.encS w' sP fP
  have cI := fun (w' : World) (lP hP : Nat) (uP : Value) (sP : CodedPacketI w' lP hP uP (f0_P, f1_P, f2_P)) => PktI.enc w' sP fP
  try dsimp only at cS cI
  have hfit : ByteSF ((Pkt.encP (f0_P, f1_P, f2_P))) := by exact PktW.fit_enc _
  generalize hR : (Pkt.encP (f0_P, f1_P, f2_P)) = R at cS cI hfit
  clear hR
  have HS := Lib.hid cS
  have HI := Lib.hid cI
  clear cS cI
  have hcnt := ByteSC_le hfit
  have hkP := CodedPacketC_le fP
  go_wp2_with fail
  go_at_call 22
  refine (toCodedPacket sP fP).mono ?_
  rintro e w1 ⟨u1, rfl, r1, bl⟩
  have z1 := bl.size
  replace sP := CodedPacketI_below sP bl (by omega)
  replace kP := kP.below bl (by omega)
  clear cP0 cP1 cP2
  have cP0 := kP.cell (i := 0) rfl
  have cP1 := kP.cell (i := 1) rfl
  have cP2 := kP.cell (i := 2) rfl
  replace frm := frm.trans (bl.mono (by omega))
  clear bl
  obtain ⟨ad1_1, n1_1, cap1_1, ad2_1, n2_1, cap2_1, rfl, hw0_1, r1⟩ := CodedPacketO_cells r1
  go_wp2_with fail
  go_at_call 17
  refine (HS.out _ _ _ _ (CodedPacketO_is r1)).mono ?_
  rintro e w2 ⟨u2, rfl, r2, bl⟩
  have z2 := bl.size
  replace sP := CodedPacketI_below sP bl (by omega)
  replace kP := kP.below bl (by omega)
  clear cP0 cP1 cP2
  have cP0 := kP.cell (i := 0) rfl
  have cP1 := kP.cell (i := 1) rfl
  have cP2 := kP.cell (i := 2) rfl
  replace frm := frm.trans (bl.mono (by omega))
  clear bl
  clear r1
  go_wp2_with fail
  go_at_call 22
  refine (toCodedPacket sP fP).mono ?_
  rintro e w3 ⟨u3, rfl, r3, bl⟩
  have z3 := bl.size
  replace sP := CodedPacketI_below sP bl (by omega)
  replace r2 := ByteSO_below r2 bl (by omega)
  replace kP := kP.below bl (by omega)
  clear cP0 cP1 cP2
  have cP0 := kP.cell (i := 0) rfl
  have cP1 := kP.cell (i := 1) rfl
  have cP2 := kP.cell (i := 2) rfl
  replace frm := frm.trans (bl.mono (by omega))
  clear bl
  obtain ⟨ad1_3, n1_3, cap1_3, ad2_3, n2_3, cap2_3, rfl, hw0_3, r3⟩ := CodedPacketO_cells r3
  have kx0 := Bx.new w3 [.int .i64 f0_P, .slice ad1_3 n1_3 cap1_3, .slice ad2_3 n2_3 cap2_3] 26
  have hb := below_box w3 (.cells #[.int .i64 f0_P, .slice ad1_3 n1_3 cap1_3, .slice ad2_3 n2_3 cap2_3] 26)
  have zb3 : (w3.alloc (.cells #[.int .i64 f0_P, .slice ad1_3 n1_3 cap1_3, .slice ad2_3 n2_3 cap2_3] 26)).heap.size = w3.heap.size + 1 := by simp
  replace sP := CodedPacketI_below sP hb (.inr (Nat.le_refl _))
  replace r2 := ByteSO_below r2 hb (.inr (Nat.le_refl _))
  replace r3 := CodedPacketO_below r3 hb (.inr (Nat.le_refl _))
  replace kP := kP.alloc (.cells #[.int .i64 f0_P, .slice ad1_3 n1_3 cap1_3, .slice ad2_3 n2_3 cap2_3] 26)
  clear cP0 cP1 cP2
  have cP0 := kP.cell (i := 0) rfl
  have cP1 := kP.cell (i := 1) rfl
  have cP2 := kP.cell (i := 2) rfl
  replace frm := frm.trans (hb.mono (by omega))
  clear hb
  have cx00 := kx0.cell (i := 0) rfl
  have cx01 := kx0.cell (i := 1) rfl
  have cx02 := kx0.cell (i := 2) rfl
  go_wp2_with fail
  go_at_call 15
  generalize w3.alloc (.cells #[.int .i64 f0_P, .slice ad1_3 n1_3 cap1_3, .slice ad2_3 n2_3 cap2_3] 26) = y1 at *
  refine (HI.out _ _ _ _ (CodedPacketO_is r3)).mono ?_
  rintro e w4 ⟨u4, rfl, r4, bl⟩
  have z4 := bl.size
  replace sP := CodedPacketI_below sP bl (by omega)
  replace r2 := ByteSO_below r2 bl (by omega)
  replace r3 := CodedPacketO_below r3 bl (by omega)
  replace kP := kP.below bl (by omega)
  clear cP0 cP1 cP2
  have cP0 := kP.cell (i := 0) rfl
  have cP1 := kP.cell (i := 1) rfl
  have cP2 := kP.cell (i := 2) rfl
  replace kx0 := kx0.below bl (by omega)
  clear cx00 cx01 cx02
  have cx00 := kx0.cell (i := 0) rfl
  have cx01 := kx0.cell (i := 1) rfl
  have cx02 := kx0.cell (i := 2) rfl
  replace frm := frm.trans (bl.mono (by omega))
  clear bl
  go_wp2_with fail
  go_at_call 44
  refine (eqByteS (ByteSO_is r4) (ByteSO_is r2) hfit rfl).mono ?_
  rintro e w5 ⟨rfl, bl⟩
  have z5 := bl.size
  replace sP := CodedPacketI_below sP bl (by omega)
  replace r2 := ByteSO_below r2 bl (by omega)
  replace r3 := CodedPacketO_below r3 bl (by omega)
  replace r4 := ByteSO_below r4 bl (by omega)
  replace kP := kP.below bl (by omega)
  clear cP0 cP1 cP2
  have cP0 := kP.cell (i := 0) rfl
  have cP1 := kP.cell (i := 1) rfl
  have cP2 := kP.cell (i := 2) rfl
  replace kx0 := kx0.below bl (by omega)
  clear cx00 cx01 cx02
  have cx00 := kx0.cell (i := 0) rfl
  have cx01 := kx0.cell (i := 1) rfl
  have cx02 := kx0.cell (i := 2) rfl
  replace frm := frm.trans (bl.mono (by omega))
  clear bl
  go_wp2
  replace sP := CodedPacketI_mv sP (Mv.drew (Mv.refl w5 0 0)) (.inr (Nat.zero_le _))
  replace r2 := ByteSO_mv r2 (Mv.drew (Mv.refl w5 0 0)) (.inr (Nat.zero_le _))
  replace r3 := CodedPacketO_mv r3 (Mv.drew (Mv.refl w5 0 0)) (.inr (Nat.zero_le _))
  replace r4 := ByteSO_mv r4 (Mv.drew (Mv.refl w5 0 0)) (.inr (Nat.zero_le _))
  replace kP := kP.drew
  clear cP0 cP1 cP2
  have cP0 := kP.cell (i := 0) rfl
  have cP1 := kP.cell (i := 1) rfl
  have cP2 := kP.cell (i := 2) rfl
  replace kx0 := kx0.drew
  clear cx00 cx01 cx02
  have cx00 := kx0.cell (i := 0) rfl
  have cx01 := kx0.cell (i := 1) rfl
  have cx02 := kx0.cell (i := 2) rfl
  replace frm := frm.drew
  have zd : w5.heap.size = w5.drew.heap.size := rfl
  refine wp_region_held (S := fun w' => w'.cell? ⟨w.heap.size, 0, none⟩ = some (.int .i64 f0_P) ∧ w'.cell? ⟨w.heap.size, 1, none⟩ = some (.slice ad1_P n1_P cap1_P) ∧ w'.cell? ⟨w.heap.size, 2, none⟩ = some (.slice ad2_P n2_P cap2_P) ∧ w'.cell? ⟨w3.heap.size, 0, none⟩ = some (.int .i64 f0_P) ∧ w'.cell? ⟨w3.heap.size, 1, none⟩ = some (.slice ad1_3 n1_3 cap1_3) ∧ w'.cell? ⟨w3.heap.size, 2, none⟩ = some (.slice ad2_3 n2_3 cap2_3)) (by kernel_rfl) ?_
  change wpAnyH _ _ _ _ _ _ _ _ w5.drew
  generalize w5.drew = d0 at *
  have HH := Lib.hid (show d0.cell? ⟨w.heap.size, 0, none⟩ = some (.int .i64 f0_P) ∧ d0.cell? ⟨w.heap.size, 1, none⟩ = some (.slice ad1_P n1_P cap1_P) ∧ d0.cell? ⟨w.heap.size, 2, none⟩ = some (.slice ad2_P n2_P cap2_P) ∧ d0.cell? ⟨w3.heap.size, 0, none⟩ = some (.int .i64 f0_P) ∧ d0.cell? ⟨w3.heap.size, 1, none⟩ = some (.slice ad1_3 n1_3 cap1_3) ∧ d0.cell? ⟨w3.heap.size, 2, none⟩ = some (.slice ad2_3 n2_3 cap2_3) from ⟨cP0, cP1, cP2, cx00, cx01, cx02⟩)
  refine wpAnyH_take (i := 0) (oi := ⟨some _, _, _, _, _, _⟩) (v := ?_) rfl (by kernel_rfl) (by kernel_rfl) (by kernel_rfl) (fun _ _ _ h => h) (Or.inl ⟨by rfl, ?_⟩) HH.out ?_
  rotate_left
  · intro wS hSw
    try dsimp only at hSw
    go_simp
    all_goals (with_reducible rfl)
  simp only [Act.put, List.setIfInBounds_toArray, List.set_cons_zero, List.set_cons_succ]
  refine wpAnyH_take (i := 1) (oi := ⟨some _, _, _, _, _, _⟩) (v := ?_) rfl (by kernel_rfl) (by kernel_rfl) (by kernel_rfl) (fun _ _ _ h => h) (Or.inl ⟨by rfl, ?_⟩) HH.out ?_
  rotate_left
  · intro wS hSw
    try dsimp only at hSw
    go_simp
    all_goals (with_reducible rfl)
  simp only [Act.put, List.setIfInBounds_toArray, List.set_cons_zero, List.set_cons_succ]
  clear HH
  refine wpAnyH_ready (rs := [2]) (by kernel_rfl) (by simp) ?_
  refine AllReadyH.cons (o := ⟨some _, _, _, _, _, _⟩) rfl (fun Kq hKq => ?_) AllReadyH.nil
  go_simp
  refine (toCodedPacket sP fP).mono ?_
  rintro e w6 ⟨u6, rfl, r6, bl⟩
  have z6 := bl.size
  replace sP := CodedPacketI_below sP bl (by omega)
  replace r2 := ByteSO_below r2 bl (by omega)
  replace r3 := CodedPacketO_below r3 bl (by omega)
  replace r4 := ByteSO_below r4 bl (by omega)
  replace kP := kP.below bl (by omega)
  clear cP0 cP1 cP2
  have cP0 := kP.cell (i := 0) rfl
  have cP1 := kP.cell (i := 1) rfl
  have cP2 := kP.cell (i := 2) rfl
  replace kx0 := kx0.below bl (by omega)
  clear cx00 cx01 cx02
  have cx00 := kx0.cell (i := 0) rfl
  have cx01 := kx0.cell (i := 1) rfl
  have cx02 := kx0.cell (i := 2) rfl
  replace frm := frm.trans (bl.mono (by omega))
  clear bl
  obtain ⟨ad1_6, n1_6, cap1_6, ad2_6, n2_6, cap2_6, rfl, hw0_6, r6⟩ := CodedPacketO_cells r6
  have HH := Lib.hid (show w6.cell? ⟨w.heap.size, 0, none⟩ = some (.int .i64 f0_P) ∧ w6.cell? ⟨w.heap.size, 1, none⟩ = some (.slice ad1_P n1_P cap1_P) ∧ w6.cell? ⟨w.heap.size, 2, none⟩ = some (.slice ad2_P n2_P cap2_P) ∧ w6.cell? ⟨w3.heap.size, 0, none⟩ = some (.int .i64 f0_P) ∧ w6.cell? ⟨w3.heap.size, 1, none⟩ = some (.slice ad1_3 n1_3 cap1_3) ∧ w6.cell? ⟨w3.heap.size, 2, none⟩ = some (.slice ad2_3 n2_3 cap2_3) from ⟨cP0, cP1, cP2, cx00, cx01, cx02⟩)
  refine hKq.out _ _ HH.out (fun _ => ?_)
  clear hKq Kq
  clear HH
  refine wpAnyH_ready (rs := [3]) (by kernel_rfl) (by simp) ?_
  refine AllReadyH.cons (o := ⟨some _, _, _, _, _, _⟩) rfl (fun Kq hKq => ?_) AllReadyH.nil
  go_simp
  refine (eqCodedPacket (CodedPacketO_is r3) (CodedPacketO_is r6) fP rfl).mono ?_
  rintro e w7 ⟨rfl, bl⟩
  have z7 := bl.size
  replace sP := CodedPacketI_below sP bl (by omega)
  replace r2 := ByteSO_below r2 bl (by omega)
  replace r3 := CodedPacketO_below r3 bl (by omega)
  replace r4 := ByteSO_below r4 bl (by omega)
  replace kP := kP.below bl (by omega)
  clear cP0 cP1 cP2
  have cP0 := kP.cell (i := 0) rfl
  have cP1 := kP.cell (i := 1) rfl
  have cP2 := kP.cell (i := 2) rfl
  replace kx0 := kx0.below bl (by omega)
  clear cx00 cx01 cx02
  have cx00 := kx0.cell (i := 0) rfl
  have cx01 := kx0.cell (i := 1) rfl
  have cx02 := kx0.cell (i := 2) rfl
  replace frm := frm.trans (bl.mono (by omega))
  clear bl
  have HH := Lib.hid (show w7.cell? ⟨w.heap.size, 0, none⟩ = some (.int .i64 f0_P) ∧ w7.cell? ⟨w.heap.size, 1, none⟩ = some (.slice ad1_P n1_P cap1_P) ∧ w7.cell? ⟨w.heap.size, 2, none⟩ = some (.slice ad2_P n2_P cap2_P) ∧ w7.cell? ⟨w3.heap.size, 0, none⟩ = some (.int .i64 f0_P) ∧ w7.cell? ⟨w3.heap.size, 1, none⟩ = some (.slice ad1_3 n1_3 cap1_3) ∧ w7.cell? ⟨w3.heap.size, 2, none⟩ = some (.slice ad2_3 n2_3 cap2_3) from ⟨cP0, cP1, cP2, cx00, cx01, cx02⟩)
  refine hKq.out _ _ HH.out (fun _ => ?_)
  clear hKq Kq
  try simp only [Act.put, List.setIfInBounds_toArray, List.set_cons_zero, List.set_cons_succ]
  refine wpAnyH_take (i := 4) (oi := ⟨some _, _, _, _, _, _⟩) (v := ?_) rfl (by kernel_rfl) (by kernel_rfl) (by kernel_rfl) (fun _ _ _ h => h) (Or.inl ⟨by rfl, ?_⟩) HH.out ?_
  rotate_left
  · intro wS hSw
    try dsimp only at hSw
    go_simp
    all_goals (with_reducible rfl)
  simp only [Act.put, List.setIfInBounds_toArray, List.set_cons_zero, List.set_cons_succ]
  refine wpAnyH_done (by kernel_rfl) ?_ _
  clear HH
  clear r6
  go_wp2_with fail
  go_at_call 31
  refine (markCodedPacket r3 fP (1) (by omega) (by omega)).mono ?_
  rintro e w8 ⟨rfl, new, mv⟩
  have z8 := mv.size
  replace sP := CodedPacketI_mv sP mv (by omega)
  replace r2 := ByteSO_mv r2 mv (by omega)
  replace r4 := ByteSO_mv r4 mv (by omega)
  replace kP := kP.mv mv (by omega)
  clear cP0 cP1 cP2
  have cP0 := kP.cell (i := 0) rfl
  have cP1 := kP.cell (i := 1) rfl
  have cP2 := kP.cell (i := 2) rfl
  replace kx0 := kx0.mv mv (by omega)
  clear cx00 cx01 cx02
  have cx00 := kx0.cell (i := 0) rfl
  have cx01 := kx0.cell (i := 1) rfl
  have cx02 := kx0.cell (i := 2) rfl
  replace frm := frm.trans (mv.below (by omega) (by omega))
  clear new mv
  clear r3
  go_wp2_with fail
  go_at_call 44
  refine (eqByteS (ByteSO_is r4) (ByteSO_is r2) hfit rfl).mono ?_
  rintro e w9 ⟨rfl, bl⟩
  have z9 := bl.size
  replace sP := CodedPacketI_below sP bl (by omega)
  replace r2 := ByteSO_below r2 bl (by omega)
  replace r4 := ByteSO_below r4 bl (by omega)
  replace kP := kP.below bl (by omega)
  clear cP0 cP1 cP2
  have cP0 := kP.cell (i := 0) rfl
  have cP1 := kP.cell (i := 1) rfl
  have cP2 := kP.cell (i := 2) rfl
  replace kx0 := kx0.below bl (by omega)
  clear cx00 cx01 cx02
  have cx00 := kx0.cell (i := 0) rfl
  have cx01 := kx0.cell (i := 1) rfl
  have cx02 := kx0.cell (i := 2) rfl
  replace frm := frm.trans (bl.mono (by omega))
  clear bl
  go_wp2_with fail
  go_at_call 45
  refine (markByteS r4 hfit (1) (by omega) (by omega)).mono ?_
  rintro e w10 ⟨rfl, new, mv⟩
  have z10 := mv.size
  replace sP := CodedPacketI_mv sP mv (by omega)
  replace r2 := ByteSO_mv r2 mv (by omega)
  replace kP := kP.mv mv (by omega)
  clear cP0 cP1 cP2
  have cP0 := kP.cell (i := 0) rfl
  have cP1 := kP.cell (i := 1) rfl
  have cP2 := kP.cell (i := 2) rfl
  replace kx0 := kx0.mv mv (by omega)
  clear cx00 cx01 cx02
  have cx00 := kx0.cell (i := 0) rfl
  have cx01 := kx0.cell (i := 1) rfl
  have cx02 := kx0.cell (i := 2) rfl
  replace frm := frm.trans (mv.below (by omega) (by omega))
  have r4m := new
  clear new mv
  go_wp2_with fail
  go_at_call 46
  refine (heldByteS (1) (ByteSO_is r4m) hfit (by omega) (by omega)).mono ?_
  rintro e w11 ⟨rfl, bl⟩
  have z11 := bl.size
  replace sP := CodedPacketI_below sP bl (by omega)
  replace r2 := ByteSO_below r2 bl (by omega)
  replace r4m := ByteSO_below r4m bl (by omega)
  replace kP := kP.below bl (by omega)
  clear cP0 cP1 cP2
  have cP0 := kP.cell (i := 0) rfl
  have cP1 := kP.cell (i := 1) rfl
  have cP2 := kP.cell (i := 2) rfl
  replace kx0 := kx0.below bl (by omega)
  clear cx00 cx01 cx02
  have cx00 := kx0.cell (i := 0) rfl
  have cx01 := kx0.cell (i := 1) rfl
  have cx02 := kx0.cell (i := 2) rfl
  replace frm := frm.trans (bl.mono (by omega))
  clear bl
  go_wp2_with fail
  go_at_call 22
  refine (toCodedPacket sP fP).mono ?_
  rintro e w12 ⟨u12, rfl, r12, bl⟩
  have z12 := bl.size
  replace r2 := ByteSO_below r2 bl (by omega)
  replace r4m := ByteSO_below r4m bl (by omega)
  replace kP := kP.below bl (by omega)
  clear cP0 cP1 cP2
  have cP0 := kP.cell (i := 0) rfl
  have cP1 := kP.cell (i := 1) rfl
  have cP2 := kP.cell (i := 2) rfl
  replace kx0 := kx0.below bl (by omega)
  clear cx00 cx01 cx02
  have cx00 := kx0.cell (i := 0) rfl
  have cx01 := kx0.cell (i := 1) rfl
  have cx02 := kx0.cell (i := 2) rfl
  replace frm := frm.trans (bl.mono (by omega))
  clear bl
  obtain ⟨ad1_12, n1_12, cap1_12, ad2_12, n2_12, cap2_12, rfl, hw0_12, r12⟩ := CodedPacketO_cells r12
  go_wp2_with fail
  go_at_call 15
  refine (HI.out _ _ _ _ (CodedPacketO_is r12)).mono ?_
  rintro e w13 ⟨u13, rfl, r13, bl⟩
  have z13 := bl.size
  replace r2 := ByteSO_below r2 bl (by omega)
  replace r4m := ByteSO_below r4m bl (by omega)
  replace kP := kP.below bl (by omega)
  clear cP0 cP1 cP2
  have cP0 := kP.cell (i := 0) rfl
  have cP1 := kP.cell (i := 1) rfl
  have cP2 := kP.cell (i := 2) rfl
  replace kx0 := kx0.below bl (by omega)
  clear cx00 cx01 cx02
  have cx00 := kx0.cell (i := 0) rfl
  have cx01 := kx0.cell (i := 1) rfl
  have cx02 := kx0.cell (i := 2) rfl
  replace frm := frm.trans (bl.mono (by omega))
  clear bl
  clear r12
  go_wp2_with fail
  go_at_call 44
  refine (eqByteS (ByteSO_is r13) (ByteSO_is r2) hfit rfl).mono ?_
  rintro e w14 ⟨rfl, bl⟩
  have z14 := bl.size
  replace r4m := ByteSO_below r4m bl (by omega)
  replace kP := kP.below bl (by omega)
  clear cP0 cP1 cP2
  have cP0 := kP.cell (i := 0) rfl
  have cP1 := kP.cell (i := 1) rfl
  have cP2 := kP.cell (i := 2) rfl
  replace kx0 := kx0.below bl (by omega)
  clear cx00 cx01 cx02
  have cx00 := kx0.cell (i := 0) rfl
  have cx01 := kx0.cell (i := 1) rfl
  have cx02 := kx0.cell (i := 2) rfl
  replace frm := frm.trans (bl.mono (by omega))
  clear bl
  clear r2
  clear r13
  go_wp2_with fail
  go_at_call 46
  refine (heldByteS (1) (ByteSO_is r4m) hfit (by omega) (by omega)).mono ?_
  rintro e w15 ⟨rfl, bl⟩
  have z15 := bl.size
  replace kP := kP.below bl (by omega)
  clear cP0 cP1 cP2
  have cP0 := kP.cell (i := 0) rfl
  have cP1 := kP.cell (i := 1) rfl
  have cP2 := kP.cell (i := 2) rfl
  replace kx0 := kx0.below bl (by omega)
  clear cx00 cx01 cx02
  have cx00 := kx0.cell (i := 0) rfl
  have cx01 := kx0.cell (i := 1) rfl
  have cx02 := kx0.cell (i := 2) rfl
  replace frm := frm.trans (bl.mono (by omega))
  clear bl
  clear r4m
  go_wp2
  go_ret
  exact ⟨rfl, frm⟩

set_option maxRecDepth 100000 in
set_option maxHeartbeats 1600000 in
theorem exactDecodePacket (w : World) (vB : Value) (iaB : ∃ x, ByteSI w 0 w.heap.size vB x) :
    Calls Try.prog 9 #[vB] w fun e w' => e = .returned (.bool true) ∧ Below w.heap.size w w' := by
  obtain ⟨xB, adB, nB, capB, rfl, sB⟩ := iaB
  have frm := Below.refl w.heap.size w
  rcases Nat.lt_or_ge 1048576 nB with bigB | bigB
  · have hbB := sB.big
    have hcB := sB.le
    unfold maxLen at hbB
    go_enter Try.func9, Try.ntmps9
    go_wp2
    go_ret
    exact ⟨rfl, frm⟩
  have fB : ByteSF xB := by have := sB.len; show xB.length ≤ 1048576; omega
  have hbB := sB.big
  have hcB := sB.le
  unfold maxLen at hbB
  replace sB : ByteSI _ 0 w.heap.size (.slice adB nB capB) xB := ⟨_, _, _, rfl, sB⟩
  have cS := fun (w' : World) (lB hB : Nat) (uB : Value) (sB : ByteSI w' lB hB uB xB) => PktW.decS w' sB fB
  have cI := fun (w' : World) (lB hB : Nat) (uB : Value) (sB : ByteSI w' lB hB uB xB) => PktI.dec w' sB fB
  try dsimp only at cS cI
  have hfit : CodedPacketF ((Pkt.decP xB)).1 := by exact PktW.fit_dec _
  generalize hR : (Pkt.decP xB) = R at cS cI hfit
  clear hR
  obtain ⟨⟨f0_R, f1_R, f2_R⟩, R1⟩ := R
  try dsimp only at cS cI hfit
  have HS := Lib.hid cS
  have HI := Lib.hid cI
  clear cS cI
  have hcnt := CodedPacketC_le hfit
  have hkB := ByteSC_le fB
  go_enter Try.func9, Try.ntmps9
  go_wp2_with fail
  go_at_call 47
  refine (toByteS sB fB).mono ?_
  rintro e w1 ⟨u1, rfl, r1, bl⟩
  have z1 := bl.size
  replace sB := ByteSI_below sB bl (by omega)
  replace frm := frm.trans (bl.mono (by omega))
  clear bl
  go_wp2_with fail
  go_at_call 16
  refine (HS.out _ _ _ _ (ByteSO_is r1)).mono ?_
  rintro e w2 ⟨u2, rfl, r2, bl⟩
  have z2 := bl.size
  replace sB := ByteSI_below sB bl (by omega)
  replace frm := frm.trans (bl.mono (by omega))
  clear bl
  obtain ⟨ad1_2, n1_2, cap1_2, ad2_2, n2_2, cap2_2, rfl, hw0_2, r2⟩ := CodedPacketO_cells r2
  have kw0 := Bx.new w2 [.int .i64 f0_R, .slice ad1_2 n1_2 cap1_2, .slice ad2_2 n2_2 cap2_2] 26
  have hb := below_box w2 (.cells #[.int .i64 f0_R, .slice ad1_2 n1_2 cap1_2, .slice ad2_2 n2_2 cap2_2] 26)
  have zb2 : (w2.alloc (.cells #[.int .i64 f0_R, .slice ad1_2 n1_2 cap1_2, .slice ad2_2 n2_2 cap2_2] 26)).heap.size = w2.heap.size + 1 := by simp
  replace sB := ByteSI_below sB hb (.inr (Nat.le_refl _))
  replace r2 := CodedPacketO_below r2 hb (.inr (Nat.le_refl _))
  replace frm := frm.trans (hb.mono (by omega))
  clear hb
  have cw00 := kw0.cell (i := 0) rfl
  have cw01 := kw0.cell (i := 1) rfl
  have cw02 := kw0.cell (i := 2) rfl
  clear r1
  go_wp2_with fail
  go_at_call 47
  generalize w2.alloc (.cells #[.int .i64 f0_R, .slice ad1_2 n1_2 cap1_2, .slice ad2_2 n2_2 cap2_2] 26) = y0 at *
  refine (toByteS sB fB).mono ?_
  rintro e w3 ⟨u3, rfl, r3, bl⟩
  have z3 := bl.size
  replace sB := ByteSI_below sB bl (by omega)
  replace r2 := CodedPacketO_below r2 bl (by omega)
  replace kw0 := kw0.below bl (by omega)
  clear cw00 cw01 cw02
  have cw00 := kw0.cell (i := 0) rfl
  have cw01 := kw0.cell (i := 1) rfl
  have cw02 := kw0.cell (i := 2) rfl
  replace frm := frm.trans (bl.mono (by omega))
  clear bl
  go_wp2_with fail
  go_at_call 14
  refine (HI.out _ _ _ _ (ByteSO_is r3)).mono ?_
  rintro e w4 ⟨u4, rfl, r4, bl⟩
  have z4 := bl.size
  replace sB := ByteSI_below sB bl (by omega)
  replace r2 := CodedPacketO_below r2 bl (by omega)
  replace r3 := ByteSO_below r3 bl (by omega)
  replace kw0 := kw0.below bl (by omega)
  clear cw00 cw01 cw02
  have cw00 := kw0.cell (i := 0) rfl
  have cw01 := kw0.cell (i := 1) rfl
  have cw02 := kw0.cell (i := 2) rfl
  replace frm := frm.trans (bl.mono (by omega))
  clear bl
  obtain ⟨ad1_4, n1_4, cap1_4, ad2_4, n2_4, cap2_4, rfl, hw0_4, r4⟩ := CodedPacketO_cells r4
  have kg0 := Bx.new w4 [.int .i64 f0_R, .slice ad1_4 n1_4 cap1_4, .slice ad2_4 n2_4 cap2_4] 26
  have hb := below_box w4 (.cells #[.int .i64 f0_R, .slice ad1_4 n1_4 cap1_4, .slice ad2_4 n2_4 cap2_4] 26)
  have zb4 : (w4.alloc (.cells #[.int .i64 f0_R, .slice ad1_4 n1_4 cap1_4, .slice ad2_4 n2_4 cap2_4] 26)).heap.size = w4.heap.size + 1 := by simp
  replace sB := ByteSI_below sB hb (.inr (Nat.le_refl _))
  replace r2 := CodedPacketO_below r2 hb (.inr (Nat.le_refl _))
  replace r3 := ByteSO_below r3 hb (.inr (Nat.le_refl _))
  replace r4 := CodedPacketO_below r4 hb (.inr (Nat.le_refl _))
  replace kw0 := kw0.alloc (.cells #[.int .i64 f0_R, .slice ad1_4 n1_4 cap1_4, .slice ad2_4 n2_4 cap2_4] 26)
  clear cw00 cw01 cw02
  have cw00 := kw0.cell (i := 0) rfl
  have cw01 := kw0.cell (i := 1) rfl
  have cw02 := kw0.cell (i := 2) rfl
  replace frm := frm.trans (hb.mono (by omega))
  clear hb
  have cg00 := kg0.cell (i := 0) rfl
  have cg01 := kg0.cell (i := 1) rfl
  have cg02 := kg0.cell (i := 2) rfl
  go_wp2_with fail
  go_at_call 24
  generalize w4.alloc (.cells #[.int .i64 f0_R, .slice ad1_4 n1_4 cap1_4, .slice ad2_4 n2_4 cap2_4] 26) = y1 at *
  refine (eqCodedPacket (CodedPacketO_is r4) (CodedPacketO_is r2) hfit rfl).mono ?_
  rintro e w5 ⟨rfl, bl⟩
  have z5 := bl.size
  replace sB := ByteSI_below sB bl (by omega)
  replace r2 := CodedPacketO_below r2 bl (by omega)
  replace r3 := ByteSO_below r3 bl (by omega)
  replace r4 := CodedPacketO_below r4 bl (by omega)
  replace kw0 := kw0.below bl (by omega)
  clear cw00 cw01 cw02
  have cw00 := kw0.cell (i := 0) rfl
  have cw01 := kw0.cell (i := 1) rfl
  have cw02 := kw0.cell (i := 2) rfl
  replace kg0 := kg0.below bl (by omega)
  clear cg00 cg01 cg02
  have cg00 := kg0.cell (i := 0) rfl
  have cg01 := kg0.cell (i := 1) rfl
  have cg02 := kg0.cell (i := 2) rfl
  replace frm := frm.trans (bl.mono (by omega))
  clear bl
  go_wp2_with fail
  go_at_call 47
  refine (toByteS sB fB).mono ?_
  rintro e w6 ⟨u6, rfl, r6, bl⟩
  have z6 := bl.size
  replace sB := ByteSI_below sB bl (by omega)
  replace r2 := CodedPacketO_below r2 bl (by omega)
  replace r3 := ByteSO_below r3 bl (by omega)
  replace r4 := CodedPacketO_below r4 bl (by omega)
  replace kw0 := kw0.below bl (by omega)
  clear cw00 cw01 cw02
  have cw00 := kw0.cell (i := 0) rfl
  have cw01 := kw0.cell (i := 1) rfl
  have cw02 := kw0.cell (i := 2) rfl
  replace kg0 := kg0.below bl (by omega)
  clear cg00 cg01 cg02
  have cg00 := kg0.cell (i := 0) rfl
  have cg01 := kg0.cell (i := 1) rfl
  have cg02 := kg0.cell (i := 2) rfl
  replace frm := frm.trans (bl.mono (by omega))
  clear bl
  go_wp2_with fail
  go_at_call 44
  refine (eqByteS (ByteSO_is r3) (ByteSO_is r6) fB rfl).mono ?_
  rintro e w7 ⟨rfl, bl⟩
  have z7 := bl.size
  replace sB := ByteSI_below sB bl (by omega)
  replace r2 := CodedPacketO_below r2 bl (by omega)
  replace r3 := ByteSO_below r3 bl (by omega)
  replace r4 := CodedPacketO_below r4 bl (by omega)
  replace kw0 := kw0.below bl (by omega)
  clear cw00 cw01 cw02
  have cw00 := kw0.cell (i := 0) rfl
  have cw01 := kw0.cell (i := 1) rfl
  have cw02 := kw0.cell (i := 2) rfl
  replace kg0 := kg0.below bl (by omega)
  clear cg00 cg01 cg02
  have cg00 := kg0.cell (i := 0) rfl
  have cg01 := kg0.cell (i := 1) rfl
  have cg02 := kg0.cell (i := 2) rfl
  replace frm := frm.trans (bl.mono (by omega))
  clear bl
  clear r6
  go_wp2_with fail
  go_at_call 45
  refine (markByteS r3 fB (1) (by omega) (by omega)).mono ?_
  rintro e w8 ⟨rfl, new, mv⟩
  have z8 := mv.size
  replace sB := ByteSI_mv sB mv (by omega)
  replace r2 := CodedPacketO_mv r2 mv (by omega)
  replace r4 := CodedPacketO_mv r4 mv (by omega)
  replace kw0 := kw0.mv mv (by omega)
  clear cw00 cw01 cw02
  have cw00 := kw0.cell (i := 0) rfl
  have cw01 := kw0.cell (i := 1) rfl
  have cw02 := kw0.cell (i := 2) rfl
  replace kg0 := kg0.mv mv (by omega)
  clear cg00 cg01 cg02
  have cg00 := kg0.cell (i := 0) rfl
  have cg01 := kg0.cell (i := 1) rfl
  have cg02 := kg0.cell (i := 2) rfl
  replace frm := frm.trans (mv.below (by omega) (by omega))
  clear new mv
  clear r3
  go_wp2_with fail
  go_at_call 24
  refine (eqCodedPacket (CodedPacketO_is r4) (CodedPacketO_is r2) hfit rfl).mono ?_
  rintro e w9 ⟨rfl, bl⟩
  have z9 := bl.size
  replace sB := ByteSI_below sB bl (by omega)
  replace r2 := CodedPacketO_below r2 bl (by omega)
  replace r4 := CodedPacketO_below r4 bl (by omega)
  replace kw0 := kw0.below bl (by omega)
  clear cw00 cw01 cw02
  have cw00 := kw0.cell (i := 0) rfl
  have cw01 := kw0.cell (i := 1) rfl
  have cw02 := kw0.cell (i := 2) rfl
  replace kg0 := kg0.below bl (by omega)
  clear cg00 cg01 cg02
  have cg00 := kg0.cell (i := 0) rfl
  have cg01 := kg0.cell (i := 1) rfl
  have cg02 := kg0.cell (i := 2) rfl
  replace frm := frm.trans (bl.mono (by omega))
  clear bl
  go_wp2_with fail
  go_at_call 31
  refine (markCodedPacket r4 hfit (1) (by omega) (by omega)).mono ?_
  rintro e w10 ⟨rfl, new, mv⟩
  have z10 := mv.size
  replace sB := ByteSI_mv sB mv (by omega)
  replace r2 := CodedPacketO_mv r2 mv (by omega)
  replace kw0 := kw0.mv mv (by omega)
  clear cw00 cw01 cw02
  have cw00 := kw0.cell (i := 0) rfl
  have cw01 := kw0.cell (i := 1) rfl
  have cw02 := kw0.cell (i := 2) rfl
  replace kg0 := kg0.mv mv (by omega)
  clear cg00 cg01 cg02
  have cg00 := kg0.cell (i := 0) rfl
  have cg01 := kg0.cell (i := 1) rfl
  have cg02 := kg0.cell (i := 2) rfl
  replace frm := frm.trans (mv.below (by omega) (by omega))
  have r4m := new
  clear new mv
  go_wp2_with fail
  go_at_call 32
  refine (heldCodedPacket (1) (CodedPacketO_is r4m) hfit (by omega) (by omega)).mono ?_
  rintro e w11 ⟨rfl, bl⟩
  have z11 := bl.size
  replace sB := ByteSI_below sB bl (by omega)
  replace r2 := CodedPacketO_below r2 bl (by omega)
  replace r4m := CodedPacketO_below r4m bl (by omega)
  replace kw0 := kw0.below bl (by omega)
  clear cw00 cw01 cw02
  have cw00 := kw0.cell (i := 0) rfl
  have cw01 := kw0.cell (i := 1) rfl
  have cw02 := kw0.cell (i := 2) rfl
  replace kg0 := kg0.below bl (by omega)
  clear cg00 cg01 cg02
  have cg00 := kg0.cell (i := 0) rfl
  have cg01 := kg0.cell (i := 1) rfl
  have cg02 := kg0.cell (i := 2) rfl
  replace frm := frm.trans (bl.mono (by omega))
  clear bl
  go_wp2_with fail
  go_at_call 47
  refine (toByteS sB fB).mono ?_
  rintro e w12 ⟨u12, rfl, r12, bl⟩
  have z12 := bl.size
  replace r2 := CodedPacketO_below r2 bl (by omega)
  replace r4m := CodedPacketO_below r4m bl (by omega)
  replace kw0 := kw0.below bl (by omega)
  clear cw00 cw01 cw02
  have cw00 := kw0.cell (i := 0) rfl
  have cw01 := kw0.cell (i := 1) rfl
  have cw02 := kw0.cell (i := 2) rfl
  replace kg0 := kg0.below bl (by omega)
  clear cg00 cg01 cg02
  have cg00 := kg0.cell (i := 0) rfl
  have cg01 := kg0.cell (i := 1) rfl
  have cg02 := kg0.cell (i := 2) rfl
  replace frm := frm.trans (bl.mono (by omega))
  clear bl
  go_wp2_with fail
  go_at_call 14
  refine (HI.out _ _ _ _ (ByteSO_is r12)).mono ?_
  rintro e w13 ⟨u13, rfl, r13, bl⟩
  have z13 := bl.size
  replace r2 := CodedPacketO_below r2 bl (by omega)
  replace r4m := CodedPacketO_below r4m bl (by omega)
  replace kw0 := kw0.below bl (by omega)
  clear cw00 cw01 cw02
  have cw00 := kw0.cell (i := 0) rfl
  have cw01 := kw0.cell (i := 1) rfl
  have cw02 := kw0.cell (i := 2) rfl
  replace kg0 := kg0.below bl (by omega)
  clear cg00 cg01 cg02
  have cg00 := kg0.cell (i := 0) rfl
  have cg01 := kg0.cell (i := 1) rfl
  have cg02 := kg0.cell (i := 2) rfl
  replace frm := frm.trans (bl.mono (by omega))
  clear bl
  obtain ⟨ad1_13, n1_13, cap1_13, ad2_13, n2_13, cap2_13, rfl, hw0_13, r13⟩ := CodedPacketO_cells r13
  have kh0 := Bx.new w13 [.int .i64 f0_R, .slice ad1_13 n1_13 cap1_13, .slice ad2_13 n2_13 cap2_13] 26
  have hb := below_box w13 (.cells #[.int .i64 f0_R, .slice ad1_13 n1_13 cap1_13, .slice ad2_13 n2_13 cap2_13] 26)
  have zb13 : (w13.alloc (.cells #[.int .i64 f0_R, .slice ad1_13 n1_13 cap1_13, .slice ad2_13 n2_13 cap2_13] 26)).heap.size = w13.heap.size + 1 := by simp
  replace r2 := CodedPacketO_below r2 hb (.inr (Nat.le_refl _))
  replace r4m := CodedPacketO_below r4m hb (.inr (Nat.le_refl _))
  replace r13 := CodedPacketO_below r13 hb (.inr (Nat.le_refl _))
  replace kw0 := kw0.alloc (.cells #[.int .i64 f0_R, .slice ad1_13 n1_13 cap1_13, .slice ad2_13 n2_13 cap2_13] 26)
  clear cw00 cw01 cw02
  have cw00 := kw0.cell (i := 0) rfl
  have cw01 := kw0.cell (i := 1) rfl
  have cw02 := kw0.cell (i := 2) rfl
  replace kg0 := kg0.alloc (.cells #[.int .i64 f0_R, .slice ad1_13 n1_13 cap1_13, .slice ad2_13 n2_13 cap2_13] 26)
  clear cg00 cg01 cg02
  have cg00 := kg0.cell (i := 0) rfl
  have cg01 := kg0.cell (i := 1) rfl
  have cg02 := kg0.cell (i := 2) rfl
  replace frm := frm.trans (hb.mono (by omega))
  clear hb
  have ch00 := kh0.cell (i := 0) rfl
  have ch01 := kh0.cell (i := 1) rfl
  have ch02 := kh0.cell (i := 2) rfl
  clear r12
  go_wp2_with fail
  go_at_call 24
  generalize w13.alloc (.cells #[.int .i64 f0_R, .slice ad1_13 n1_13 cap1_13, .slice ad2_13 n2_13 cap2_13] 26) = y2 at *
  refine (eqCodedPacket (CodedPacketO_is r13) (CodedPacketO_is r2) hfit rfl).mono ?_
  rintro e w14 ⟨rfl, bl⟩
  have z14 := bl.size
  replace r4m := CodedPacketO_below r4m bl (by omega)
  replace kw0 := kw0.below bl (by omega)
  clear cw00 cw01 cw02
  have cw00 := kw0.cell (i := 0) rfl
  have cw01 := kw0.cell (i := 1) rfl
  have cw02 := kw0.cell (i := 2) rfl
  replace kg0 := kg0.below bl (by omega)
  clear cg00 cg01 cg02
  have cg00 := kg0.cell (i := 0) rfl
  have cg01 := kg0.cell (i := 1) rfl
  have cg02 := kg0.cell (i := 2) rfl
  replace kh0 := kh0.below bl (by omega)
  clear ch00 ch01 ch02
  have ch00 := kh0.cell (i := 0) rfl
  have ch01 := kh0.cell (i := 1) rfl
  have ch02 := kh0.cell (i := 2) rfl
  replace frm := frm.trans (bl.mono (by omega))
  clear bl
  clear r2
  clear r13
  go_wp2_with fail
  go_at_call 32
  refine (heldCodedPacket (1) (CodedPacketO_is r4m) hfit (by omega) (by omega)).mono ?_
  rintro e w15 ⟨rfl, bl⟩
  have z15 := bl.size
  replace kw0 := kw0.below bl (by omega)
  clear cw00 cw01 cw02
  have cw00 := kw0.cell (i := 0) rfl
  have cw01 := kw0.cell (i := 1) rfl
  have cw02 := kw0.cell (i := 2) rfl
  replace kg0 := kg0.below bl (by omega)
  clear cg00 cg01 cg02
  have cg00 := kg0.cell (i := 0) rfl
  have cg01 := kg0.cell (i := 1) rfl
  have cg02 := kg0.cell (i := 2) rfl
  replace kh0 := kh0.below bl (by omega)
  clear ch00 ch01 ch02
  have ch00 := kh0.cell (i := 0) rfl
  have ch01 := kh0.cell (i := 1) rfl
  have ch02 := kh0.cell (i := 2) rfl
  replace frm := frm.trans (bl.mono (by omega))
  clear bl
  clear r4m
  go_wp2
  go_ret
  exact ⟨rfl, frm⟩

set_option maxRecDepth 100000 in
set_option maxHeartbeats 1600000 in
theorem exactIsZeroPacket (w : World) (vP : Value) (iaP : ∃ x, CodedPacketI w 0 w.heap.size vP x) :
    Calls Try.prog 10 #[vP] w fun e w' => e = .returned (.bool true) ∧ Below w.heap.size w w' := by
  obtain ⟨⟨f0_P, f1_P, f2_P⟩, sP⟩ := iaP
  obtain ⟨ad1_P, n1_P, cap1_P, ad2_P, n2_P, cap2_P, rfl, hw0_P, sP⟩ := CodedPacketI_cells sP
  have frm := Below.refl w.heap.size w
  have kP := Bx.new w [.int .i64 f0_P, .slice ad1_P n1_P cap1_P, .slice ad2_P n2_P cap2_P] 34
  replace frm := frm.alloc (by first | exact Nat.le_refl _ | (simp; done) | (simp; omega)) (.cells #[.int .i64 f0_P, .slice ad1_P n1_P cap1_P, .slice ad2_P n2_P cap2_P] 34)
  replace sP := CodedPacketI_below sP frm (.inr (Nat.le_refl _))
  have cP0 := kP.cell (i := 0) rfl
  have cP1 := kP.cell (i := 1) rfl
  have cP2 := kP.cell (i := 2) rfl
  have zw : (w.alloc (.cells #[.int .i64 f0_P, .slice ad1_P n1_P cap1_P, .slice ad2_P n2_P cap2_P] 34)).heap.size = w.heap.size + 1 := by simp
  go_enter Try.func10, Try.ntmps10
  go_wp2_with fail
  go_at_call 20
  generalize w.alloc (.cells #[.int .i64 f0_P, .slice ad1_P n1_P cap1_P, .slice ad2_P n2_P cap2_P] 34) = y0 at *
  refine (szCodedPacket sP 1048576 (by omega) (by omega)).mono ?_
  rintro e wsP ⟨leftP, rfl, leP, riP, fP, bl⟩
  have zsP := bl.size
  replace sP := CodedPacketI_below sP bl (by omega)
  replace kP := kP.below bl (by omega)
  clear cP0 cP1 cP2
  have cP0 := kP.cell (i := 0) rfl
  have cP1 := kP.cell (i := 1) rfl
  have cP2 := kP.cell (i := 2) rfl
  replace frm := frm.trans (bl.mono (by omega))
  clear bl
  by_cases hlP : 0 ≤ leftP
  case neg =>
    clear fP
    go_wp2
    go_ret
    exact ⟨rfl, frm⟩
  replace fP := fP hlP
  have cS := fun (w' : World) (lP hP : Nat) (uP : Value) (sP : CodedPacketI w' lP hP uP (f0_P, f1_P, f2_P)) => PktW.zeroS w' sP fP
  have cI := fun (w' : World) (lP hP : Nat) (uP : Value) (sP : CodedPacketI w' lP hP uP (f0_P, f1_P, f2_P)) => PktI.zero w' sP fP
  try dsimp only at cS cI
  generalize hR : (Pkt.zeroP (f0_P, f1_P, f2_P)) = R at cS cI
  clear hR
  have HS := Lib.hid cS
  have HI := Lib.hid cI
  clear cS cI
  have hkP := CodedPacketC_le fP
  go_wp2_with fail
  go_at_call 22
  refine (toCodedPacket sP fP).mono ?_
  rintro e w1 ⟨u1, rfl, r1, bl⟩
  have z1 := bl.size
  replace sP := CodedPacketI_below sP bl (by omega)
  replace kP := kP.below bl (by omega)
  clear cP0 cP1 cP2
  have cP0 := kP.cell (i := 0) rfl
  have cP1 := kP.cell (i := 1) rfl
  have cP2 := kP.cell (i := 2) rfl
  replace frm := frm.trans (bl.mono (by omega))
  clear bl
  obtain ⟨ad1_1, n1_1, cap1_1, ad2_1, n2_1, cap2_1, rfl, hw0_1, r1⟩ := CodedPacketO_cells r1
  go_wp2_with fail
  go_at_call 48
  refine (HS.out _ _ _ _ (CodedPacketO_is r1)).mono ?_
  rintro e w2 ⟨rfl, bl⟩
  have z2 := bl.size
  replace sP := CodedPacketI_below sP bl (by omega)
  replace kP := kP.below bl (by omega)
  clear cP0 cP1 cP2
  have cP0 := kP.cell (i := 0) rfl
  have cP1 := kP.cell (i := 1) rfl
  have cP2 := kP.cell (i := 2) rfl
  replace frm := frm.trans (bl.mono (by omega))
  clear bl
  clear r1
  go_wp2_with fail
  go_at_call 22
  refine (toCodedPacket sP fP).mono ?_
  rintro e w3 ⟨u3, rfl, r3, bl⟩
  have z3 := bl.size
  replace sP := CodedPacketI_below sP bl (by omega)
  replace kP := kP.below bl (by omega)
  clear cP0 cP1 cP2
  have cP0 := kP.cell (i := 0) rfl
  have cP1 := kP.cell (i := 1) rfl
  have cP2 := kP.cell (i := 2) rfl
  replace frm := frm.trans (bl.mono (by omega))
  clear bl
  obtain ⟨ad1_3, n1_3, cap1_3, ad2_3, n2_3, cap2_3, rfl, hw0_3, r3⟩ := CodedPacketO_cells r3
  have kx0 := Bx.new w3 [.int .i64 f0_P, .slice ad1_3 n1_3 cap1_3, .slice ad2_3 n2_3 cap2_3] 26
  have hb := below_box w3 (.cells #[.int .i64 f0_P, .slice ad1_3 n1_3 cap1_3, .slice ad2_3 n2_3 cap2_3] 26)
  have zb3 : (w3.alloc (.cells #[.int .i64 f0_P, .slice ad1_3 n1_3 cap1_3, .slice ad2_3 n2_3 cap2_3] 26)).heap.size = w3.heap.size + 1 := by simp
  replace sP := CodedPacketI_below sP hb (.inr (Nat.le_refl _))
  replace r3 := CodedPacketO_below r3 hb (.inr (Nat.le_refl _))
  replace kP := kP.alloc (.cells #[.int .i64 f0_P, .slice ad1_3 n1_3 cap1_3, .slice ad2_3 n2_3 cap2_3] 26)
  clear cP0 cP1 cP2
  have cP0 := kP.cell (i := 0) rfl
  have cP1 := kP.cell (i := 1) rfl
  have cP2 := kP.cell (i := 2) rfl
  replace frm := frm.trans (hb.mono (by omega))
  clear hb
  have cx00 := kx0.cell (i := 0) rfl
  have cx01 := kx0.cell (i := 1) rfl
  have cx02 := kx0.cell (i := 2) rfl
  go_wp2_with fail
  go_at_call 49
  generalize w3.alloc (.cells #[.int .i64 f0_P, .slice ad1_3 n1_3 cap1_3, .slice ad2_3 n2_3 cap2_3] 26) = y1 at *
  refine (HI.out _ _ _ _ (CodedPacketO_is r3)).mono ?_
  rintro e w4 ⟨rfl, bl⟩
  have z4 := bl.size
  replace sP := CodedPacketI_below sP bl (by omega)
  replace r3 := CodedPacketO_below r3 bl (by omega)
  replace kP := kP.below bl (by omega)
  clear cP0 cP1 cP2
  have cP0 := kP.cell (i := 0) rfl
  have cP1 := kP.cell (i := 1) rfl
  have cP2 := kP.cell (i := 2) rfl
  replace kx0 := kx0.below bl (by omega)
  clear cx00 cx01 cx02
  have cx00 := kx0.cell (i := 0) rfl
  have cx01 := kx0.cell (i := 1) rfl
  have cx02 := kx0.cell (i := 2) rfl
  replace frm := frm.trans (bl.mono (by omega))
  clear bl
  go_wp2
  replace sP := CodedPacketI_mv sP (Mv.drew (Mv.refl w4 0 0)) (.inr (Nat.zero_le _))
  replace r3 := CodedPacketO_mv r3 (Mv.drew (Mv.refl w4 0 0)) (.inr (Nat.zero_le _))
  replace kP := kP.drew
  clear cP0 cP1 cP2
  have cP0 := kP.cell (i := 0) rfl
  have cP1 := kP.cell (i := 1) rfl
  have cP2 := kP.cell (i := 2) rfl
  replace kx0 := kx0.drew
  clear cx00 cx01 cx02
  have cx00 := kx0.cell (i := 0) rfl
  have cx01 := kx0.cell (i := 1) rfl
  have cx02 := kx0.cell (i := 2) rfl
  replace frm := frm.drew
  have zd : w4.heap.size = w4.drew.heap.size := rfl
  refine wp_region_held (S := fun w' => w'.cell? ⟨w.heap.size, 0, none⟩ = some (.int .i64 f0_P) ∧ w'.cell? ⟨w.heap.size, 1, none⟩ = some (.slice ad1_P n1_P cap1_P) ∧ w'.cell? ⟨w.heap.size, 2, none⟩ = some (.slice ad2_P n2_P cap2_P) ∧ w'.cell? ⟨w3.heap.size, 0, none⟩ = some (.int .i64 f0_P) ∧ w'.cell? ⟨w3.heap.size, 1, none⟩ = some (.slice ad1_3 n1_3 cap1_3) ∧ w'.cell? ⟨w3.heap.size, 2, none⟩ = some (.slice ad2_3 n2_3 cap2_3)) (by kernel_rfl) ?_
  change wpAnyH _ _ _ _ _ _ _ _ w4.drew
  generalize w4.drew = d0 at *
  have HH := Lib.hid (show d0.cell? ⟨w.heap.size, 0, none⟩ = some (.int .i64 f0_P) ∧ d0.cell? ⟨w.heap.size, 1, none⟩ = some (.slice ad1_P n1_P cap1_P) ∧ d0.cell? ⟨w.heap.size, 2, none⟩ = some (.slice ad2_P n2_P cap2_P) ∧ d0.cell? ⟨w3.heap.size, 0, none⟩ = some (.int .i64 f0_P) ∧ d0.cell? ⟨w3.heap.size, 1, none⟩ = some (.slice ad1_3 n1_3 cap1_3) ∧ d0.cell? ⟨w3.heap.size, 2, none⟩ = some (.slice ad2_3 n2_3 cap2_3) from ⟨cP0, cP1, cP2, cx00, cx01, cx02⟩)
  refine wpAnyH_take (i := 0) (oi := ⟨some _, _, _, _, _, _⟩) (v := ?_) rfl (by kernel_rfl) (by kernel_rfl) (by kernel_rfl) (fun _ _ _ h => h) (Or.inl ⟨by rfl, ?_⟩) HH.out ?_
  rotate_left
  · intro wS hSw
    try dsimp only at hSw
    go_simp
    all_goals (with_reducible rfl)
  simp only [Act.put, List.setIfInBounds_toArray, List.set_cons_zero, List.set_cons_succ]
  refine wpAnyH_take (i := 1) (oi := ⟨some _, _, _, _, _, _⟩) (v := ?_) rfl (by kernel_rfl) (by kernel_rfl) (by kernel_rfl) (fun _ _ _ h => h) (Or.inl ⟨by rfl, ?_⟩) HH.out ?_
  rotate_left
  · intro wS hSw
    try dsimp only at hSw
    go_simp
    all_goals (with_reducible rfl)
  simp only [Act.put, List.setIfInBounds_toArray, List.set_cons_zero, List.set_cons_succ]
  clear HH
  refine wpAnyH_ready (rs := [2]) (by kernel_rfl) (by simp) ?_
  refine AllReadyH.cons (o := ⟨some _, _, _, _, _, _⟩) rfl (fun Kq hKq => ?_) AllReadyH.nil
  go_simp
  refine (toCodedPacket sP fP).mono ?_
  rintro e w5 ⟨u5, rfl, r5, bl⟩
  have z5 := bl.size
  replace r3 := CodedPacketO_below r3 bl (by omega)
  replace kP := kP.below bl (by omega)
  clear cP0 cP1 cP2
  have cP0 := kP.cell (i := 0) rfl
  have cP1 := kP.cell (i := 1) rfl
  have cP2 := kP.cell (i := 2) rfl
  replace kx0 := kx0.below bl (by omega)
  clear cx00 cx01 cx02
  have cx00 := kx0.cell (i := 0) rfl
  have cx01 := kx0.cell (i := 1) rfl
  have cx02 := kx0.cell (i := 2) rfl
  replace frm := frm.trans (bl.mono (by omega))
  clear bl
  obtain ⟨ad1_5, n1_5, cap1_5, ad2_5, n2_5, cap2_5, rfl, hw0_5, r5⟩ := CodedPacketO_cells r5
  have HH := Lib.hid (show w5.cell? ⟨w.heap.size, 0, none⟩ = some (.int .i64 f0_P) ∧ w5.cell? ⟨w.heap.size, 1, none⟩ = some (.slice ad1_P n1_P cap1_P) ∧ w5.cell? ⟨w.heap.size, 2, none⟩ = some (.slice ad2_P n2_P cap2_P) ∧ w5.cell? ⟨w3.heap.size, 0, none⟩ = some (.int .i64 f0_P) ∧ w5.cell? ⟨w3.heap.size, 1, none⟩ = some (.slice ad1_3 n1_3 cap1_3) ∧ w5.cell? ⟨w3.heap.size, 2, none⟩ = some (.slice ad2_3 n2_3 cap2_3) from ⟨cP0, cP1, cP2, cx00, cx01, cx02⟩)
  refine hKq.out _ _ HH.out (fun _ => ?_)
  clear hKq Kq
  clear HH
  refine wpAnyH_ready (rs := [3]) (by kernel_rfl) (by simp) ?_
  refine AllReadyH.cons (o := ⟨some _, _, _, _, _, _⟩) rfl (fun Kq hKq => ?_) AllReadyH.nil
  go_simp
  refine (eqCodedPacket (CodedPacketO_is r3) (CodedPacketO_is r5) fP rfl).mono ?_
  rintro e w6 ⟨rfl, bl⟩
  have z6 := bl.size
  replace kP := kP.below bl (by omega)
  clear cP0 cP1 cP2
  have cP0 := kP.cell (i := 0) rfl
  have cP1 := kP.cell (i := 1) rfl
  have cP2 := kP.cell (i := 2) rfl
  replace kx0 := kx0.below bl (by omega)
  clear cx00 cx01 cx02
  have cx00 := kx0.cell (i := 0) rfl
  have cx01 := kx0.cell (i := 1) rfl
  have cx02 := kx0.cell (i := 2) rfl
  replace frm := frm.trans (bl.mono (by omega))
  clear bl
  have HH := Lib.hid (show w6.cell? ⟨w.heap.size, 0, none⟩ = some (.int .i64 f0_P) ∧ w6.cell? ⟨w.heap.size, 1, none⟩ = some (.slice ad1_P n1_P cap1_P) ∧ w6.cell? ⟨w.heap.size, 2, none⟩ = some (.slice ad2_P n2_P cap2_P) ∧ w6.cell? ⟨w3.heap.size, 0, none⟩ = some (.int .i64 f0_P) ∧ w6.cell? ⟨w3.heap.size, 1, none⟩ = some (.slice ad1_3 n1_3 cap1_3) ∧ w6.cell? ⟨w3.heap.size, 2, none⟩ = some (.slice ad2_3 n2_3 cap2_3) from ⟨cP0, cP1, cP2, cx00, cx01, cx02⟩)
  refine hKq.out _ _ HH.out (fun _ => ?_)
  clear hKq Kq
  try simp only [Act.put, List.setIfInBounds_toArray, List.set_cons_zero, List.set_cons_succ]
  refine wpAnyH_take (i := 4) (oi := ⟨some _, _, _, _, _, _⟩) (v := ?_) rfl (by kernel_rfl) (by kernel_rfl) (by kernel_rfl) (fun _ _ _ h => h) (Or.inl ⟨by rfl, ?_⟩) HH.out ?_
  rotate_left
  · intro wS hSw
    try dsimp only at hSw
    go_simp
    all_goals (with_reducible rfl)
  simp only [Act.put, List.setIfInBounds_toArray, List.set_cons_zero, List.set_cons_succ]
  refine wpAnyH_done (by kernel_rfl) ?_ _
  clear HH
  clear r3
  clear r5
  go_wp2
  go_ret
  exact ⟨rfl, frm⟩


end Go.Proofs.Ytkhfkccbnhjmjaa.LawPktEx
