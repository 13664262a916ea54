/-
  Exact laws walked, over the contracts of what they call.
-/
import Derived.Test.YtkhfkccbnhjmjaaDoorGM
import Derived.Test.YtkhfkccbnhjmjaaDoorGF
import Derived.Test.YtkhfkccbnhjmjaaDoorGN
import Derived.Test.YtkhfkccbnhjmjaaDoorGA
import Derived.Deep.DeepCutAuto
namespace Go.Proofs.YtkhfkccbnhjmjaaDoor.LawPktEx
open Go.ChangeShapes Go.WideShapes Go.ChangeAt Go.RowKit
open Go.Proofs.YtkhfkccbnhjmjaaDoor.Drawn Go.Proofs.YtkhfkccbnhjmjaaDoor.Seq Go.Proofs.YtkhfkccbnhjmjaaDoor.Help Go.Proofs.YtkhfkccbnhjmjaaDoor.Shape Go.Proofs.YtkhfkccbnhjmjaaDoor.Deep




set_option maxRecDepth 100000 in
set_option maxHeartbeats 1600000 in
theorem exactIsConsistent (w : World) (vG : Value) (iaG : ∃ x, GenerationI w 0 w.heap.size vG x) (vP : Value) (iaP : ∃ x, CodedPacketI w 0 w.heap.size vP x) (hTab : PktW.Tab w) :
    Calls Tryd.prog 5 #[vG, vP] w fun e w' => e = .returned (.bool true) ∧ Below w.heap.size w w' := by
  obtain ⟨⟨f0_G, f1_G⟩, sG⟩ := iaG
  obtain ⟨ad1_G, n1_G, cap1_G, rfl, hw0_G, sG⟩ := GenerationI_cells sG
  obtain ⟨⟨f0_P, f1_P, f2_P⟩, sP⟩ := iaP
  obtain ⟨ad1_P, n1_P, cap1_P, ad2_P, n2_P, cap2_P, rfl, hw0_P, sP⟩ := CodedPacketI_cells sP
  have frm := Below.refl w.heap.size w
  have kG := Bx.new w [.int .i64 f0_G, .slice ad1_G n1_G cap1_G] 52
  replace frm := frm.alloc (by first | exact Nat.le_refl _ | (simp; done) | (simp; omega)) (.cells #[.int .i64 f0_G, .slice ad1_G n1_G cap1_G] 52)
  have kP := Bx.new (w.alloc (.cells #[.int .i64 f0_G, .slice ad1_G n1_G cap1_G] 52)) [.int .i64 f0_P, .slice ad1_P n1_P cap1_P, .slice ad2_P n2_P cap2_P] 53
  rw [World.size_alloc] at kP
  replace kG := kG.alloc (.cells #[.int .i64 f0_P, .slice ad1_P n1_P cap1_P, .slice ad2_P n2_P cap2_P] 53)
  replace frm := frm.alloc (by first | exact Nat.le_refl _ | (simp; done) | (simp; omega)) (.cells #[.int .i64 f0_P, .slice ad1_P n1_P cap1_P, .slice ad2_P n2_P cap2_P] 53)
  replace sG := GenerationI_below sG frm (.inr (Nat.le_refl _))
  replace sP := CodedPacketI_below sP frm (.inr (Nat.le_refl _))
  have cG0 := kG.cell (i := 0) rfl
  have cG1 := kG.cell (i := 1) rfl
  have cP0 := kP.cell (i := 0) rfl
  have cP1 := kP.cell (i := 1) rfl
  have cP2 := kP.cell (i := 2) rfl
  have zw : ((w.alloc (.cells #[.int .i64 f0_G, .slice ad1_G n1_G cap1_G] 52)).alloc (.cells #[.int .i64 f0_P, .slice ad1_P n1_P cap1_P, .slice ad2_P n2_P cap2_P] 53)).heap.size = w.heap.size + 1 + 1 := by simp
  go_enter Tryd.func5, Tryd.ntmps5
  go_wp2_with fail
  go_at_call 26
  generalize (w.alloc (.cells #[.int .i64 f0_G, .slice ad1_G n1_G cap1_G] 52)).alloc (.cells #[.int .i64 f0_P, .slice ad1_P n1_P cap1_P, .slice ad2_P n2_P cap2_P] 53) = y0 at *
  refine (szGeneration sG 1048576 (by omega) (by omega)).mono ?_
  rintro e wsG ⟨leftG, rfl, leG, riG, fG, bl⟩
  have zsG := bl.size
  replace sG := GenerationI_below sG bl (by omega)
  replace sP := CodedPacketI_below sP bl (by omega)
  replace kG := kG.below bl (by omega)
  clear cG0 cG1
  have cG0 := kG.cell (i := 0) rfl
  have cG1 := kG.cell (i := 1) rfl
  replace kP := kP.below bl (by omega)
  clear cP0 cP1 cP2
  have cP0 := kP.cell (i := 0) rfl
  have cP1 := kP.cell (i := 1) rfl
  have cP2 := kP.cell (i := 2) rfl
  replace frm := frm.trans (bl.mono (by omega))
  clear bl
  by_cases hlG : 0 ≤ leftG
  case neg =>
    clear fG
    go_wp2
    go_ret
    exact ⟨rfl, frm⟩
  replace fG := fG hlG
  go_wp2_with fail
  go_at_call 27
  refine (szCodedPacket sP leftG (by omega) (by omega)).mono ?_
  rintro e wsP ⟨leftP, rfl, leP, riP, fP, bl⟩
  have zsP := bl.size
  replace sG := GenerationI_below sG bl (by omega)
  replace sP := CodedPacketI_below sP bl (by omega)
  replace kG := kG.below bl (by omega)
  clear cG0 cG1
  have cG0 := kG.cell (i := 0) rfl
  have cG1 := kG.cell (i := 1) rfl
  replace kP := kP.below bl (by omega)
  clear cP0 cP1 cP2
  have cP0 := kP.cell (i := 0) rfl
  have cP1 := kP.cell (i := 1) rfl
  have cP2 := kP.cell (i := 2) rfl
  replace frm := frm.trans (bl.mono (by omega))
  clear bl
  by_cases hlP : 0 ≤ leftP
  case neg =>
    clear fP
    go_wp2
    go_ret
    exact ⟨rfl, frm⟩
  replace fP := fP hlP
  have cS := fun (w' : World) (lG hG : Nat) (uG : Value) (sG : GenerationI w' lG hG uG (f0_G, f1_G)) (lP hP : Nat) (uP : Value) (sP : CodedPacketI w' lP hP uP (f0_P, f1_P, f2_P)) => PktW.consS w' sG fG sP fP
  have cI := fun (w' : World) (hT : PktW.Tab w') (lG hG : Nat) (uG : Value) (sG : GenerationI w' lG hG uG (f0_G, f1_G)) (lP hP : Nat) (uP : Value) (sP : CodedPacketI w' lP hP uP (f0_P, f1_P, f2_P)) => PktI.cons w' hT sG fG sP fP
  try dsimp only at cS cI
  generalize hR : (Pkt.consP (f0_G, f1_G) (f0_P, f1_P, f2_P)) = R at cS cI
  clear hR
  have HS := Lib.hid cS
  have HI := Lib.hid cI
  clear cS cI
  have hkG := GenerationC_le fG
  have hkP := CodedPacketC_le fP
  go_wp2
  replace sG := GenerationI_mv sG (Mv.drew (Mv.refl wsP 0 0)) (.inr (Nat.zero_le _))
  replace sP := CodedPacketI_mv sP (Mv.drew (Mv.refl wsP 0 0)) (.inr (Nat.zero_le _))
  replace kG := kG.drew
  clear cG0 cG1
  have cG0 := kG.cell (i := 0) rfl
  have cG1 := kG.cell (i := 1) rfl
  replace kP := kP.drew
  clear cP0 cP1 cP2
  have cP0 := kP.cell (i := 0) rfl
  have cP1 := kP.cell (i := 1) rfl
  have cP2 := kP.cell (i := 2) rfl
  replace frm := frm.drew
  have zd : wsP.heap.size = wsP.drew.heap.size := rfl
  refine wp_region_held (S := fun w' => w'.cell? ⟨w.heap.size, 0, none⟩ = some (.int .i64 f0_G) ∧ w'.cell? ⟨w.heap.size, 1, none⟩ = some (.slice ad1_G n1_G cap1_G) ∧ w'.cell? ⟨w.heap.size + 1, 0, none⟩ = some (.int .i64 f0_P) ∧ w'.cell? ⟨w.heap.size + 1, 1, none⟩ = some (.slice ad1_P n1_P cap1_P) ∧ w'.cell? ⟨w.heap.size + 1, 2, none⟩ = some (.slice ad2_P n2_P cap2_P)) (by kernel_rfl) ?_
  change wpAnyH _ _ _ _ _ _ _ _ wsP.drew
  generalize wsP.drew = d0 at *
  have HH := Lib.hid (show d0.cell? ⟨w.heap.size, 0, none⟩ = some (.int .i64 f0_G) ∧ d0.cell? ⟨w.heap.size, 1, none⟩ = some (.slice ad1_G n1_G cap1_G) ∧ d0.cell? ⟨w.heap.size + 1, 0, none⟩ = some (.int .i64 f0_P) ∧ d0.cell? ⟨w.heap.size + 1, 1, none⟩ = some (.slice ad1_P n1_P cap1_P) ∧ d0.cell? ⟨w.heap.size + 1, 2, none⟩ = some (.slice ad2_P n2_P cap2_P) from ⟨cG0, cG1, cP0, cP1, cP2⟩)
  refine wpAnyH_take (i := 0) (oi := ⟨some _, _, _, _, _, _⟩) (v := ?_) rfl (by kernel_rfl) (by kernel_rfl) (by kernel_rfl) (fun _ _ _ h => h) (Or.inl ⟨by rfl, ?_⟩) HH.out ?_
  rotate_left
  · intro wS hSw
    try dsimp only at hSw
    go_simp
    all_goals (with_reducible rfl)
  simp only [Act.put, List.setIfInBounds_toArray, List.set_cons_zero, List.set_cons_succ]
  refine wpAnyH_take (i := 2) (oi := ⟨some _, _, _, _, _, _⟩) (v := ?_) rfl (by kernel_rfl) (by kernel_rfl) (by kernel_rfl) (fun _ _ _ h => h) (Or.inl ⟨by rfl, ?_⟩) HH.out ?_
  rotate_left
  · intro wS hSw
    try dsimp only at hSw
    go_simp
    all_goals (with_reducible rfl)
  simp only [Act.put, List.setIfInBounds_toArray, List.set_cons_zero, List.set_cons_succ]
  clear HH
  refine wpAnyH_ready (rs := [1]) (by kernel_rfl) (by simp) ?_
  refine AllReadyH.cons (o := ⟨some _, _, _, _, _, _⟩) rfl (fun Kq hKq => ?_) AllReadyH.nil
  go_simp
  refine (toGeneration sG fG).mono ?_
  rintro e w1 ⟨u1, rfl, r1, bl⟩
  have z1 := bl.size
  replace sG := GenerationI_below sG bl (by omega)
  replace sP := CodedPacketI_below sP bl (by omega)
  replace kG := kG.below bl (by omega)
  clear cG0 cG1
  have cG0 := kG.cell (i := 0) rfl
  have cG1 := kG.cell (i := 1) rfl
  replace kP := kP.below bl (by omega)
  clear cP0 cP1 cP2
  have cP0 := kP.cell (i := 0) rfl
  have cP1 := kP.cell (i := 1) rfl
  have cP2 := kP.cell (i := 2) rfl
  replace frm := frm.trans (bl.mono (by omega))
  clear bl
  obtain ⟨ad1_1, n1_1, cap1_1, rfl, hw0_1, r1⟩ := GenerationO_cells r1
  have HH := Lib.hid (show w1.cell? ⟨w.heap.size, 0, none⟩ = some (.int .i64 f0_G) ∧ w1.cell? ⟨w.heap.size, 1, none⟩ = some (.slice ad1_G n1_G cap1_G) ∧ w1.cell? ⟨w.heap.size + 1, 0, none⟩ = some (.int .i64 f0_P) ∧ w1.cell? ⟨w.heap.size + 1, 1, none⟩ = some (.slice ad1_P n1_P cap1_P) ∧ w1.cell? ⟨w.heap.size + 1, 2, none⟩ = some (.slice ad2_P n2_P cap2_P) from ⟨cG0, cG1, cP0, cP1, cP2⟩)
  refine hKq.out _ _ HH.out (fun _ => ?_)
  clear hKq Kq
  clear HH
  refine wpAnyH_ready (rs := [3]) (by kernel_rfl) (by simp) ?_
  refine AllReadyH.cons (o := ⟨some _, _, _, _, _, _⟩) rfl (fun Kq hKq => ?_) AllReadyH.nil
  go_simp
  refine (toCodedPacket sP fP).mono ?_
  rintro e w2 ⟨u2, rfl, r2, bl⟩
  have z2 := bl.size
  replace sG := GenerationI_below sG bl (by omega)
  replace sP := CodedPacketI_below sP bl (by omega)
  replace r1 := GenerationO_below r1 bl (by omega)
  replace kG := kG.below bl (by omega)
  clear cG0 cG1
  have cG0 := kG.cell (i := 0) rfl
  have cG1 := kG.cell (i := 1) rfl
  replace kP := kP.below bl (by omega)
  clear cP0 cP1 cP2
  have cP0 := kP.cell (i := 0) rfl
  have cP1 := kP.cell (i := 1) rfl
  have cP2 := kP.cell (i := 2) rfl
  replace frm := frm.trans (bl.mono (by omega))
  clear bl
  obtain ⟨ad1_2, n1_2, cap1_2, ad2_2, n2_2, cap2_2, rfl, hw0_2, r2⟩ := CodedPacketO_cells r2
  have HH := Lib.hid (show w2.cell? ⟨w.heap.size, 0, none⟩ = some (.int .i64 f0_G) ∧ w2.cell? ⟨w.heap.size, 1, none⟩ = some (.slice ad1_G n1_G cap1_G) ∧ w2.cell? ⟨w.heap.size + 1, 0, none⟩ = some (.int .i64 f0_P) ∧ w2.cell? ⟨w.heap.size + 1, 1, none⟩ = some (.slice ad1_P n1_P cap1_P) ∧ w2.cell? ⟨w.heap.size + 1, 2, none⟩ = some (.slice ad2_P n2_P cap2_P) from ⟨cG0, cG1, cP0, cP1, cP2⟩)
  refine hKq.out _ _ HH.out (fun _ => ?_)
  clear hKq Kq
  clear HH
  refine wpAnyH_ready (rs := [4]) (by kernel_rfl) (by simp) ?_
  refine AllReadyH.cons (o := ⟨some _, _, _, _, _, _⟩) rfl (fun Kq hKq => ?_) AllReadyH.nil
  go_simp
  refine (HS.out _ _ _ _ (GenerationO_is r1) _ _ _ (CodedPacketO_is r2)).mono ?_
  rintro e w3 ⟨rfl, bl⟩
  have z3 := bl.size
  replace sG := GenerationI_below sG bl (by omega)
  replace sP := CodedPacketI_below sP bl (by omega)
  replace kG := kG.below bl (by omega)
  clear cG0 cG1
  have cG0 := kG.cell (i := 0) rfl
  have cG1 := kG.cell (i := 1) rfl
  replace kP := kP.below bl (by omega)
  clear cP0 cP1 cP2
  have cP0 := kP.cell (i := 0) rfl
  have cP1 := kP.cell (i := 1) rfl
  have cP2 := kP.cell (i := 2) rfl
  replace frm := frm.trans (bl.mono (by omega))
  clear bl
  have HH := Lib.hid (show w3.cell? ⟨w.heap.size, 0, none⟩ = some (.int .i64 f0_G) ∧ w3.cell? ⟨w.heap.size, 1, none⟩ = some (.slice ad1_G n1_G cap1_G) ∧ w3.cell? ⟨w.heap.size + 1, 0, none⟩ = some (.int .i64 f0_P) ∧ w3.cell? ⟨w.heap.size + 1, 1, none⟩ = some (.slice ad1_P n1_P cap1_P) ∧ w3.cell? ⟨w.heap.size + 1, 2, none⟩ = some (.slice ad2_P n2_P cap2_P) from ⟨cG0, cG1, cP0, cP1, cP2⟩)
  refine hKq.out _ _ HH.out (fun _ => ?_)
  clear hKq Kq
  try simp only [Act.put, List.setIfInBounds_toArray, List.set_cons_zero, List.set_cons_succ]
  refine wpAnyH_take (i := 5) (oi := ⟨some _, _, _, _, _, _⟩) (v := ?_) rfl (by kernel_rfl) (by kernel_rfl) (by kernel_rfl) (fun _ _ _ h => h) (Or.inl ⟨by rfl, ?_⟩) HH.out ?_
  rotate_left
  · intro wS hSw
    try dsimp only at hSw
    go_simp
    all_goals (with_reducible rfl)
  simp only [Act.put, List.setIfInBounds_toArray, List.set_cons_zero, List.set_cons_succ]
  refine wpAnyH_done (by kernel_rfl) ?_ _
  clear HH
  clear r1
  clear r2
  go_wp2_with fail
  go_at_call 28
  refine (toGeneration sG fG).mono ?_
  rintro e w4 ⟨u4, rfl, r4, bl⟩
  have z4 := bl.size
  replace sG := GenerationI_below sG bl (by omega)
  replace sP := CodedPacketI_below sP bl (by omega)
  replace kG := kG.below bl (by omega)
  clear cG0 cG1
  have cG0 := kG.cell (i := 0) rfl
  have cG1 := kG.cell (i := 1) rfl
  replace kP := kP.below bl (by omega)
  clear cP0 cP1 cP2
  have cP0 := kP.cell (i := 0) rfl
  have cP1 := kP.cell (i := 1) rfl
  have cP2 := kP.cell (i := 2) rfl
  replace frm := frm.trans (bl.mono (by omega))
  clear bl
  obtain ⟨ad1_4, n1_4, cap1_4, rfl, hw0_4, r4⟩ := GenerationO_cells r4
  have kx0 := Bx.new w4 [.int .i64 f0_G, .slice ad1_4 n1_4 cap1_4] 26
  have hb := below_box w4 (.cells #[.int .i64 f0_G, .slice ad1_4 n1_4 cap1_4] 26)
  have zb4 : (w4.alloc (.cells #[.int .i64 f0_G, .slice ad1_4 n1_4 cap1_4] 26)).heap.size = w4.heap.size + 1 := by simp
  replace sG := GenerationI_below sG hb (.inr (Nat.le_refl _))
  replace sP := CodedPacketI_below sP hb (.inr (Nat.le_refl _))
  replace r4 := GenerationO_below r4 hb (.inr (Nat.le_refl _))
  replace kG := kG.alloc (.cells #[.int .i64 f0_G, .slice ad1_4 n1_4 cap1_4] 26)
  clear cG0 cG1
  have cG0 := kG.cell (i := 0) rfl
  have cG1 := kG.cell (i := 1) rfl
  replace kP := kP.alloc (.cells #[.int .i64 f0_G, .slice ad1_4 n1_4 cap1_4] 26)
  clear cP0 cP1 cP2
  have cP0 := kP.cell (i := 0) rfl
  have cP1 := kP.cell (i := 1) rfl
  have cP2 := kP.cell (i := 2) rfl
  replace frm := frm.trans (hb.mono (by omega))
  clear hb
  have cx00 := kx0.cell (i := 0) rfl
  have cx01 := kx0.cell (i := 1) rfl
  go_wp2_with fail
  go_at_call 29
  generalize w4.alloc (.cells #[.int .i64 f0_G, .slice ad1_4 n1_4 cap1_4] 26) = y1 at *
  refine (toCodedPacket sP fP).mono ?_
  rintro e w5 ⟨u5, rfl, r5, bl⟩
  have z5 := bl.size
  replace sG := GenerationI_below sG bl (by omega)
  replace sP := CodedPacketI_below sP bl (by omega)
  replace r4 := GenerationO_below r4 bl (by omega)
  replace kG := kG.below bl (by omega)
  clear cG0 cG1
  have cG0 := kG.cell (i := 0) rfl
  have cG1 := kG.cell (i := 1) rfl
  replace kP := kP.below bl (by omega)
  clear cP0 cP1 cP2
  have cP0 := kP.cell (i := 0) rfl
  have cP1 := kP.cell (i := 1) rfl
  have cP2 := kP.cell (i := 2) rfl
  replace kx0 := kx0.below bl (by omega)
  clear cx00 cx01
  have cx00 := kx0.cell (i := 0) rfl
  have cx01 := kx0.cell (i := 1) rfl
  replace frm := frm.trans (bl.mono (by omega))
  clear bl
  obtain ⟨ad1_5, n1_5, cap1_5, ad2_5, n2_5, cap2_5, rfl, hw0_5, r5⟩ := CodedPacketO_cells r5
  have kx1 := Bx.new w5 [.int .i64 f0_P, .slice ad1_5 n1_5 cap1_5, .slice ad2_5 n2_5 cap2_5] 31
  have hb := below_box w5 (.cells #[.int .i64 f0_P, .slice ad1_5 n1_5 cap1_5, .slice ad2_5 n2_5 cap2_5] 31)
  have zb5 : (w5.alloc (.cells #[.int .i64 f0_P, .slice ad1_5 n1_5 cap1_5, .slice ad2_5 n2_5 cap2_5] 31)).heap.size = w5.heap.size + 1 := by simp
  replace sG := GenerationI_below sG hb (.inr (Nat.le_refl _))
  replace sP := CodedPacketI_below sP hb (.inr (Nat.le_refl _))
  replace r4 := GenerationO_below r4 hb (.inr (Nat.le_refl _))
  replace r5 := CodedPacketO_below r5 hb (.inr (Nat.le_refl _))
  replace kG := kG.alloc (.cells #[.int .i64 f0_P, .slice ad1_5 n1_5 cap1_5, .slice ad2_5 n2_5 cap2_5] 31)
  clear cG0 cG1
  have cG0 := kG.cell (i := 0) rfl
  have cG1 := kG.cell (i := 1) rfl
  replace kP := kP.alloc (.cells #[.int .i64 f0_P, .slice ad1_5 n1_5 cap1_5, .slice ad2_5 n2_5 cap2_5] 31)
  clear cP0 cP1 cP2
  have cP0 := kP.cell (i := 0) rfl
  have cP1 := kP.cell (i := 1) rfl
  have cP2 := kP.cell (i := 2) rfl
  replace kx0 := kx0.alloc (.cells #[.int .i64 f0_P, .slice ad1_5 n1_5 cap1_5, .slice ad2_5 n2_5 cap2_5] 31)
  clear cx00 cx01
  have cx00 := kx0.cell (i := 0) rfl
  have cx01 := kx0.cell (i := 1) rfl
  replace frm := frm.trans (hb.mono (by omega))
  clear hb
  have cx10 := kx1.cell (i := 0) rfl
  have cx11 := kx1.cell (i := 1) rfl
  have cx12 := kx1.cell (i := 2) rfl
  go_wp2_with fail
  go_at_call 16
  generalize w5.alloc (.cells #[.int .i64 f0_P, .slice ad1_5 n1_5 cap1_5, .slice ad2_5 n2_5 cap2_5] 31) = y2 at *
  refine (HI.out _ (hTab.below frm (Nat.le_refl _)) _ _ _ (GenerationO_is r4) _ _ _ (CodedPacketO_is r5)).mono ?_
  rintro e w6 ⟨rfl, bl⟩
  have z6 := bl.size
  replace sG := GenerationI_below sG bl (by omega)
  replace sP := CodedPacketI_below sP bl (by omega)
  replace r4 := GenerationO_below r4 bl (by omega)
  replace r5 := CodedPacketO_below r5 bl (by omega)
  replace kG := kG.below bl (by omega)
  clear cG0 cG1
  have cG0 := kG.cell (i := 0) rfl
  have cG1 := kG.cell (i := 1) rfl
  replace kP := kP.below bl (by omega)
  clear cP0 cP1 cP2
  have cP0 := kP.cell (i := 0) rfl
  have cP1 := kP.cell (i := 1) rfl
  have cP2 := kP.cell (i := 2) rfl
  replace kx0 := kx0.below bl (by omega)
  clear cx00 cx01
  have cx00 := kx0.cell (i := 0) rfl
  have cx01 := kx0.cell (i := 1) rfl
  replace kx1 := kx1.below bl (by omega)
  clear cx10 cx11 cx12
  have cx10 := kx1.cell (i := 0) rfl
  have cx11 := kx1.cell (i := 1) rfl
  have cx12 := kx1.cell (i := 2) rfl
  replace frm := frm.trans (bl.mono (by omega))
  clear bl
  go_wp2
  replace sG := GenerationI_mv sG (Mv.drew (Mv.refl w6 0 0)) (.inr (Nat.zero_le _))
  replace sP := CodedPacketI_mv sP (Mv.drew (Mv.refl w6 0 0)) (.inr (Nat.zero_le _))
  replace r4 := GenerationO_mv r4 (Mv.drew (Mv.refl w6 0 0)) (.inr (Nat.zero_le _))
  replace r5 := CodedPacketO_mv r5 (Mv.drew (Mv.refl w6 0 0)) (.inr (Nat.zero_le _))
  replace kG := kG.drew
  clear cG0 cG1
  have cG0 := kG.cell (i := 0) rfl
  have cG1 := kG.cell (i := 1) rfl
  replace kP := kP.drew
  clear cP0 cP1 cP2
  have cP0 := kP.cell (i := 0) rfl
  have cP1 := kP.cell (i := 1) rfl
  have cP2 := kP.cell (i := 2) rfl
  replace kx0 := kx0.drew
  clear cx00 cx01
  have cx00 := kx0.cell (i := 0) rfl
  have cx01 := kx0.cell (i := 1) rfl
  replace kx1 := kx1.drew
  clear cx10 cx11 cx12
  have cx10 := kx1.cell (i := 0) rfl
  have cx11 := kx1.cell (i := 1) rfl
  have cx12 := kx1.cell (i := 2) rfl
  replace frm := frm.drew
  have zd : w6.heap.size = w6.drew.heap.size := rfl
  refine wp_region_held (S := fun w' => w'.cell? ⟨w.heap.size, 0, none⟩ = some (.int .i64 f0_G) ∧ w'.cell? ⟨w.heap.size, 1, none⟩ = some (.slice ad1_G n1_G cap1_G) ∧ w'.cell? ⟨w.heap.size + 1, 0, none⟩ = some (.int .i64 f0_P) ∧ w'.cell? ⟨w.heap.size + 1, 1, none⟩ = some (.slice ad1_P n1_P cap1_P) ∧ w'.cell? ⟨w.heap.size + 1, 2, none⟩ = some (.slice ad2_P n2_P cap2_P) ∧ w'.cell? ⟨w4.heap.size, 0, none⟩ = some (.int .i64 f0_G) ∧ w'.cell? ⟨w4.heap.size, 1, none⟩ = some (.slice ad1_4 n1_4 cap1_4) ∧ w'.cell? ⟨w5.heap.size, 0, none⟩ = some (.int .i64 f0_P) ∧ w'.cell? ⟨w5.heap.size, 1, none⟩ = some (.slice ad1_5 n1_5 cap1_5) ∧ w'.cell? ⟨w5.heap.size, 2, none⟩ = some (.slice ad2_5 n2_5 cap2_5)) (by kernel_rfl) ?_
  change wpAnyH _ _ _ _ _ _ _ _ w6.drew
  generalize w6.drew = d0 at *
  have HH := Lib.hid (show d0.cell? ⟨w.heap.size, 0, none⟩ = some (.int .i64 f0_G) ∧ d0.cell? ⟨w.heap.size, 1, none⟩ = some (.slice ad1_G n1_G cap1_G) ∧ d0.cell? ⟨w.heap.size + 1, 0, none⟩ = some (.int .i64 f0_P) ∧ d0.cell? ⟨w.heap.size + 1, 1, none⟩ = some (.slice ad1_P n1_P cap1_P) ∧ d0.cell? ⟨w.heap.size + 1, 2, none⟩ = some (.slice ad2_P n2_P cap2_P) ∧ d0.cell? ⟨w4.heap.size, 0, none⟩ = some (.int .i64 f0_G) ∧ d0.cell? ⟨w4.heap.size, 1, none⟩ = some (.slice ad1_4 n1_4 cap1_4) ∧ d0.cell? ⟨w5.heap.size, 0, none⟩ = some (.int .i64 f0_P) ∧ d0.cell? ⟨w5.heap.size, 1, none⟩ = some (.slice ad1_5 n1_5 cap1_5) ∧ d0.cell? ⟨w5.heap.size, 2, none⟩ = some (.slice ad2_5 n2_5 cap2_5) from ⟨cG0, cG1, cP0, cP1, cP2, cx00, cx01, cx10, cx11, cx12⟩)
  refine wpAnyH_take (i := 0) (oi := ⟨some _, _, _, _, _, _⟩) (v := ?_) rfl (by kernel_rfl) (by kernel_rfl) (by kernel_rfl) (fun _ _ _ h => h) (Or.inl ⟨by rfl, ?_⟩) HH.out ?_
  rotate_left
  · intro wS hSw
    try dsimp only at hSw
    go_simp
    all_goals (with_reducible rfl)
  simp only [Act.put, List.setIfInBounds_toArray, List.set_cons_zero, List.set_cons_succ]
  refine wpAnyH_take (i := 1) (oi := ⟨some _, _, _, _, _, _⟩) (v := ?_) rfl (by kernel_rfl) (by kernel_rfl) (by kernel_rfl) (fun _ _ _ h => h) (Or.inl ⟨by rfl, ?_⟩) HH.out ?_
  rotate_left
  · intro wS hSw
    try dsimp only at hSw
    go_simp
    all_goals (with_reducible rfl)
  simp only [Act.put, List.setIfInBounds_toArray, List.set_cons_zero, List.set_cons_succ]
  clear HH
  refine wpAnyH_ready (rs := [2]) (by kernel_rfl) (by simp) ?_
  refine AllReadyH.cons (o := ⟨some _, _, _, _, _, _⟩) rfl (fun Kq hKq => ?_) AllReadyH.nil
  go_simp
  refine (toGeneration sG fG).mono ?_
  rintro e w7 ⟨u7, rfl, r7, bl⟩
  have z7 := bl.size
  replace sP := CodedPacketI_below sP bl (by omega)
  replace r4 := GenerationO_below r4 bl (by omega)
  replace r5 := CodedPacketO_below r5 bl (by omega)
  replace kG := kG.below bl (by omega)
  clear cG0 cG1
  have cG0 := kG.cell (i := 0) rfl
  have cG1 := kG.cell (i := 1) rfl
  replace kP := kP.below bl (by omega)
  clear cP0 cP1 cP2
  have cP0 := kP.cell (i := 0) rfl
  have cP1 := kP.cell (i := 1) rfl
  have cP2 := kP.cell (i := 2) rfl
  replace kx0 := kx0.below bl (by omega)
  clear cx00 cx01
  have cx00 := kx0.cell (i := 0) rfl
  have cx01 := kx0.cell (i := 1) rfl
  replace kx1 := kx1.below bl (by omega)
  clear cx10 cx11 cx12
  have cx10 := kx1.cell (i := 0) rfl
  have cx11 := kx1.cell (i := 1) rfl
  have cx12 := kx1.cell (i := 2) rfl
  replace frm := frm.trans (bl.mono (by omega))
  clear bl
  obtain ⟨ad1_7, n1_7, cap1_7, rfl, hw0_7, r7⟩ := GenerationO_cells r7
  have HH := Lib.hid (show w7.cell? ⟨w.heap.size, 0, none⟩ = some (.int .i64 f0_G) ∧ w7.cell? ⟨w.heap.size, 1, none⟩ = some (.slice ad1_G n1_G cap1_G) ∧ w7.cell? ⟨w.heap.size + 1, 0, none⟩ = some (.int .i64 f0_P) ∧ w7.cell? ⟨w.heap.size + 1, 1, none⟩ = some (.slice ad1_P n1_P cap1_P) ∧ w7.cell? ⟨w.heap.size + 1, 2, none⟩ = some (.slice ad2_P n2_P cap2_P) ∧ w7.cell? ⟨w4.heap.size, 0, none⟩ = some (.int .i64 f0_G) ∧ w7.cell? ⟨w4.heap.size, 1, none⟩ = some (.slice ad1_4 n1_4 cap1_4) ∧ w7.cell? ⟨w5.heap.size, 0, none⟩ = some (.int .i64 f0_P) ∧ w7.cell? ⟨w5.heap.size, 1, none⟩ = some (.slice ad1_5 n1_5 cap1_5) ∧ w7.cell? ⟨w5.heap.size, 2, none⟩ = some (.slice ad2_5 n2_5 cap2_5) from ⟨cG0, cG1, cP0, cP1, cP2, cx00, cx01, cx10, cx11, cx12⟩)
  refine hKq.out _ _ HH.out (fun _ => ?_)
  clear hKq Kq
  clear HH
  refine wpAnyH_ready (rs := [3]) (by kernel_rfl) (by simp) ?_
  refine AllReadyH.cons (o := ⟨some _, _, _, _, _, _⟩) rfl (fun Kq hKq => ?_) AllReadyH.nil
  go_simp
  refine (eqGeneration (GenerationO_is r4) (GenerationO_is r7) fG rfl).mono ?_
  rintro e w8 ⟨rfl, bl⟩
  have z8 := bl.size
  replace sP := CodedPacketI_below sP bl (by omega)
  replace r5 := CodedPacketO_below r5 bl (by omega)
  replace kG := kG.below bl (by omega)
  clear cG0 cG1
  have cG0 := kG.cell (i := 0) rfl
  have cG1 := kG.cell (i := 1) rfl
  replace kP := kP.below bl (by omega)
  clear cP0 cP1 cP2
  have cP0 := kP.cell (i := 0) rfl
  have cP1 := kP.cell (i := 1) rfl
  have cP2 := kP.cell (i := 2) rfl
  replace kx0 := kx0.below bl (by omega)
  clear cx00 cx01
  have cx00 := kx0.cell (i := 0) rfl
  have cx01 := kx0.cell (i := 1) rfl
  replace kx1 := kx1.below bl (by omega)
  clear cx10 cx11 cx12
  have cx10 := kx1.cell (i := 0) rfl
  have cx11 := kx1.cell (i := 1) rfl
  have cx12 := kx1.cell (i := 2) rfl
  replace frm := frm.trans (bl.mono (by omega))
  clear bl
  have HH := Lib.hid (show w8.cell? ⟨w.heap.size, 0, none⟩ = some (.int .i64 f0_G) ∧ w8.cell? ⟨w.heap.size, 1, none⟩ = some (.slice ad1_G n1_G cap1_G) ∧ w8.cell? ⟨w.heap.size + 1, 0, none⟩ = some (.int .i64 f0_P) ∧ w8.cell? ⟨w.heap.size + 1, 1, none⟩ = some (.slice ad1_P n1_P cap1_P) ∧ w8.cell? ⟨w.heap.size + 1, 2, none⟩ = some (.slice ad2_P n2_P cap2_P) ∧ w8.cell? ⟨w4.heap.size, 0, none⟩ = some (.int .i64 f0_G) ∧ w8.cell? ⟨w4.heap.size, 1, none⟩ = some (.slice ad1_4 n1_4 cap1_4) ∧ w8.cell? ⟨w5.heap.size, 0, none⟩ = some (.int .i64 f0_P) ∧ w8.cell? ⟨w5.heap.size, 1, none⟩ = some (.slice ad1_5 n1_5 cap1_5) ∧ w8.cell? ⟨w5.heap.size, 2, none⟩ = some (.slice ad2_5 n2_5 cap2_5) from ⟨cG0, cG1, cP0, cP1, cP2, cx00, cx01, cx10, cx11, cx12⟩)
  refine hKq.out _ _ HH.out (fun _ => ?_)
  clear hKq Kq
  try simp only [Act.put, List.setIfInBounds_toArray, List.set_cons_zero, List.set_cons_succ]
  refine wpAnyH_take (i := 4) (oi := ⟨some _, _, _, _, _, _⟩) (v := ?_) rfl (by kernel_rfl) (by kernel_rfl) (by kernel_rfl) (fun _ _ _ h => h) (Or.inl ⟨by rfl, ?_⟩) HH.out ?_
  rotate_left
  · intro wS hSw
    try dsimp only at hSw
    go_simp
    all_goals (with_reducible rfl)
  simp only [Act.put, List.setIfInBounds_toArray, List.set_cons_zero, List.set_cons_succ]
  refine wpAnyH_done (by kernel_rfl) ?_ _
  clear HH
  clear r4
  clear r7
  go_wp2
  replace sP := CodedPacketI_mv sP (Mv.drew (Mv.refl w8 0 0)) (.inr (Nat.zero_le _))
  replace r5 := CodedPacketO_mv r5 (Mv.drew (Mv.refl w8 0 0)) (.inr (Nat.zero_le _))
  replace kG := kG.drew
  clear cG0 cG1
  have cG0 := kG.cell (i := 0) rfl
  have cG1 := kG.cell (i := 1) rfl
  replace kP := kP.drew
  clear cP0 cP1 cP2
  have cP0 := kP.cell (i := 0) rfl
  have cP1 := kP.cell (i := 1) rfl
  have cP2 := kP.cell (i := 2) rfl
  replace kx0 := kx0.drew
  clear cx00 cx01
  have cx00 := kx0.cell (i := 0) rfl
  have cx01 := kx0.cell (i := 1) rfl
  replace kx1 := kx1.drew
  clear cx10 cx11 cx12
  have cx10 := kx1.cell (i := 0) rfl
  have cx11 := kx1.cell (i := 1) rfl
  have cx12 := kx1.cell (i := 2) rfl
  replace frm := frm.drew
  have zd : w8.heap.size = w8.drew.heap.size := rfl
  refine wp_region_held (S := fun w' => w'.cell? ⟨w.heap.size, 0, none⟩ = some (.int .i64 f0_G) ∧ w'.cell? ⟨w.heap.size, 1, none⟩ = some (.slice ad1_G n1_G cap1_G) ∧ w'.cell? ⟨w.heap.size + 1, 0, none⟩ = some (.int .i64 f0_P) ∧ w'.cell? ⟨w.heap.size + 1, 1, none⟩ = some (.slice ad1_P n1_P cap1_P) ∧ w'.cell? ⟨w.heap.size + 1, 2, none⟩ = some (.slice ad2_P n2_P cap2_P) ∧ w'.cell? ⟨w4.heap.size, 0, none⟩ = some (.int .i64 f0_G) ∧ w'.cell? ⟨w4.heap.size, 1, none⟩ = some (.slice ad1_4 n1_4 cap1_4) ∧ w'.cell? ⟨w5.heap.size, 0, none⟩ = some (.int .i64 f0_P) ∧ w'.cell? ⟨w5.heap.size, 1, none⟩ = some (.slice ad1_5 n1_5 cap1_5) ∧ w'.cell? ⟨w5.heap.size, 2, none⟩ = some (.slice ad2_5 n2_5 cap2_5)) (by kernel_rfl) ?_
  change wpAnyH _ _ _ _ _ _ _ _ w8.drew
  generalize w8.drew = d0 at *
  have HH := Lib.hid (show d0.cell? ⟨w.heap.size, 0, none⟩ = some (.int .i64 f0_G) ∧ d0.cell? ⟨w.heap.size, 1, none⟩ = some (.slice ad1_G n1_G cap1_G) ∧ d0.cell? ⟨w.heap.size + 1, 0, none⟩ = some (.int .i64 f0_P) ∧ d0.cell? ⟨w.heap.size + 1, 1, none⟩ = some (.slice ad1_P n1_P cap1_P) ∧ d0.cell? ⟨w.heap.size + 1, 2, none⟩ = some (.slice ad2_P n2_P cap2_P) ∧ d0.cell? ⟨w4.heap.size, 0, none⟩ = some (.int .i64 f0_G) ∧ d0.cell? ⟨w4.heap.size, 1, none⟩ = some (.slice ad1_4 n1_4 cap1_4) ∧ d0.cell? ⟨w5.heap.size, 0, none⟩ = some (.int .i64 f0_P) ∧ d0.cell? ⟨w5.heap.size, 1, none⟩ = some (.slice ad1_5 n1_5 cap1_5) ∧ d0.cell? ⟨w5.heap.size, 2, none⟩ = some (.slice ad2_5 n2_5 cap2_5) from ⟨cG0, cG1, cP0, cP1, cP2, cx00, cx01, cx10, cx11, cx12⟩)
  refine wpAnyH_take (i := 0) (oi := ⟨some _, _, _, _, _, _⟩) (v := ?_) rfl (by kernel_rfl) (by kernel_rfl) (by kernel_rfl) (fun _ _ _ h => h) (Or.inl ⟨by rfl, ?_⟩) HH.out ?_
  rotate_left
  · intro wS hSw
    try dsimp only at hSw
    go_simp
    all_goals (with_reducible rfl)
  simp only [Act.put, List.setIfInBounds_toArray, List.set_cons_zero, List.set_cons_succ]
  refine wpAnyH_take (i := 1) (oi := ⟨some _, _, _, _, _, _⟩) (v := ?_) rfl (by kernel_rfl) (by kernel_rfl) (by kernel_rfl) (fun _ _ _ h => h) (Or.inl ⟨by rfl, ?_⟩) HH.out ?_
  rotate_left
  · intro wS hSw
    try dsimp only at hSw
    go_simp
    all_goals (with_reducible rfl)
  simp only [Act.put, List.setIfInBounds_toArray, List.set_cons_zero, List.set_cons_succ]
  clear HH
  refine wpAnyH_ready (rs := [2]) (by kernel_rfl) (by simp) ?_
  refine AllReadyH.cons (o := ⟨some _, _, _, _, _, _⟩) rfl (fun Kq hKq => ?_) AllReadyH.nil
  go_simp
  refine (toCodedPacket sP fP).mono ?_
  rintro e w9 ⟨u9, rfl, r9, bl⟩
  have z9 := bl.size
  replace r5 := CodedPacketO_below r5 bl (by omega)
  replace kG := kG.below bl (by omega)
  clear cG0 cG1
  have cG0 := kG.cell (i := 0) rfl
  have cG1 := kG.cell (i := 1) rfl
  replace kP := kP.below bl (by omega)
  clear cP0 cP1 cP2
  have cP0 := kP.cell (i := 0) rfl
  have cP1 := kP.cell (i := 1) rfl
  have cP2 := kP.cell (i := 2) rfl
  replace kx0 := kx0.below bl (by omega)
  clear cx00 cx01
  have cx00 := kx0.cell (i := 0) rfl
  have cx01 := kx0.cell (i := 1) rfl
  replace kx1 := kx1.below bl (by omega)
  clear cx10 cx11 cx12
  have cx10 := kx1.cell (i := 0) rfl
  have cx11 := kx1.cell (i := 1) rfl
  have cx12 := kx1.cell (i := 2) rfl
  replace frm := frm.trans (bl.mono (by omega))
  clear bl
  obtain ⟨ad1_9, n1_9, cap1_9, ad2_9, n2_9, cap2_9, rfl, hw0_9, r9⟩ := CodedPacketO_cells r9
  have HH := Lib.hid (show w9.cell? ⟨w.heap.size, 0, none⟩ = some (.int .i64 f0_G) ∧ w9.cell? ⟨w.heap.size, 1, none⟩ = some (.slice ad1_G n1_G cap1_G) ∧ w9.cell? ⟨w.heap.size + 1, 0, none⟩ = some (.int .i64 f0_P) ∧ w9.cell? ⟨w.heap.size + 1, 1, none⟩ = some (.slice ad1_P n1_P cap1_P) ∧ w9.cell? ⟨w.heap.size + 1, 2, none⟩ = some (.slice ad2_P n2_P cap2_P) ∧ w9.cell? ⟨w4.heap.size, 0, none⟩ = some (.int .i64 f0_G) ∧ w9.cell? ⟨w4.heap.size, 1, none⟩ = some (.slice ad1_4 n1_4 cap1_4) ∧ w9.cell? ⟨w5.heap.size, 0, none⟩ = some (.int .i64 f0_P) ∧ w9.cell? ⟨w5.heap.size, 1, none⟩ = some (.slice ad1_5 n1_5 cap1_5) ∧ w9.cell? ⟨w5.heap.size, 2, none⟩ = some (.slice ad2_5 n2_5 cap2_5) from ⟨cG0, cG1, cP0, cP1, cP2, cx00, cx01, cx10, cx11, cx12⟩)
  refine hKq.out _ _ HH.out (fun _ => ?_)
  clear hKq Kq
  clear HH
  refine wpAnyH_ready (rs := [3]) (by kernel_rfl) (by simp) ?_
  refine AllReadyH.cons (o := ⟨some _, _, _, _, _, _⟩) rfl (fun Kq hKq => ?_) AllReadyH.nil
  go_simp
  refine (eqCodedPacket (CodedPacketO_is r5) (CodedPacketO_is r9) fP rfl).mono ?_
  rintro e w10 ⟨rfl, bl⟩
  have z10 := bl.size
  replace kG := kG.below bl (by omega)
  clear cG0 cG1
  have cG0 := kG.cell (i := 0) rfl
  have cG1 := kG.cell (i := 1) rfl
  replace kP := kP.below bl (by omega)
  clear cP0 cP1 cP2
  have cP0 := kP.cell (i := 0) rfl
  have cP1 := kP.cell (i := 1) rfl
  have cP2 := kP.cell (i := 2) rfl
  replace kx0 := kx0.below bl (by omega)
  clear cx00 cx01
  have cx00 := kx0.cell (i := 0) rfl
  have cx01 := kx0.cell (i := 1) rfl
  replace kx1 := kx1.below bl (by omega)
  clear cx10 cx11 cx12
  have cx10 := kx1.cell (i := 0) rfl
  have cx11 := kx1.cell (i := 1) rfl
  have cx12 := kx1.cell (i := 2) rfl
  replace frm := frm.trans (bl.mono (by omega))
  clear bl
  have HH := Lib.hid (show w10.cell? ⟨w.heap.size, 0, none⟩ = some (.int .i64 f0_G) ∧ w10.cell? ⟨w.heap.size, 1, none⟩ = some (.slice ad1_G n1_G cap1_G) ∧ w10.cell? ⟨w.heap.size + 1, 0, none⟩ = some (.int .i64 f0_P) ∧ w10.cell? ⟨w.heap.size + 1, 1, none⟩ = some (.slice ad1_P n1_P cap1_P) ∧ w10.cell? ⟨w.heap.size + 1, 2, none⟩ = some (.slice ad2_P n2_P cap2_P) ∧ w10.cell? ⟨w4.heap.size, 0, none⟩ = some (.int .i64 f0_G) ∧ w10.cell? ⟨w4.heap.size, 1, none⟩ = some (.slice ad1_4 n1_4 cap1_4) ∧ w10.cell? ⟨w5.heap.size, 0, none⟩ = some (.int .i64 f0_P) ∧ w10.cell? ⟨w5.heap.size, 1, none⟩ = some (.slice ad1_5 n1_5 cap1_5) ∧ w10.cell? ⟨w5.heap.size, 2, none⟩ = some (.slice ad2_5 n2_5 cap2_5) from ⟨cG0, cG1, cP0, cP1, cP2, cx00, cx01, cx10, cx11, cx12⟩)
  refine hKq.out _ _ HH.out (fun _ => ?_)
  clear hKq Kq
  try simp only [Act.put, List.setIfInBounds_toArray, List.set_cons_zero, List.set_cons_succ]
  refine wpAnyH_take (i := 4) (oi := ⟨some _, _, _, _, _, _⟩) (v := ?_) rfl (by kernel_rfl) (by kernel_rfl) (by kernel_rfl) (fun _ _ _ h => h) (Or.inl ⟨by rfl, ?_⟩) HH.out ?_
  rotate_left
  · intro wS hSw
    try dsimp only at hSw
    go_simp
    all_goals (with_reducible rfl)
  simp only [Act.put, List.setIfInBounds_toArray, List.set_cons_zero, List.set_cons_succ]
  refine wpAnyH_done (by kernel_rfl) ?_ _
  clear HH
  clear r5
  clear r9
  go_wp2
  go_ret
  exact ⟨rfl, frm⟩





set_option maxRecDepth 100000 in
set_option maxHeartbeats 1600000 in
theorem exactEqualPackets (w : World) (vA : Value) (iaA : ∃ x, CodedPacketI w 0 w.heap.size vA x) (vB : Value) (iaB : ∃ x, CodedPacketI w 0 w.heap.size vB x) (hTab : PktW.Tab w) :
    Calls Tryd.prog 6 #[vA, vB] w fun e w' => e = .returned (.bool true) ∧ Below w.heap.size w w' := by
  obtain ⟨⟨f0_A, f1_A, f2_A⟩, sA⟩ := iaA
  obtain ⟨ad1_A, n1_A, cap1_A, ad2_A, n2_A, cap2_A, rfl, hw0_A, sA⟩ := CodedPacketI_cells sA
  obtain ⟨⟨f0_B, f1_B, f2_B⟩, sB⟩ := iaB
  obtain ⟨ad1_B, n1_B, cap1_B, ad2_B, n2_B, cap2_B, rfl, hw0_B, sB⟩ := CodedPacketI_cells sB
  have frm := Below.refl w.heap.size w
  have kA := Bx.new w [.int .i64 f0_A, .slice ad1_A n1_A cap1_A, .slice ad2_A n2_A cap2_A] 53
  replace frm := frm.alloc (by first | exact Nat.le_refl _ | (simp; done) | (simp; omega)) (.cells #[.int .i64 f0_A, .slice ad1_A n1_A cap1_A, .slice ad2_A n2_A cap2_A] 53)
  have kB := Bx.new (w.alloc (.cells #[.int .i64 f0_A, .slice ad1_A n1_A cap1_A, .slice ad2_A n2_A cap2_A] 53)) [.int .i64 f0_B, .slice ad1_B n1_B cap1_B, .slice ad2_B n2_B cap2_B] 53
  rw [World.size_alloc] at kB
  replace kA := kA.alloc (.cells #[.int .i64 f0_B, .slice ad1_B n1_B cap1_B, .slice ad2_B n2_B cap2_B] 53)
  replace frm := frm.alloc (by first | exact Nat.le_refl _ | (simp; done) | (simp; omega)) (.cells #[.int .i64 f0_B, .slice ad1_B n1_B cap1_B, .slice ad2_B n2_B cap2_B] 53)
  replace sA := CodedPacketI_below sA frm (.inr (Nat.le_refl _))
  replace sB := CodedPacketI_below sB frm (.inr (Nat.le_refl _))
  have cA0 := kA.cell (i := 0) rfl
  have cA1 := kA.cell (i := 1) rfl
  have cA2 := kA.cell (i := 2) rfl
  have cB0 := kB.cell (i := 0) rfl
  have cB1 := kB.cell (i := 1) rfl
  have cB2 := kB.cell (i := 2) rfl
  have zw : ((w.alloc (.cells #[.int .i64 f0_A, .slice ad1_A n1_A cap1_A, .slice ad2_A n2_A cap2_A] 53)).alloc (.cells #[.int .i64 f0_B, .slice ad1_B n1_B cap1_B, .slice ad2_B n2_B cap2_B] 53)).heap.size = w.heap.size + 1 + 1 := by simp
  go_enter Tryd.func6, Tryd.ntmps6
  go_wp2_with fail
  go_at_call 27
  generalize (w.alloc (.cells #[.int .i64 f0_A, .slice ad1_A n1_A cap1_A, .slice ad2_A n2_A cap2_A] 53)).alloc (.cells #[.int .i64 f0_B, .slice ad1_B n1_B cap1_B, .slice ad2_B n2_B cap2_B] 53) = y0 at *
  refine (szCodedPacket sA 1048576 (by omega) (by omega)).mono ?_
  rintro e wsA ⟨leftA, rfl, leA, riA, fA, bl⟩
  have zsA := bl.size
  replace sA := CodedPacketI_below sA bl (by omega)
  replace sB := CodedPacketI_below sB bl (by omega)
  replace kA := kA.below bl (by omega)
  clear cA0 cA1 cA2
  have cA0 := kA.cell (i := 0) rfl
  have cA1 := kA.cell (i := 1) rfl
  have cA2 := kA.cell (i := 2) rfl
  replace kB := kB.below bl (by omega)
  clear cB0 cB1 cB2
  have cB0 := kB.cell (i := 0) rfl
  have cB1 := kB.cell (i := 1) rfl
  have cB2 := kB.cell (i := 2) rfl
  replace frm := frm.trans (bl.mono (by omega))
  clear bl
  by_cases hlA : 0 ≤ leftA
  case neg =>
    clear fA
    go_wp2
    go_ret
    exact ⟨rfl, frm⟩
  replace fA := fA hlA
  go_wp2_with fail
  go_at_call 27
  refine (szCodedPacket sB leftA (by omega) (by omega)).mono ?_
  rintro e wsB ⟨leftB, rfl, leB, riB, fB, bl⟩
  have zsB := bl.size
  replace sA := CodedPacketI_below sA bl (by omega)
  replace sB := CodedPacketI_below sB bl (by omega)
  replace kA := kA.below bl (by omega)
  clear cA0 cA1 cA2
  have cA0 := kA.cell (i := 0) rfl
  have cA1 := kA.cell (i := 1) rfl
  have cA2 := kA.cell (i := 2) rfl
  replace kB := kB.below bl (by omega)
  clear cB0 cB1 cB2
  have cB0 := kB.cell (i := 0) rfl
  have cB1 := kB.cell (i := 1) rfl
  have cB2 := kB.cell (i := 2) rfl
  replace frm := frm.trans (bl.mono (by omega))
  clear bl
  by_cases hlB : 0 ≤ leftB
  case neg =>
    clear fB
    go_wp2
    go_ret
    exact ⟨rfl, frm⟩
  replace fB := fB hlB
  have cS := fun (w' : World) (lA hA : Nat) (uA : Value) (sA : CodedPacketI w' lA hA uA (f0_A, f1_A, f2_A)) (lB hB : Nat) (uB : Value) (sB : CodedPacketI w' lB hB uB (f0_B, f1_B, f2_B)) => PktW.eqPS w' sA fA sB fB
  have cI := fun (w' : World) (hT : PktW.Tab w') (lA hA : Nat) (uA : Value) (sA : CodedPacketI w' lA hA uA (f0_A, f1_A, f2_A)) (lB hB : Nat) (uB : Value) (sB : CodedPacketI w' lB hB uB (f0_B, f1_B, f2_B)) => PktI.eqP w' hT sA fA sB fB
  try dsimp only at cS cI
  generalize hR : (Pkt.sameP (f0_A, f1_A, f2_A) (f0_B, f1_B, f2_B)) = R at cS cI
  clear hR
  have HS := Lib.hid cS
  have HI := Lib.hid cI
  clear cS cI
  have hkA := CodedPacketC_le fA
  have hkB := CodedPacketC_le fB
  go_wp2
  replace sA := CodedPacketI_mv sA (Mv.drew (Mv.refl wsB 0 0)) (.inr (Nat.zero_le _))
  replace sB := CodedPacketI_mv sB (Mv.drew (Mv.refl wsB 0 0)) (.inr (Nat.zero_le _))
  replace kA := kA.drew
  clear cA0 cA1 cA2
  have cA0 := kA.cell (i := 0) rfl
  have cA1 := kA.cell (i := 1) rfl
  have cA2 := kA.cell (i := 2) rfl
  replace kB := kB.drew
  clear cB0 cB1 cB2
  have cB0 := kB.cell (i := 0) rfl
  have cB1 := kB.cell (i := 1) rfl
  have cB2 := kB.cell (i := 2) rfl
  replace frm := frm.drew
  have zd : wsB.heap.size = wsB.drew.heap.size := rfl
  refine wp_region_held (S := fun w' => w'.cell? ⟨w.heap.size, 0, none⟩ = some (.int .i64 f0_A) ∧ w'.cell? ⟨w.heap.size, 1, none⟩ = some (.slice ad1_A n1_A cap1_A) ∧ w'.cell? ⟨w.heap.size, 2, none⟩ = some (.slice ad2_A n2_A cap2_A) ∧ w'.cell? ⟨w.heap.size + 1, 0, none⟩ = some (.int .i64 f0_B) ∧ w'.cell? ⟨w.heap.size + 1, 1, none⟩ = some (.slice ad1_B n1_B cap1_B) ∧ w'.cell? ⟨w.heap.size + 1, 2, none⟩ = some (.slice ad2_B n2_B cap2_B)) (by kernel_rfl) ?_
  change wpAnyH _ _ _ _ _ _ _ _ wsB.drew
  generalize wsB.drew = d0 at *
  have HH := Lib.hid (show d0.cell? ⟨w.heap.size, 0, none⟩ = some (.int .i64 f0_A) ∧ d0.cell? ⟨w.heap.size, 1, none⟩ = some (.slice ad1_A n1_A cap1_A) ∧ d0.cell? ⟨w.heap.size, 2, none⟩ = some (.slice ad2_A n2_A cap2_A) ∧ d0.cell? ⟨w.heap.size + 1, 0, none⟩ = some (.int .i64 f0_B) ∧ d0.cell? ⟨w.heap.size + 1, 1, none⟩ = some (.slice ad1_B n1_B cap1_B) ∧ d0.cell? ⟨w.heap.size + 1, 2, none⟩ = some (.slice ad2_B n2_B cap2_B) from ⟨cA0, cA1, cA2, cB0, cB1, cB2⟩)
  refine wpAnyH_take (i := 0) (oi := ⟨some _, _, _, _, _, _⟩) (v := ?_) rfl (by kernel_rfl) (by kernel_rfl) (by kernel_rfl) (fun _ _ _ h => h) (Or.inl ⟨by rfl, ?_⟩) HH.out ?_
  rotate_left
  · intro wS hSw
    try dsimp only at hSw
    go_simp
    all_goals (with_reducible rfl)
  simp only [Act.put, List.setIfInBounds_toArray, List.set_cons_zero, List.set_cons_succ]
  refine wpAnyH_take (i := 2) (oi := ⟨some _, _, _, _, _, _⟩) (v := ?_) rfl (by kernel_rfl) (by kernel_rfl) (by kernel_rfl) (fun _ _ _ h => h) (Or.inl ⟨by rfl, ?_⟩) HH.out ?_
  rotate_left
  · intro wS hSw
    try dsimp only at hSw
    go_simp
    all_goals (with_reducible rfl)
  simp only [Act.put, List.setIfInBounds_toArray, List.set_cons_zero, List.set_cons_succ]
  clear HH
  refine wpAnyH_ready (rs := [1]) (by kernel_rfl) (by simp) ?_
  refine AllReadyH.cons (o := ⟨some _, _, _, _, _, _⟩) rfl (fun Kq hKq => ?_) AllReadyH.nil
  go_simp
  refine (toCodedPacket sA fA).mono ?_
  rintro e w1 ⟨u1, rfl, r1, bl⟩
  have z1 := bl.size
  replace sA := CodedPacketI_below sA bl (by omega)
  replace sB := CodedPacketI_below sB bl (by omega)
  replace kA := kA.below bl (by omega)
  clear cA0 cA1 cA2
  have cA0 := kA.cell (i := 0) rfl
  have cA1 := kA.cell (i := 1) rfl
  have cA2 := kA.cell (i := 2) rfl
  replace kB := kB.below bl (by omega)
  clear cB0 cB1 cB2
  have cB0 := kB.cell (i := 0) rfl
  have cB1 := kB.cell (i := 1) rfl
  have cB2 := kB.cell (i := 2) rfl
  replace frm := frm.trans (bl.mono (by omega))
  clear bl
  obtain ⟨ad1_1, n1_1, cap1_1, ad2_1, n2_1, cap2_1, rfl, hw0_1, r1⟩ := CodedPacketO_cells r1
  have HH := Lib.hid (show w1.cell? ⟨w.heap.size, 0, none⟩ = some (.int .i64 f0_A) ∧ w1.cell? ⟨w.heap.size, 1, none⟩ = some (.slice ad1_A n1_A cap1_A) ∧ w1.cell? ⟨w.heap.size, 2, none⟩ = some (.slice ad2_A n2_A cap2_A) ∧ w1.cell? ⟨w.heap.size + 1, 0, none⟩ = some (.int .i64 f0_B) ∧ w1.cell? ⟨w.heap.size + 1, 1, none⟩ = some (.slice ad1_B n1_B cap1_B) ∧ w1.cell? ⟨w.heap.size + 1, 2, none⟩ = some (.slice ad2_B n2_B cap2_B) from ⟨cA0, cA1, cA2, cB0, cB1, cB2⟩)
  refine hKq.out _ _ HH.out (fun _ => ?_)
  clear hKq Kq
  clear HH
  refine wpAnyH_ready (rs := [3]) (by kernel_rfl) (by simp) ?_
  refine AllReadyH.cons (o := ⟨some _, _, _, _, _, _⟩) rfl (fun Kq hKq => ?_) AllReadyH.nil
  go_simp
  refine (toCodedPacket sB fB).mono ?_
  rintro e w2 ⟨u2, rfl, r2, bl⟩
  have z2 := bl.size
  replace sA := CodedPacketI_below sA bl (by omega)
  replace sB := CodedPacketI_below sB bl (by omega)
  replace r1 := CodedPacketO_below r1 bl (by omega)
  replace kA := kA.below bl (by omega)
  clear cA0 cA1 cA2
  have cA0 := kA.cell (i := 0) rfl
  have cA1 := kA.cell (i := 1) rfl
  have cA2 := kA.cell (i := 2) rfl
  replace kB := kB.below bl (by omega)
  clear cB0 cB1 cB2
  have cB0 := kB.cell (i := 0) rfl
  have cB1 := kB.cell (i := 1) rfl
  have cB2 := kB.cell (i := 2) rfl
  replace frm := frm.trans (bl.mono (by omega))
  clear bl
  obtain ⟨ad1_2, n1_2, cap1_2, ad2_2, n2_2, cap2_2, rfl, hw0_2, r2⟩ := CodedPacketO_cells r2
  have HH := Lib.hid (show w2.cell? ⟨w.heap.size, 0, none⟩ = some (.int .i64 f0_A) ∧ w2.cell? ⟨w.heap.size, 1, none⟩ = some (.slice ad1_A n1_A cap1_A) ∧ w2.cell? ⟨w.heap.size, 2, none⟩ = some (.slice ad2_A n2_A cap2_A) ∧ w2.cell? ⟨w.heap.size + 1, 0, none⟩ = some (.int .i64 f0_B) ∧ w2.cell? ⟨w.heap.size + 1, 1, none⟩ = some (.slice ad1_B n1_B cap1_B) ∧ w2.cell? ⟨w.heap.size + 1, 2, none⟩ = some (.slice ad2_B n2_B cap2_B) from ⟨cA0, cA1, cA2, cB0, cB1, cB2⟩)
  refine hKq.out _ _ HH.out (fun _ => ?_)
  clear hKq Kq
  clear HH
  refine wpAnyH_ready (rs := [4]) (by kernel_rfl) (by simp) ?_
  refine AllReadyH.cons (o := ⟨some _, _, _, _, _, _⟩) rfl (fun Kq hKq => ?_) AllReadyH.nil
  go_simp
  refine (HS.out _ _ _ _ (CodedPacketO_is r1) _ _ _ (CodedPacketO_is r2)).mono ?_
  rintro e w3 ⟨rfl, bl⟩
  have z3 := bl.size
  replace sA := CodedPacketI_below sA bl (by omega)
  replace sB := CodedPacketI_below sB bl (by omega)
  replace kA := kA.below bl (by omega)
  clear cA0 cA1 cA2
  have cA0 := kA.cell (i := 0) rfl
  have cA1 := kA.cell (i := 1) rfl
  have cA2 := kA.cell (i := 2) rfl
  replace kB := kB.below bl (by omega)
  clear cB0 cB1 cB2
  have cB0 := kB.cell (i := 0) rfl
  have cB1 := kB.cell (i := 1) rfl
  have cB2 := kB.cell (i := 2) rfl
  replace frm := frm.trans (bl.mono (by omega))
  clear bl
  have HH := Lib.hid (show w3.cell? ⟨w.heap.size, 0, none⟩ = some (.int .i64 f0_A) ∧ w3.cell? ⟨w.heap.size, 1, none⟩ = some (.slice ad1_A n1_A cap1_A) ∧ w3.cell? ⟨w.heap.size, 2, none⟩ = some (.slice ad2_A n2_A cap2_A) ∧ w3.cell? ⟨w.heap.size + 1, 0, none⟩ = some (.int .i64 f0_B) ∧ w3.cell? ⟨w.heap.size + 1, 1, none⟩ = some (.slice ad1_B n1_B cap1_B) ∧ w3.cell? ⟨w.heap.size + 1, 2, none⟩ = some (.slice ad2_B n2_B cap2_B) from ⟨cA0, cA1, cA2, cB0, cB1, cB2⟩)
  refine hKq.out _ _ HH.out (fun _ => ?_)
  clear hKq Kq
  try simp only [Act.put, List.setIfInBounds_toArray, List.set_cons_zero, List.set_cons_succ]
  refine wpAnyH_take (i := 5) (oi := ⟨some _, _, _, _, _, _⟩) (v := ?_) rfl (by kernel_rfl) (by kernel_rfl) (by kernel_rfl) (fun _ _ _ h => h) (Or.inl ⟨by rfl, ?_⟩) HH.out ?_
  rotate_left
  · intro wS hSw
    try dsimp only at hSw
    go_simp
    all_goals (with_reducible rfl)
  simp only [Act.put, List.setIfInBounds_toArray, List.set_cons_zero, List.set_cons_succ]
  refine wpAnyH_done (by kernel_rfl) ?_ _
  clear HH
  clear r1
  clear r2
  go_wp2_with fail
  go_at_call 29
  refine (toCodedPacket sA fA).mono ?_
  rintro e w4 ⟨u4, rfl, r4, bl⟩
  have z4 := bl.size
  replace sA := CodedPacketI_below sA bl (by omega)
  replace sB := CodedPacketI_below sB bl (by omega)
  replace kA := kA.below bl (by omega)
  clear cA0 cA1 cA2
  have cA0 := kA.cell (i := 0) rfl
  have cA1 := kA.cell (i := 1) rfl
  have cA2 := kA.cell (i := 2) rfl
  replace kB := kB.below bl (by omega)
  clear cB0 cB1 cB2
  have cB0 := kB.cell (i := 0) rfl
  have cB1 := kB.cell (i := 1) rfl
  have cB2 := kB.cell (i := 2) rfl
  replace frm := frm.trans (bl.mono (by omega))
  clear bl
  obtain ⟨ad1_4, n1_4, cap1_4, ad2_4, n2_4, cap2_4, rfl, hw0_4, r4⟩ := CodedPacketO_cells r4
  have kx0 := Bx.new w4 [.int .i64 f0_A, .slice ad1_4 n1_4 cap1_4, .slice ad2_4 n2_4 cap2_4] 31
  have hb := below_box w4 (.cells #[.int .i64 f0_A, .slice ad1_4 n1_4 cap1_4, .slice ad2_4 n2_4 cap2_4] 31)
  have zb4 : (w4.alloc (.cells #[.int .i64 f0_A, .slice ad1_4 n1_4 cap1_4, .slice ad2_4 n2_4 cap2_4] 31)).heap.size = w4.heap.size + 1 := by simp
  replace sA := CodedPacketI_below sA hb (.inr (Nat.le_refl _))
  replace sB := CodedPacketI_below sB hb (.inr (Nat.le_refl _))
  replace r4 := CodedPacketO_below r4 hb (.inr (Nat.le_refl _))
  replace kA := kA.alloc (.cells #[.int .i64 f0_A, .slice ad1_4 n1_4 cap1_4, .slice ad2_4 n2_4 cap2_4] 31)
  clear cA0 cA1 cA2
  have cA0 := kA.cell (i := 0) rfl
  have cA1 := kA.cell (i := 1) rfl
  have cA2 := kA.cell (i := 2) rfl
  replace kB := kB.alloc (.cells #[.int .i64 f0_A, .slice ad1_4 n1_4 cap1_4, .slice ad2_4 n2_4 cap2_4] 31)
  clear cB0 cB1 cB2
  have cB0 := kB.cell (i := 0) rfl
  have cB1 := kB.cell (i := 1) rfl
  have cB2 := kB.cell (i := 2) rfl
  replace frm := frm.trans (hb.mono (by omega))
  clear hb
  have cx00 := kx0.cell (i := 0) rfl
  have cx01 := kx0.cell (i := 1) rfl
  have cx02 := kx0.cell (i := 2) rfl
  go_wp2_with fail
  go_at_call 29
  generalize w4.alloc (.cells #[.int .i64 f0_A, .slice ad1_4 n1_4 cap1_4, .slice ad2_4 n2_4 cap2_4] 31) = y1 at *
  refine (toCodedPacket sB fB).mono ?_
  rintro e w5 ⟨u5, rfl, r5, bl⟩
  have z5 := bl.size
  replace sA := CodedPacketI_below sA bl (by omega)
  replace sB := CodedPacketI_below sB bl (by omega)
  replace r4 := CodedPacketO_below r4 bl (by omega)
  replace kA := kA.below bl (by omega)
  clear cA0 cA1 cA2
  have cA0 := kA.cell (i := 0) rfl
  have cA1 := kA.cell (i := 1) rfl
  have cA2 := kA.cell (i := 2) rfl
  replace kB := kB.below bl (by omega)
  clear cB0 cB1 cB2
  have cB0 := kB.cell (i := 0) rfl
  have cB1 := kB.cell (i := 1) rfl
  have cB2 := kB.cell (i := 2) rfl
  replace kx0 := kx0.below bl (by omega)
  clear cx00 cx01 cx02
  have cx00 := kx0.cell (i := 0) rfl
  have cx01 := kx0.cell (i := 1) rfl
  have cx02 := kx0.cell (i := 2) rfl
  replace frm := frm.trans (bl.mono (by omega))
  clear bl
  obtain ⟨ad1_5, n1_5, cap1_5, ad2_5, n2_5, cap2_5, rfl, hw0_5, r5⟩ := CodedPacketO_cells r5
  have kx1 := Bx.new w5 [.int .i64 f0_B, .slice ad1_5 n1_5 cap1_5, .slice ad2_5 n2_5 cap2_5] 31
  have hb := below_box w5 (.cells #[.int .i64 f0_B, .slice ad1_5 n1_5 cap1_5, .slice ad2_5 n2_5 cap2_5] 31)
  have zb5 : (w5.alloc (.cells #[.int .i64 f0_B, .slice ad1_5 n1_5 cap1_5, .slice ad2_5 n2_5 cap2_5] 31)).heap.size = w5.heap.size + 1 := by simp
  replace sA := CodedPacketI_below sA hb (.inr (Nat.le_refl _))
  replace sB := CodedPacketI_below sB hb (.inr (Nat.le_refl _))
  replace r4 := CodedPacketO_below r4 hb (.inr (Nat.le_refl _))
  replace r5 := CodedPacketO_below r5 hb (.inr (Nat.le_refl _))
  replace kA := kA.alloc (.cells #[.int .i64 f0_B, .slice ad1_5 n1_5 cap1_5, .slice ad2_5 n2_5 cap2_5] 31)
  clear cA0 cA1 cA2
  have cA0 := kA.cell (i := 0) rfl
  have cA1 := kA.cell (i := 1) rfl
  have cA2 := kA.cell (i := 2) rfl
  replace kB := kB.alloc (.cells #[.int .i64 f0_B, .slice ad1_5 n1_5 cap1_5, .slice ad2_5 n2_5 cap2_5] 31)
  clear cB0 cB1 cB2
  have cB0 := kB.cell (i := 0) rfl
  have cB1 := kB.cell (i := 1) rfl
  have cB2 := kB.cell (i := 2) rfl
  replace kx0 := kx0.alloc (.cells #[.int .i64 f0_B, .slice ad1_5 n1_5 cap1_5, .slice ad2_5 n2_5 cap2_5] 31)
  clear cx00 cx01 cx02
  have cx00 := kx0.cell (i := 0) rfl
  have cx01 := kx0.cell (i := 1) rfl
  have cx02 := kx0.cell (i := 2) rfl
  replace frm := frm.trans (hb.mono (by omega))
  clear hb
  have cx10 := kx1.cell (i := 0) rfl
  have cx11 := kx1.cell (i := 1) rfl
  have cx12 := kx1.cell (i := 2) rfl
  go_wp2_with fail
  go_at_call 25
  generalize w5.alloc (.cells #[.int .i64 f0_B, .slice ad1_5 n1_5 cap1_5, .slice ad2_5 n2_5 cap2_5] 31) = y2 at *
  refine (HI.out _ (hTab.below frm (Nat.le_refl _)) _ _ _ (CodedPacketO_is r4) _ _ _ (CodedPacketO_is r5)).mono ?_
  rintro e w6 ⟨rfl, bl⟩
  have z6 := bl.size
  replace sA := CodedPacketI_below sA bl (by omega)
  replace sB := CodedPacketI_below sB bl (by omega)
  replace r4 := CodedPacketO_below r4 bl (by omega)
  replace r5 := CodedPacketO_below r5 bl (by omega)
  replace kA := kA.below bl (by omega)
  clear cA0 cA1 cA2
  have cA0 := kA.cell (i := 0) rfl
  have cA1 := kA.cell (i := 1) rfl
  have cA2 := kA.cell (i := 2) rfl
  replace kB := kB.below bl (by omega)
  clear cB0 cB1 cB2
  have cB0 := kB.cell (i := 0) rfl
  have cB1 := kB.cell (i := 1) rfl
  have cB2 := kB.cell (i := 2) rfl
  replace kx0 := kx0.below bl (by omega)
  clear cx00 cx01 cx02
  have cx00 := kx0.cell (i := 0) rfl
  have cx01 := kx0.cell (i := 1) rfl
  have cx02 := kx0.cell (i := 2) rfl
  replace kx1 := kx1.below bl (by omega)
  clear cx10 cx11 cx12
  have cx10 := kx1.cell (i := 0) rfl
  have cx11 := kx1.cell (i := 1) rfl
  have cx12 := kx1.cell (i := 2) rfl
  replace frm := frm.trans (bl.mono (by omega))
  clear bl
  go_wp2
  replace sA := CodedPacketI_mv sA (Mv.drew (Mv.refl w6 0 0)) (.inr (Nat.zero_le _))
  replace sB := CodedPacketI_mv sB (Mv.drew (Mv.refl w6 0 0)) (.inr (Nat.zero_le _))
  replace r4 := CodedPacketO_mv r4 (Mv.drew (Mv.refl w6 0 0)) (.inr (Nat.zero_le _))
  replace r5 := CodedPacketO_mv r5 (Mv.drew (Mv.refl w6 0 0)) (.inr (Nat.zero_le _))
  replace kA := kA.drew
  clear cA0 cA1 cA2
  have cA0 := kA.cell (i := 0) rfl
  have cA1 := kA.cell (i := 1) rfl
  have cA2 := kA.cell (i := 2) rfl
  replace kB := kB.drew
  clear cB0 cB1 cB2
  have cB0 := kB.cell (i := 0) rfl
  have cB1 := kB.cell (i := 1) rfl
  have cB2 := kB.cell (i := 2) rfl
  replace kx0 := kx0.drew
  clear cx00 cx01 cx02
  have cx00 := kx0.cell (i := 0) rfl
  have cx01 := kx0.cell (i := 1) rfl
  have cx02 := kx0.cell (i := 2) rfl
  replace kx1 := kx1.drew
  clear cx10 cx11 cx12
  have cx10 := kx1.cell (i := 0) rfl
  have cx11 := kx1.cell (i := 1) rfl
  have cx12 := kx1.cell (i := 2) rfl
  replace frm := frm.drew
  have zd : w6.heap.size = w6.drew.heap.size := rfl
  refine wp_region_held (S := fun w' => w'.cell? ⟨w.heap.size, 0, none⟩ = some (.int .i64 f0_A) ∧ w'.cell? ⟨w.heap.size, 1, none⟩ = some (.slice ad1_A n1_A cap1_A) ∧ w'.cell? ⟨w.heap.size, 2, none⟩ = some (.slice ad2_A n2_A cap2_A) ∧ w'.cell? ⟨w.heap.size + 1, 0, none⟩ = some (.int .i64 f0_B) ∧ w'.cell? ⟨w.heap.size + 1, 1, none⟩ = some (.slice ad1_B n1_B cap1_B) ∧ w'.cell? ⟨w.heap.size + 1, 2, none⟩ = some (.slice ad2_B n2_B cap2_B) ∧ w'.cell? ⟨w4.heap.size, 0, none⟩ = some (.int .i64 f0_A) ∧ w'.cell? ⟨w4.heap.size, 1, none⟩ = some (.slice ad1_4 n1_4 cap1_4) ∧ w'.cell? ⟨w4.heap.size, 2, none⟩ = some (.slice ad2_4 n2_4 cap2_4) ∧ w'.cell? ⟨w5.heap.size, 0, none⟩ = some (.int .i64 f0_B) ∧ w'.cell? ⟨w5.heap.size, 1, none⟩ = some (.slice ad1_5 n1_5 cap1_5) ∧ w'.cell? ⟨w5.heap.size, 2, none⟩ = some (.slice ad2_5 n2_5 cap2_5)) (by kernel_rfl) ?_
  change wpAnyH _ _ _ _ _ _ _ _ w6.drew
  generalize w6.drew = d0 at *
  have HH := Lib.hid (show d0.cell? ⟨w.heap.size, 0, none⟩ = some (.int .i64 f0_A) ∧ d0.cell? ⟨w.heap.size, 1, none⟩ = some (.slice ad1_A n1_A cap1_A) ∧ d0.cell? ⟨w.heap.size, 2, none⟩ = some (.slice ad2_A n2_A cap2_A) ∧ d0.cell? ⟨w.heap.size + 1, 0, none⟩ = some (.int .i64 f0_B) ∧ d0.cell? ⟨w.heap.size + 1, 1, none⟩ = some (.slice ad1_B n1_B cap1_B) ∧ d0.cell? ⟨w.heap.size + 1, 2, none⟩ = some (.slice ad2_B n2_B cap2_B) ∧ d0.cell? ⟨w4.heap.size, 0, none⟩ = some (.int .i64 f0_A) ∧ d0.cell? ⟨w4.heap.size, 1, none⟩ = some (.slice ad1_4 n1_4 cap1_4) ∧ d0.cell? ⟨w4.heap.size, 2, none⟩ = some (.slice ad2_4 n2_4 cap2_4) ∧ d0.cell? ⟨w5.heap.size, 0, none⟩ = some (.int .i64 f0_B) ∧ d0.cell? ⟨w5.heap.size, 1, none⟩ = some (.slice ad1_5 n1_5 cap1_5) ∧ d0.cell? ⟨w5.heap.size, 2, none⟩ = some (.slice ad2_5 n2_5 cap2_5) from ⟨cA0, cA1, cA2, cB0, cB1, cB2, cx00, cx01, cx02, cx10, cx11, cx12⟩)
  refine wpAnyH_take (i := 0) (oi := ⟨some _, _, _, _, _, _⟩) (v := ?_) rfl (by kernel_rfl) (by kernel_rfl) (by kernel_rfl) (fun _ _ _ h => h) (Or.inl ⟨by rfl, ?_⟩) HH.out ?_
  rotate_left
  · intro wS hSw
    try dsimp only at hSw
    go_simp
    all_goals (with_reducible rfl)
  simp only [Act.put, List.setIfInBounds_toArray, List.set_cons_zero, List.set_cons_succ]
  refine wpAnyH_take (i := 1) (oi := ⟨some _, _, _, _, _, _⟩) (v := ?_) rfl (by kernel_rfl) (by kernel_rfl) (by kernel_rfl) (fun _ _ _ h => h) (Or.inl ⟨by rfl, ?_⟩) HH.out ?_
  rotate_left
  · intro wS hSw
    try dsimp only at hSw
    go_simp
    all_goals (with_reducible rfl)
  simp only [Act.put, List.setIfInBounds_toArray, List.set_cons_zero, List.set_cons_succ]
  clear HH
  refine wpAnyH_ready (rs := [2]) (by kernel_rfl) (by simp) ?_
  refine AllReadyH.cons (o := ⟨some _, _, _, _, _, _⟩) rfl (fun Kq hKq => ?_) AllReadyH.nil
  go_simp
  refine (toCodedPacket sA fA).mono ?_
  rintro e w7 ⟨u7, rfl, r7, bl⟩
  have z7 := bl.size
  replace sB := CodedPacketI_below sB bl (by omega)
  replace r4 := CodedPacketO_below r4 bl (by omega)
  replace r5 := CodedPacketO_below r5 bl (by omega)
  replace kA := kA.below bl (by omega)
  clear cA0 cA1 cA2
  have cA0 := kA.cell (i := 0) rfl
  have cA1 := kA.cell (i := 1) rfl
  have cA2 := kA.cell (i := 2) rfl
  replace kB := kB.below bl (by omega)
  clear cB0 cB1 cB2
  have cB0 := kB.cell (i := 0) rfl
  have cB1 := kB.cell (i := 1) rfl
  have cB2 := kB.cell (i := 2) rfl
  replace kx0 := kx0.below bl (by omega)
  clear cx00 cx01 cx02
  have cx00 := kx0.cell (i := 0) rfl
  have cx01 := kx0.cell (i := 1) rfl
  have cx02 := kx0.cell (i := 2) rfl
  replace kx1 := kx1.below bl (by omega)
  clear cx10 cx11 cx12
  have cx10 := kx1.cell (i := 0) rfl
  have cx11 := kx1.cell (i := 1) rfl
  have cx12 := kx1.cell (i := 2) rfl
  replace frm := frm.trans (bl.mono (by omega))
  clear bl
  obtain ⟨ad1_7, n1_7, cap1_7, ad2_7, n2_7, cap2_7, rfl, hw0_7, r7⟩ := CodedPacketO_cells r7
  have HH := Lib.hid (show w7.cell? ⟨w.heap.size, 0, none⟩ = some (.int .i64 f0_A) ∧ w7.cell? ⟨w.heap.size, 1, none⟩ = some (.slice ad1_A n1_A cap1_A) ∧ w7.cell? ⟨w.heap.size, 2, none⟩ = some (.slice ad2_A n2_A cap2_A) ∧ w7.cell? ⟨w.heap.size + 1, 0, none⟩ = some (.int .i64 f0_B) ∧ w7.cell? ⟨w.heap.size + 1, 1, none⟩ = some (.slice ad1_B n1_B cap1_B) ∧ w7.cell? ⟨w.heap.size + 1, 2, none⟩ = some (.slice ad2_B n2_B cap2_B) ∧ w7.cell? ⟨w4.heap.size, 0, none⟩ = some (.int .i64 f0_A) ∧ w7.cell? ⟨w4.heap.size, 1, none⟩ = some (.slice ad1_4 n1_4 cap1_4) ∧ w7.cell? ⟨w4.heap.size, 2, none⟩ = some (.slice ad2_4 n2_4 cap2_4) ∧ w7.cell? ⟨w5.heap.size, 0, none⟩ = some (.int .i64 f0_B) ∧ w7.cell? ⟨w5.heap.size, 1, none⟩ = some (.slice ad1_5 n1_5 cap1_5) ∧ w7.cell? ⟨w5.heap.size, 2, none⟩ = some (.slice ad2_5 n2_5 cap2_5) from ⟨cA0, cA1, cA2, cB0, cB1, cB2, cx00, cx01, cx02, cx10, cx11, cx12⟩)
  refine hKq.out _ _ HH.out (fun _ => ?_)
  clear hKq Kq
  clear HH
  refine wpAnyH_ready (rs := [3]) (by kernel_rfl) (by simp) ?_
  refine AllReadyH.cons (o := ⟨some _, _, _, _, _, _⟩) rfl (fun Kq hKq => ?_) AllReadyH.nil
  go_simp
  refine (eqCodedPacket (CodedPacketO_is r4) (CodedPacketO_is r7) fA rfl).mono ?_
  rintro e w8 ⟨rfl, bl⟩
  have z8 := bl.size
  replace sB := CodedPacketI_below sB bl (by omega)
  replace r5 := CodedPacketO_below r5 bl (by omega)
  replace kA := kA.below bl (by omega)
  clear cA0 cA1 cA2
  have cA0 := kA.cell (i := 0) rfl
  have cA1 := kA.cell (i := 1) rfl
  have cA2 := kA.cell (i := 2) rfl
  replace kB := kB.below bl (by omega)
  clear cB0 cB1 cB2
  have cB0 := kB.cell (i := 0) rfl
  have cB1 := kB.cell (i := 1) rfl
  have cB2 := kB.cell (i := 2) rfl
  replace kx0 := kx0.below bl (by omega)
  clear cx00 cx01 cx02
  have cx00 := kx0.cell (i := 0) rfl
  have cx01 := kx0.cell (i := 1) rfl
  have cx02 := kx0.cell (i := 2) rfl
  replace kx1 := kx1.below bl (by omega)
  clear cx10 cx11 cx12
  have cx10 := kx1.cell (i := 0) rfl
  have cx11 := kx1.cell (i := 1) rfl
  have cx12 := kx1.cell (i := 2) rfl
  replace frm := frm.trans (bl.mono (by omega))
  clear bl
  have HH := Lib.hid (show w8.cell? ⟨w.heap.size, 0, none⟩ = some (.int .i64 f0_A) ∧ w8.cell? ⟨w.heap.size, 1, none⟩ = some (.slice ad1_A n1_A cap1_A) ∧ w8.cell? ⟨w.heap.size, 2, none⟩ = some (.slice ad2_A n2_A cap2_A) ∧ w8.cell? ⟨w.heap.size + 1, 0, none⟩ = some (.int .i64 f0_B) ∧ w8.cell? ⟨w.heap.size + 1, 1, none⟩ = some (.slice ad1_B n1_B cap1_B) ∧ w8.cell? ⟨w.heap.size + 1, 2, none⟩ = some (.slice ad2_B n2_B cap2_B) ∧ w8.cell? ⟨w4.heap.size, 0, none⟩ = some (.int .i64 f0_A) ∧ w8.cell? ⟨w4.heap.size, 1, none⟩ = some (.slice ad1_4 n1_4 cap1_4) ∧ w8.cell? ⟨w4.heap.size, 2, none⟩ = some (.slice ad2_4 n2_4 cap2_4) ∧ w8.cell? ⟨w5.heap.size, 0, none⟩ = some (.int .i64 f0_B) ∧ w8.cell? ⟨w5.heap.size, 1, none⟩ = some (.slice ad1_5 n1_5 cap1_5) ∧ w8.cell? ⟨w5.heap.size, 2, none⟩ = some (.slice ad2_5 n2_5 cap2_5) from ⟨cA0, cA1, cA2, cB0, cB1, cB2, cx00, cx01, cx02, cx10, cx11, cx12⟩)
  refine hKq.out _ _ HH.out (fun _ => ?_)
  clear hKq Kq
  try simp only [Act.put, List.setIfInBounds_toArray, List.set_cons_zero, List.set_cons_succ]
  refine wpAnyH_take (i := 4) (oi := ⟨some _, _, _, _, _, _⟩) (v := ?_) rfl (by kernel_rfl) (by kernel_rfl) (by kernel_rfl) (fun _ _ _ h => h) (Or.inl ⟨by rfl, ?_⟩) HH.out ?_
  rotate_left
  · intro wS hSw
    try dsimp only at hSw
    go_simp
    all_goals (with_reducible rfl)
  simp only [Act.put, List.setIfInBounds_toArray, List.set_cons_zero, List.set_cons_succ]
  refine wpAnyH_done (by kernel_rfl) ?_ _
  clear HH
  clear r4
  clear r7
  go_wp2
  replace sB := CodedPacketI_mv sB (Mv.drew (Mv.refl w8 0 0)) (.inr (Nat.zero_le _))
  replace r5 := CodedPacketO_mv r5 (Mv.drew (Mv.refl w8 0 0)) (.inr (Nat.zero_le _))
  replace kA := kA.drew
  clear cA0 cA1 cA2
  have cA0 := kA.cell (i := 0) rfl
  have cA1 := kA.cell (i := 1) rfl
  have cA2 := kA.cell (i := 2) rfl
  replace kB := kB.drew
  clear cB0 cB1 cB2
  have cB0 := kB.cell (i := 0) rfl
  have cB1 := kB.cell (i := 1) rfl
  have cB2 := kB.cell (i := 2) rfl
  replace kx0 := kx0.drew
  clear cx00 cx01 cx02
  have cx00 := kx0.cell (i := 0) rfl
  have cx01 := kx0.cell (i := 1) rfl
  have cx02 := kx0.cell (i := 2) rfl
  replace kx1 := kx1.drew
  clear cx10 cx11 cx12
  have cx10 := kx1.cell (i := 0) rfl
  have cx11 := kx1.cell (i := 1) rfl
  have cx12 := kx1.cell (i := 2) rfl
  replace frm := frm.drew
  have zd : w8.heap.size = w8.drew.heap.size := rfl
  refine wp_region_held (S := fun w' => w'.cell? ⟨w.heap.size, 0, none⟩ = some (.int .i64 f0_A) ∧ w'.cell? ⟨w.heap.size, 1, none⟩ = some (.slice ad1_A n1_A cap1_A) ∧ w'.cell? ⟨w.heap.size, 2, none⟩ = some (.slice ad2_A n2_A cap2_A) ∧ w'.cell? ⟨w.heap.size + 1, 0, none⟩ = some (.int .i64 f0_B) ∧ w'.cell? ⟨w.heap.size + 1, 1, none⟩ = some (.slice ad1_B n1_B cap1_B) ∧ w'.cell? ⟨w.heap.size + 1, 2, none⟩ = some (.slice ad2_B n2_B cap2_B) ∧ w'.cell? ⟨w4.heap.size, 0, none⟩ = some (.int .i64 f0_A) ∧ w'.cell? ⟨w4.heap.size, 1, none⟩ = some (.slice ad1_4 n1_4 cap1_4) ∧ w'.cell? ⟨w4.heap.size, 2, none⟩ = some (.slice ad2_4 n2_4 cap2_4) ∧ w'.cell? ⟨w5.heap.size, 0, none⟩ = some (.int .i64 f0_B) ∧ w'.cell? ⟨w5.heap.size, 1, none⟩ = some (.slice ad1_5 n1_5 cap1_5) ∧ w'.cell? ⟨w5.heap.size, 2, none⟩ = some (.slice ad2_5 n2_5 cap2_5)) (by kernel_rfl) ?_
  change wpAnyH _ _ _ _ _ _ _ _ w8.drew
  generalize w8.drew = d0 at *
  have HH := Lib.hid (show d0.cell? ⟨w.heap.size, 0, none⟩ = some (.int .i64 f0_A) ∧ d0.cell? ⟨w.heap.size, 1, none⟩ = some (.slice ad1_A n1_A cap1_A) ∧ d0.cell? ⟨w.heap.size, 2, none⟩ = some (.slice ad2_A n2_A cap2_A) ∧ d0.cell? ⟨w.heap.size + 1, 0, none⟩ = some (.int .i64 f0_B) ∧ d0.cell? ⟨w.heap.size + 1, 1, none⟩ = some (.slice ad1_B n1_B cap1_B) ∧ d0.cell? ⟨w.heap.size + 1, 2, none⟩ = some (.slice ad2_B n2_B cap2_B) ∧ d0.cell? ⟨w4.heap.size, 0, none⟩ = some (.int .i64 f0_A) ∧ d0.cell? ⟨w4.heap.size, 1, none⟩ = some (.slice ad1_4 n1_4 cap1_4) ∧ d0.cell? ⟨w4.heap.size, 2, none⟩ = some (.slice ad2_4 n2_4 cap2_4) ∧ d0.cell? ⟨w5.heap.size, 0, none⟩ = some (.int .i64 f0_B) ∧ d0.cell? ⟨w5.heap.size, 1, none⟩ = some (.slice ad1_5 n1_5 cap1_5) ∧ d0.cell? ⟨w5.heap.size, 2, none⟩ = some (.slice ad2_5 n2_5 cap2_5) from ⟨cA0, cA1, cA2, cB0, cB1, cB2, cx00, cx01, cx02, cx10, cx11, cx12⟩)
  refine wpAnyH_take (i := 0) (oi := ⟨some _, _, _, _, _, _⟩) (v := ?_) rfl (by kernel_rfl) (by kernel_rfl) (by kernel_rfl) (fun _ _ _ h => h) (Or.inl ⟨by rfl, ?_⟩) HH.out ?_
  rotate_left
  · intro wS hSw
    try dsimp only at hSw
    go_simp
    all_goals (with_reducible rfl)
  simp only [Act.put, List.setIfInBounds_toArray, List.set_cons_zero, List.set_cons_succ]
  refine wpAnyH_take (i := 1) (oi := ⟨some _, _, _, _, _, _⟩) (v := ?_) rfl (by kernel_rfl) (by kernel_rfl) (by kernel_rfl) (fun _ _ _ h => h) (Or.inl ⟨by rfl, ?_⟩) HH.out ?_
  rotate_left
  · intro wS hSw
    try dsimp only at hSw
    go_simp
    all_goals (with_reducible rfl)
  simp only [Act.put, List.setIfInBounds_toArray, List.set_cons_zero, List.set_cons_succ]
  clear HH
  refine wpAnyH_ready (rs := [2]) (by kernel_rfl) (by simp) ?_
  refine AllReadyH.cons (o := ⟨some _, _, _, _, _, _⟩) rfl (fun Kq hKq => ?_) AllReadyH.nil
  go_simp
  refine (toCodedPacket sB fB).mono ?_
  rintro e w9 ⟨u9, rfl, r9, bl⟩
  have z9 := bl.size
  replace r5 := CodedPacketO_below r5 bl (by omega)
  replace kA := kA.below bl (by omega)
  clear cA0 cA1 cA2
  have cA0 := kA.cell (i := 0) rfl
  have cA1 := kA.cell (i := 1) rfl
  have cA2 := kA.cell (i := 2) rfl
  replace kB := kB.below bl (by omega)
  clear cB0 cB1 cB2
  have cB0 := kB.cell (i := 0) rfl
  have cB1 := kB.cell (i := 1) rfl
  have cB2 := kB.cell (i := 2) rfl
  replace kx0 := kx0.below bl (by omega)
  clear cx00 cx01 cx02
  have cx00 := kx0.cell (i := 0) rfl
  have cx01 := kx0.cell (i := 1) rfl
  have cx02 := kx0.cell (i := 2) rfl
  replace kx1 := kx1.below bl (by omega)
  clear cx10 cx11 cx12
  have cx10 := kx1.cell (i := 0) rfl
  have cx11 := kx1.cell (i := 1) rfl
  have cx12 := kx1.cell (i := 2) rfl
  replace frm := frm.trans (bl.mono (by omega))
  clear bl
  obtain ⟨ad1_9, n1_9, cap1_9, ad2_9, n2_9, cap2_9, rfl, hw0_9, r9⟩ := CodedPacketO_cells r9
  have HH := Lib.hid (show w9.cell? ⟨w.heap.size, 0, none⟩ = some (.int .i64 f0_A) ∧ w9.cell? ⟨w.heap.size, 1, none⟩ = some (.slice ad1_A n1_A cap1_A) ∧ w9.cell? ⟨w.heap.size, 2, none⟩ = some (.slice ad2_A n2_A cap2_A) ∧ w9.cell? ⟨w.heap.size + 1, 0, none⟩ = some (.int .i64 f0_B) ∧ w9.cell? ⟨w.heap.size + 1, 1, none⟩ = some (.slice ad1_B n1_B cap1_B) ∧ w9.cell? ⟨w.heap.size + 1, 2, none⟩ = some (.slice ad2_B n2_B cap2_B) ∧ w9.cell? ⟨w4.heap.size, 0, none⟩ = some (.int .i64 f0_A) ∧ w9.cell? ⟨w4.heap.size, 1, none⟩ = some (.slice ad1_4 n1_4 cap1_4) ∧ w9.cell? ⟨w4.heap.size, 2, none⟩ = some (.slice ad2_4 n2_4 cap2_4) ∧ w9.cell? ⟨w5.heap.size, 0, none⟩ = some (.int .i64 f0_B) ∧ w9.cell? ⟨w5.heap.size, 1, none⟩ = some (.slice ad1_5 n1_5 cap1_5) ∧ w9.cell? ⟨w5.heap.size, 2, none⟩ = some (.slice ad2_5 n2_5 cap2_5) from ⟨cA0, cA1, cA2, cB0, cB1, cB2, cx00, cx01, cx02, cx10, cx11, cx12⟩)
  refine hKq.out _ _ HH.out (fun _ => ?_)
  clear hKq Kq
  clear HH
  refine wpAnyH_ready (rs := [3]) (by kernel_rfl) (by simp) ?_
  refine AllReadyH.cons (o := ⟨some _, _, _, _, _, _⟩) rfl (fun Kq hKq => ?_) AllReadyH.nil
  go_simp
  refine (eqCodedPacket (CodedPacketO_is r5) (CodedPacketO_is r9) fB rfl).mono ?_
  rintro e w10 ⟨rfl, bl⟩
  have z10 := bl.size
  replace kA := kA.below bl (by omega)
  clear cA0 cA1 cA2
  have cA0 := kA.cell (i := 0) rfl
  have cA1 := kA.cell (i := 1) rfl
  have cA2 := kA.cell (i := 2) rfl
  replace kB := kB.below bl (by omega)
  clear cB0 cB1 cB2
  have cB0 := kB.cell (i := 0) rfl
  have cB1 := kB.cell (i := 1) rfl
  have cB2 := kB.cell (i := 2) rfl
  replace kx0 := kx0.below bl (by omega)
  clear cx00 cx01 cx02
  have cx00 := kx0.cell (i := 0) rfl
  have cx01 := kx0.cell (i := 1) rfl
  have cx02 := kx0.cell (i := 2) rfl
  replace kx1 := kx1.below bl (by omega)
  clear cx10 cx11 cx12
  have cx10 := kx1.cell (i := 0) rfl
  have cx11 := kx1.cell (i := 1) rfl
  have cx12 := kx1.cell (i := 2) rfl
  replace frm := frm.trans (bl.mono (by omega))
  clear bl
  have HH := Lib.hid (show w10.cell? ⟨w.heap.size, 0, none⟩ = some (.int .i64 f0_A) ∧ w10.cell? ⟨w.heap.size, 1, none⟩ = some (.slice ad1_A n1_A cap1_A) ∧ w10.cell? ⟨w.heap.size, 2, none⟩ = some (.slice ad2_A n2_A cap2_A) ∧ w10.cell? ⟨w.heap.size + 1, 0, none⟩ = some (.int .i64 f0_B) ∧ w10.cell? ⟨w.heap.size + 1, 1, none⟩ = some (.slice ad1_B n1_B cap1_B) ∧ w10.cell? ⟨w.heap.size + 1, 2, none⟩ = some (.slice ad2_B n2_B cap2_B) ∧ w10.cell? ⟨w4.heap.size, 0, none⟩ = some (.int .i64 f0_A) ∧ w10.cell? ⟨w4.heap.size, 1, none⟩ = some (.slice ad1_4 n1_4 cap1_4) ∧ w10.cell? ⟨w4.heap.size, 2, none⟩ = some (.slice ad2_4 n2_4 cap2_4) ∧ w10.cell? ⟨w5.heap.size, 0, none⟩ = some (.int .i64 f0_B) ∧ w10.cell? ⟨w5.heap.size, 1, none⟩ = some (.slice ad1_5 n1_5 cap1_5) ∧ w10.cell? ⟨w5.heap.size, 2, none⟩ = some (.slice ad2_5 n2_5 cap2_5) from ⟨cA0, cA1, cA2, cB0, cB1, cB2, cx00, cx01, cx02, cx10, cx11, cx12⟩)
  refine hKq.out _ _ HH.out (fun _ => ?_)
  clear hKq Kq
  try simp only [Act.put, List.setIfInBounds_toArray, List.set_cons_zero, List.set_cons_succ]
  refine wpAnyH_take (i := 4) (oi := ⟨some _, _, _, _, _, _⟩) (v := ?_) rfl (by kernel_rfl) (by kernel_rfl) (by kernel_rfl) (fun _ _ _ h => h) (Or.inl ⟨by rfl, ?_⟩) HH.out ?_
  rotate_left
  · intro wS hSw
    try dsimp only at hSw
    go_simp
    all_goals (with_reducible rfl)
  simp only [Act.put, List.setIfInBounds_toArray, List.set_cons_zero, List.set_cons_succ]
  refine wpAnyH_done (by kernel_rfl) ?_ _
  clear HH
  clear r5
  clear r9
  go_wp2
  go_ret
  exact ⟨rfl, frm⟩

end Go.Proofs.YtkhfkccbnhjmjaaDoor.LawPktEx
