/-
  Exact laws walked, over the contracts of what they call.
-/
import Derived.Test.YtefcfeikooknmaaGreatGP
import Derived.Test.YtefcfeikooknmaaGreatGQ
import Derived.Test.YtefcfeikooknmaaGreatGA
import Derived.Deep.DeepCutAuto
namespace Go.Proofs.YtefcfeikooknmaaGreat.LawSubEx
open Go.ChangeShapes Go.WideShapes Go.ChangeAt Go.RowKit
open Go.Proofs.YtefcfeikooknmaaGreat.Drawn Go.Proofs.YtefcfeikooknmaaGreat.Seq Go.Proofs.YtefcfeikooknmaaGreat.Help Go.Proofs.YtefcfeikooknmaaGreat.Shape




set_option maxRecDepth 100000 in
set_option maxHeartbeats 1600000 in
theorem exactOrthogonalSpace (w : World) (vB : Value) (iaB : ∃ x, BasisI w 0 w.heap.size vB x) :
    Calls Tryz.prog 4 #[vB] w fun e w' => e = .returned (.bool true) ∧ Below w.heap.size w w' := by
  obtain ⟨⟨WB, MB⟩, _, rfl, hwB, adB, nB, capB, rfl, sB⟩ := iaB
  replace sB : BasisI w 0 w.heap.size (.agg #[.int .i64 WB, .slice adB nB capB]) (WB, MB) := ⟨_, rfl, hwB, _, _, _, rfl, sB⟩
  have frm := Below.refl w.heap.size w
  have kB := Blk.new w (.int .i64 WB) (.slice adB nB capB) 33
  replace frm := frm.alloc (by first | exact Nat.le_refl _ | (simp; done) | (simp; omega)) (.cells #[.int .i64 WB, .slice adB nB capB] 33)
  replace sB := BasisI_below sB frm (.inr (Nat.le_refl _))
  have cB0 := kB.c0
  have cB1 := kB.c1
  have zw : (w.alloc (.cells #[.int .i64 WB, .slice adB nB capB] 33)).heap.size = w.heap.size + 1 := by simp
  go_enter Tryz.func4, Tryz.ntmps4
  go_wp2_with fail
  go_at_call 14
  generalize w.alloc (.cells #[.int .i64 WB, .slice adB nB capB] 33) = y0 at *
  refine (szBasis sB 1048576 (by omega) (by omega)).mono ?_
  rintro e wsB ⟨leftB, rfl, leB, riB, fB, bl⟩
  have zsB := bl.size
  replace sB := BasisI_below sB bl (by omega)
  replace kB := kB.below bl (by omega)
  clear cB0 cB1
  have cB0 := kB.c0
  have cB1 := kB.c1
  replace frm := frm.trans (bl.mono (by omega))
  clear bl
  by_cases hlB : 0 ≤ leftB
  case neg =>
    clear fB
    go_wp2
    go_ret
    exact ⟨rfl, frm⟩
  replace fB := fB hlB
  have cS := fun (w' : World) (lB hB : Nat) (uB : Value) (sB : BasisI w' lB hB uB (WB, MB)) => SubW.orthS w' sB fB
  have cI := fun (w' : World) (lB hB : Nat) (uB : Value) (sB : BasisI w' lB hB uB (WB, MB)) => SubI.orth w' sB fB
  try dsimp only at cS cI
  have hfit : BasisF ((Bas.orthOf (WB, MB))) := by exact SubW.small_orth _
  generalize hR : (Bas.orthOf (WB, MB)) = R at cS cI hfit
  clear hR
  obtain ⟨WR, MR⟩ := R
  have HS := Lib.hid cS
  have HI := Lib.hid cI
  clear cS cI
  have hcnt := BasisC_le hfit
  have hkB := BasisC_le fB
  go_wp2_with fail
  go_at_call 16
  refine (toBasis sB fB).mono ?_
  rintro e w1 ⟨u1, rfl, r1, bl⟩
  have z1 := bl.size
  replace sB := BasisI_below sB bl (by omega)
  replace kB := kB.below bl (by omega)
  clear cB0 cB1
  have cB0 := kB.c0
  have cB1 := kB.c1
  replace frm := frm.trans (bl.mono (by omega))
  clear bl
  obtain ⟨_, rfl, hw1, ad1, n1, cap1, us1, rfl, r1⟩ := r1
  replace r1 : BasisO w1 _ _ (.agg #[.int .i64 WB, .slice ad1 n1 cap1]) (WB, MB) := ⟨_, rfl, hw1, _, _, _, _, rfl, r1⟩
  go_wp2_with fail
  go_at_call 15
  refine (HS.out _ _ _ _ (BasisO_is r1)).mono ?_
  rintro e w2 ⟨u2, rfl, r2, bl⟩
  have z2 := bl.size
  replace sB := BasisI_below sB bl (by omega)
  replace kB := kB.below bl (by omega)
  clear cB0 cB1
  have cB0 := kB.c0
  have cB1 := kB.c1
  replace frm := frm.trans (bl.mono (by omega))
  clear bl
  obtain ⟨_, rfl, hw2, ad2, n2, cap2, rfl, r2⟩ := r2
  replace r2 : BasisI w2 _ _ (.agg #[.int .i64 WR, .slice ad2 n2 cap2]) (WR, MR) := ⟨_, rfl, hw2, _, _, _, rfl, r2⟩
  have kw0 := Blk.new w2 (.int .i64 WR) (.slice ad2 n2 cap2) 26
  have hb := below_box w2 (.cells #[.int .i64 WR, .slice ad2 n2 cap2] 26)
  have zb2 : (w2.alloc (.cells #[.int .i64 WR, .slice ad2 n2 cap2] 26)).heap.size = w2.heap.size + 1 := by simp
  replace sB := BasisI_below sB hb (.inr (Nat.le_refl _))
  replace r2 := BasisI_below r2 hb (.inr (Nat.le_refl _))
  replace kB := kB.alloc (.cells #[.int .i64 WR, .slice ad2 n2 cap2] 26)
  clear cB0 cB1
  have cB0 := kB.c0
  have cB1 := kB.c1
  replace frm := frm.trans (hb.mono (by omega))
  clear hb
  have cw00 := kw0.c0
  have cw01 := kw0.c1
  clear r1
  go_wp2_with fail
  go_at_call 16
  generalize w2.alloc (.cells #[.int .i64 WR, .slice ad2 n2 cap2] 26) = y1 at *
  refine (toBasis sB fB).mono ?_
  rintro e w3 ⟨u3, rfl, r3, bl⟩
  have z3 := bl.size
  replace sB := BasisI_below sB bl (by omega)
  replace r2 := BasisI_below r2 bl (by omega)
  replace kB := kB.below bl (by omega)
  clear cB0 cB1
  have cB0 := kB.c0
  have cB1 := kB.c1
  replace kw0 := kw0.below bl (by omega)
  clear cw00 cw01
  have cw00 := kw0.c0
  have cw01 := kw0.c1
  replace frm := frm.trans (bl.mono (by omega))
  clear bl
  obtain ⟨_, rfl, hw3, ad3, n3, cap3, us3, rfl, r3⟩ := r3
  replace r3 : BasisO w3 _ _ (.agg #[.int .i64 WB, .slice ad3 n3 cap3]) (WB, MB) := ⟨_, rfl, hw3, _, _, _, _, rfl, r3⟩
  have kx0 := Blk.new w3 (.int .i64 WB) (.slice ad3 n3 cap3) 26
  have hb := below_box w3 (.cells #[.int .i64 WB, .slice ad3 n3 cap3] 26)
  have zb3 : (w3.alloc (.cells #[.int .i64 WB, .slice ad3 n3 cap3] 26)).heap.size = w3.heap.size + 1 := by simp
  replace sB := BasisI_below sB hb (.inr (Nat.le_refl _))
  replace r2 := BasisI_below r2 hb (.inr (Nat.le_refl _))
  replace r3 := BasisO_below r3 hb (.inr (Nat.le_refl _))
  replace kB := kB.alloc (.cells #[.int .i64 WB, .slice ad3 n3 cap3] 26)
  clear cB0 cB1
  have cB0 := kB.c0
  have cB1 := kB.c1
  replace kw0 := kw0.alloc (.cells #[.int .i64 WB, .slice ad3 n3 cap3] 26)
  clear cw00 cw01
  have cw00 := kw0.c0
  have cw01 := kw0.c1
  replace frm := frm.trans (hb.mono (by omega))
  clear hb
  have cx00 := kx0.c0
  have cx01 := kx0.c1
  go_wp2_with fail
  go_at_call 17
  generalize w3.alloc (.cells #[.int .i64 WB, .slice ad3 n3 cap3] 26) = y2 at *
  refine (HI.out _ _ _ _ (BasisO_is r3)).mono ?_
  rintro e w4 ⟨u4, rfl, r4, bl⟩
  have z4 := bl.size
  replace sB := BasisI_below sB bl (by omega)
  replace r2 := BasisI_below r2 bl (by omega)
  replace r3 := BasisO_below r3 bl (by omega)
  replace kB := kB.below bl (by omega)
  clear cB0 cB1
  have cB0 := kB.c0
  have cB1 := kB.c1
  replace kw0 := kw0.below bl (by omega)
  clear cw00 cw01
  have cw00 := kw0.c0
  have cw01 := kw0.c1
  replace kx0 := kx0.below bl (by omega)
  clear cx00 cx01
  have cx00 := kx0.c0
  have cx01 := kx0.c1
  replace frm := frm.trans (bl.mono (by omega))
  clear bl
  obtain ⟨_, rfl, hw4, ad4, n4, cap4, us4, rfl, r4⟩ := r4
  replace r4 : BasisO w4 _ _ (.agg #[.int .i64 WR, .slice ad4 n4 cap4]) (WR, MR) := ⟨_, rfl, hw4, _, _, _, _, rfl, r4⟩
  have kg0 := Blk.new w4 (.int .i64 WR) (.slice ad4 n4 cap4) 26
  have hb := below_box w4 (.cells #[.int .i64 WR, .slice ad4 n4 cap4] 26)
  have zb4 : (w4.alloc (.cells #[.int .i64 WR, .slice ad4 n4 cap4] 26)).heap.size = w4.heap.size + 1 := by simp
  replace sB := BasisI_below sB hb (.inr (Nat.le_refl _))
  replace r2 := BasisI_below r2 hb (.inr (Nat.le_refl _))
  replace r3 := BasisO_below r3 hb (.inr (Nat.le_refl _))
  replace r4 := BasisO_below r4 hb (.inr (Nat.le_refl _))
  replace kB := kB.alloc (.cells #[.int .i64 WR, .slice ad4 n4 cap4] 26)
  clear cB0 cB1
  have cB0 := kB.c0
  have cB1 := kB.c1
  replace kw0 := kw0.alloc (.cells #[.int .i64 WR, .slice ad4 n4 cap4] 26)
  clear cw00 cw01
  have cw00 := kw0.c0
  have cw01 := kw0.c1
  replace kx0 := kx0.alloc (.cells #[.int .i64 WR, .slice ad4 n4 cap4] 26)
  clear cx00 cx01
  have cx00 := kx0.c0
  have cx01 := kx0.c1
  replace frm := frm.trans (hb.mono (by omega))
  clear hb
  have cg00 := kg0.c0
  have cg01 := kg0.c1
  go_wp2_with fail
  go_at_call 18
  generalize w4.alloc (.cells #[.int .i64 WR, .slice ad4 n4 cap4] 26) = y3 at *
  refine (eqBasis (BasisO_is r4) r2 hfit rfl).mono ?_
  rintro e w5 ⟨rfl, bl⟩
  have z5 := bl.size
  replace sB := BasisI_below sB bl (by omega)
  replace r2 := BasisI_below r2 bl (by omega)
  replace r3 := BasisO_below r3 bl (by omega)
  replace r4 := BasisO_below r4 bl (by omega)
  replace kB := kB.below bl (by omega)
  clear cB0 cB1
  have cB0 := kB.c0
  have cB1 := kB.c1
  replace kw0 := kw0.below bl (by omega)
  clear cw00 cw01
  have cw00 := kw0.c0
  have cw01 := kw0.c1
  replace kx0 := kx0.below bl (by omega)
  clear cx00 cx01
  have cx00 := kx0.c0
  have cx01 := kx0.c1
  replace kg0 := kg0.below bl (by omega)
  clear cg00 cg01
  have cg00 := kg0.c0
  have cg01 := kg0.c1
  replace frm := frm.trans (bl.mono (by omega))
  clear bl
  go_wp2
  replace sB := BasisI_mv sB (Mv.drew (Mv.refl w5 0 0)) (.inr (Nat.zero_le _))
  replace r2 := BasisI_mv r2 (Mv.drew (Mv.refl w5 0 0)) (.inr (Nat.zero_le _))
  replace r3 := BasisO_mv r3 (Mv.drew (Mv.refl w5 0 0)) (.inr (Nat.zero_le _))
  replace r4 := BasisO_mv r4 (Mv.drew (Mv.refl w5 0 0)) (.inr (Nat.zero_le _))
  replace kB : Blk w5.drew (w.heap.size) _ (.int .i64 WB) (.slice adB nB capB) := ⟨kB.obj⟩
  clear cB0 cB1
  have cB0 := kB.c0
  have cB1 := kB.c1
  replace kw0 : Blk w5.drew (w2.heap.size) _ (.int .i64 WR) (.slice ad2 n2 cap2) := ⟨kw0.obj⟩
  clear cw00 cw01
  have cw00 := kw0.c0
  have cw01 := kw0.c1
  replace kx0 : Blk w5.drew (w3.heap.size) _ (.int .i64 WB) (.slice ad3 n3 cap3) := ⟨kx0.obj⟩
  clear cx00 cx01
  have cx00 := kx0.c0
  have cx01 := kx0.c1
  replace kg0 : Blk w5.drew (w4.heap.size) _ (.int .i64 WR) (.slice ad4 n4 cap4) := ⟨kg0.obj⟩
  clear cg00 cg01
  have cg00 := kg0.c0
  have cg01 := kg0.c1
  replace frm := frm.drew
  have zd : w5.heap.size = w5.drew.heap.size := rfl
  refine wp_region_held (S := fun w' => w'.cell? ⟨w.heap.size, 0, none⟩ = some (.int .i64 WB) ∧ w'.cell? ⟨w.heap.size, 1, none⟩ = some (.slice adB nB capB) ∧ w'.cell? ⟨w2.heap.size, 0, none⟩ = some (.int .i64 WR) ∧ w'.cell? ⟨w2.heap.size, 1, none⟩ = some (.slice ad2 n2 cap2) ∧ w'.cell? ⟨w3.heap.size, 0, none⟩ = some (.int .i64 WB) ∧ w'.cell? ⟨w3.heap.size, 1, none⟩ = some (.slice ad3 n3 cap3) ∧ w'.cell? ⟨w4.heap.size, 0, none⟩ = some (.int .i64 WR) ∧ w'.cell? ⟨w4.heap.size, 1, none⟩ = some (.slice ad4 n4 cap4)) (by kernel_rfl) ?_
  change wpAnyH _ _ _ _ _ _ _ _ w5.drew
  generalize w5.drew = d0 at *
  have HH := Lib.hid (show d0.cell? ⟨w.heap.size, 0, none⟩ = some (.int .i64 WB) ∧ d0.cell? ⟨w.heap.size, 1, none⟩ = some (.slice adB nB capB) ∧ d0.cell? ⟨w2.heap.size, 0, none⟩ = some (.int .i64 WR) ∧ d0.cell? ⟨w2.heap.size, 1, none⟩ = some (.slice ad2 n2 cap2) ∧ d0.cell? ⟨w3.heap.size, 0, none⟩ = some (.int .i64 WB) ∧ d0.cell? ⟨w3.heap.size, 1, none⟩ = some (.slice ad3 n3 cap3) ∧ d0.cell? ⟨w4.heap.size, 0, none⟩ = some (.int .i64 WR) ∧ d0.cell? ⟨w4.heap.size, 1, none⟩ = some (.slice ad4 n4 cap4) from ⟨cB0, cB1, cw00, cw01, cx00, cx01, cg00, cg01⟩)
  refine wpAnyH_take (i := 0) (oi := ⟨some _, _, _, _, _, _⟩) (v := ?_) rfl (by kernel_rfl) (by kernel_rfl) (by kernel_rfl) (fun _ _ _ h => h) (Or.inl ⟨by rfl, ?_⟩) HH.out ?_
  rotate_left
  · intro wS hSw
    try dsimp only at hSw
    go_simp
    all_goals (with_reducible rfl)
  simp only [Act.put, List.setIfInBounds_toArray, List.set_cons_zero, List.set_cons_succ]
  refine wpAnyH_take (i := 1) (oi := ⟨some _, _, _, _, _, _⟩) (v := ?_) rfl (by kernel_rfl) (by kernel_rfl) (by kernel_rfl) (fun _ _ _ h => h) (Or.inl ⟨by rfl, ?_⟩) HH.out ?_
  rotate_left
  · intro wS hSw
    try dsimp only at hSw
    go_simp
    all_goals (with_reducible rfl)
  simp only [Act.put, List.setIfInBounds_toArray, List.set_cons_zero, List.set_cons_succ]
  clear HH
  refine wpAnyH_ready (rs := [2]) (by kernel_rfl) (by simp) ?_
  refine AllReadyH.cons (o := ⟨some _, _, _, _, _, _⟩) rfl (fun Kq hKq => ?_) AllReadyH.nil
  go_simp
  refine (toBasis sB fB).mono ?_
  rintro e w6 ⟨u6, rfl, r6, bl⟩
  have z6 := bl.size
  replace sB := BasisI_below sB bl (by omega)
  replace r2 := BasisI_below r2 bl (by omega)
  replace r3 := BasisO_below r3 bl (by omega)
  replace r4 := BasisO_below r4 bl (by omega)
  replace kB := kB.below bl (by omega)
  clear cB0 cB1
  have cB0 := kB.c0
  have cB1 := kB.c1
  replace kw0 := kw0.below bl (by omega)
  clear cw00 cw01
  have cw00 := kw0.c0
  have cw01 := kw0.c1
  replace kx0 := kx0.below bl (by omega)
  clear cx00 cx01
  have cx00 := kx0.c0
  have cx01 := kx0.c1
  replace kg0 := kg0.below bl (by omega)
  clear cg00 cg01
  have cg00 := kg0.c0
  have cg01 := kg0.c1
  replace frm := frm.trans (bl.mono (by omega))
  clear bl
  obtain ⟨_, rfl, hw6, ad6, n6, cap6, us6, rfl, r6⟩ := r6
  replace r6 : BasisO w6 _ _ (.agg #[.int .i64 WB, .slice ad6 n6 cap6]) (WB, MB) := ⟨_, rfl, hw6, _, _, _, _, rfl, r6⟩
  have HH := Lib.hid (show w6.cell? ⟨w.heap.size, 0, none⟩ = some (.int .i64 WB) ∧ w6.cell? ⟨w.heap.size, 1, none⟩ = some (.slice adB nB capB) ∧ w6.cell? ⟨w2.heap.size, 0, none⟩ = some (.int .i64 WR) ∧ w6.cell? ⟨w2.heap.size, 1, none⟩ = some (.slice ad2 n2 cap2) ∧ w6.cell? ⟨w3.heap.size, 0, none⟩ = some (.int .i64 WB) ∧ w6.cell? ⟨w3.heap.size, 1, none⟩ = some (.slice ad3 n3 cap3) ∧ w6.cell? ⟨w4.heap.size, 0, none⟩ = some (.int .i64 WR) ∧ w6.cell? ⟨w4.heap.size, 1, none⟩ = some (.slice ad4 n4 cap4) from ⟨cB0, cB1, cw00, cw01, cx00, cx01, cg00, cg01⟩)
  refine hKq.out _ _ HH.out (fun _ => ?_)
  clear hKq Kq
  clear HH
  refine wpAnyH_ready (rs := [3]) (by kernel_rfl) (by simp) ?_
  refine AllReadyH.cons (o := ⟨some _, _, _, _, _, _⟩) rfl (fun Kq hKq => ?_) AllReadyH.nil
  go_simp
  refine (eqBasis (BasisO_is r3) (BasisO_is r6) fB rfl).mono ?_
  rintro e w7 ⟨rfl, bl⟩
  have z7 := bl.size
  replace sB := BasisI_below sB bl (by omega)
  replace r2 := BasisI_below r2 bl (by omega)
  replace r3 := BasisO_below r3 bl (by omega)
  replace r4 := BasisO_below r4 bl (by omega)
  replace kB := kB.below bl (by omega)
  clear cB0 cB1
  have cB0 := kB.c0
  have cB1 := kB.c1
  replace kw0 := kw0.below bl (by omega)
  clear cw00 cw01
  have cw00 := kw0.c0
  have cw01 := kw0.c1
  replace kx0 := kx0.below bl (by omega)
  clear cx00 cx01
  have cx00 := kx0.c0
  have cx01 := kx0.c1
  replace kg0 := kg0.below bl (by omega)
  clear cg00 cg01
  have cg00 := kg0.c0
  have cg01 := kg0.c1
  replace frm := frm.trans (bl.mono (by omega))
  clear bl
  have HH := Lib.hid (show w7.cell? ⟨w.heap.size, 0, none⟩ = some (.int .i64 WB) ∧ w7.cell? ⟨w.heap.size, 1, none⟩ = some (.slice adB nB capB) ∧ w7.cell? ⟨w2.heap.size, 0, none⟩ = some (.int .i64 WR) ∧ w7.cell? ⟨w2.heap.size, 1, none⟩ = some (.slice ad2 n2 cap2) ∧ w7.cell? ⟨w3.heap.size, 0, none⟩ = some (.int .i64 WB) ∧ w7.cell? ⟨w3.heap.size, 1, none⟩ = some (.slice ad3 n3 cap3) ∧ w7.cell? ⟨w4.heap.size, 0, none⟩ = some (.int .i64 WR) ∧ w7.cell? ⟨w4.heap.size, 1, none⟩ = some (.slice ad4 n4 cap4) from ⟨cB0, cB1, cw00, cw01, cx00, cx01, cg00, cg01⟩)
  refine hKq.out _ _ HH.out (fun _ => ?_)
  clear hKq Kq
  try simp only [Act.put, List.setIfInBounds_toArray, List.set_cons_zero, List.set_cons_succ]
  refine wpAnyH_take (i := 4) (oi := ⟨some _, _, _, _, _, _⟩) (v := ?_) rfl (by kernel_rfl) (by kernel_rfl) (by kernel_rfl) (fun _ _ _ h => h) (Or.inl ⟨by rfl, ?_⟩) HH.out ?_
  rotate_left
  · intro wS hSw
    try dsimp only at hSw
    go_simp
    all_goals (with_reducible rfl)
  simp only [Act.put, List.setIfInBounds_toArray, List.set_cons_zero, List.set_cons_succ]
  refine wpAnyH_done (by kernel_rfl) ?_ _
  clear HH
  clear r6
  go_wp2_with fail
  go_at_call 19
  refine (markBasis r3 fB (1) (by omega) (by omega)).mono ?_
  rintro e w8 ⟨rfl, new, mv⟩
  have z8 := mv.size
  replace sB := BasisI_mv sB mv (by omega)
  replace r2 := BasisI_mv r2 mv (by omega)
  replace r4 := BasisO_mv r4 mv (by omega)
  replace kB := kB.mv mv (by omega)
  clear cB0 cB1
  have cB0 := kB.c0
  have cB1 := kB.c1
  replace kw0 := kw0.mv mv (by omega)
  clear cw00 cw01
  have cw00 := kw0.c0
  have cw01 := kw0.c1
  replace kx0 := kx0.mv mv (by omega)
  clear cx00 cx01
  have cx00 := kx0.c0
  have cx01 := kx0.c1
  replace kg0 := kg0.mv mv (by omega)
  clear cg00 cg01
  have cg00 := kg0.c0
  have cg01 := kg0.c1
  replace frm := frm.trans (mv.below (by omega) (by omega))
  clear new mv
  clear r3
  go_wp2_with fail
  go_at_call 18
  refine (eqBasis (BasisO_is r4) r2 hfit rfl).mono ?_
  rintro e w9 ⟨rfl, bl⟩
  have z9 := bl.size
  replace sB := BasisI_below sB bl (by omega)
  replace r2 := BasisI_below r2 bl (by omega)
  replace r4 := BasisO_below r4 bl (by omega)
  replace kB := kB.below bl (by omega)
  clear cB0 cB1
  have cB0 := kB.c0
  have cB1 := kB.c1
  replace kw0 := kw0.below bl (by omega)
  clear cw00 cw01
  have cw00 := kw0.c0
  have cw01 := kw0.c1
  replace kx0 := kx0.below bl (by omega)
  clear cx00 cx01
  have cx00 := kx0.c0
  have cx01 := kx0.c1
  replace kg0 := kg0.below bl (by omega)
  clear cg00 cg01
  have cg00 := kg0.c0
  have cg01 := kg0.c1
  replace frm := frm.trans (bl.mono (by omega))
  clear bl
  go_wp2_with fail
  go_at_call 19
  refine (markBasis r4 hfit (1) (by omega) (by omega)).mono ?_
  rintro e w10 ⟨rfl, new, mv⟩
  have z10 := mv.size
  replace sB := BasisI_mv sB mv (by omega)
  replace r2 := BasisI_mv r2 mv (by omega)
  replace kB := kB.mv mv (by omega)
  clear cB0 cB1
  have cB0 := kB.c0
  have cB1 := kB.c1
  replace kw0 := kw0.mv mv (by omega)
  clear cw00 cw01
  have cw00 := kw0.c0
  have cw01 := kw0.c1
  replace kx0 := kx0.mv mv (by omega)
  clear cx00 cx01
  have cx00 := kx0.c0
  have cx01 := kx0.c1
  replace kg0 := kg0.mv mv (by omega)
  clear cg00 cg01
  have cg00 := kg0.c0
  have cg01 := kg0.c1
  replace frm := frm.trans (mv.below (by omega) (by omega))
  have r4m := new
  clear new mv
  go_wp2_with fail
  go_at_call 20
  refine (heldBasis (1) (BasisO_is r4m) hfit (by omega) (by omega)).mono ?_
  rintro e w11 ⟨rfl, bl⟩
  have z11 := bl.size
  replace sB := BasisI_below sB bl (by omega)
  replace r2 := BasisI_below r2 bl (by omega)
  replace r4m := BasisO_below r4m bl (by omega)
  replace kB := kB.below bl (by omega)
  clear cB0 cB1
  have cB0 := kB.c0
  have cB1 := kB.c1
  replace kw0 := kw0.below bl (by omega)
  clear cw00 cw01
  have cw00 := kw0.c0
  have cw01 := kw0.c1
  replace kx0 := kx0.below bl (by omega)
  clear cx00 cx01
  have cx00 := kx0.c0
  have cx01 := kx0.c1
  replace kg0 := kg0.below bl (by omega)
  clear cg00 cg01
  have cg00 := kg0.c0
  have cg01 := kg0.c1
  replace frm := frm.trans (bl.mono (by omega))
  clear bl
  go_wp2_with fail
  go_at_call 16
  refine (toBasis sB fB).mono ?_
  rintro e w12 ⟨u12, rfl, r12, bl⟩
  have z12 := bl.size
  replace r2 := BasisI_below r2 bl (by omega)
  replace r4m := BasisO_below r4m bl (by omega)
  replace kB := kB.below bl (by omega)
  clear cB0 cB1
  have cB0 := kB.c0
  have cB1 := kB.c1
  replace kw0 := kw0.below bl (by omega)
  clear cw00 cw01
  have cw00 := kw0.c0
  have cw01 := kw0.c1
  replace kx0 := kx0.below bl (by omega)
  clear cx00 cx01
  have cx00 := kx0.c0
  have cx01 := kx0.c1
  replace kg0 := kg0.below bl (by omega)
  clear cg00 cg01
  have cg00 := kg0.c0
  have cg01 := kg0.c1
  replace frm := frm.trans (bl.mono (by omega))
  clear bl
  obtain ⟨_, rfl, hw12, ad12, n12, cap12, us12, rfl, r12⟩ := r12
  replace r12 : BasisO w12 _ _ (.agg #[.int .i64 WB, .slice ad12 n12 cap12]) (WB, MB) := ⟨_, rfl, hw12, _, _, _, _, rfl, r12⟩
  go_wp2_with fail
  go_at_call 17
  refine (HI.out _ _ _ _ (BasisO_is r12)).mono ?_
  rintro e w13 ⟨u13, rfl, r13, bl⟩
  have z13 := bl.size
  replace r2 := BasisI_below r2 bl (by omega)
  replace r4m := BasisO_below r4m bl (by omega)
  replace kB := kB.below bl (by omega)
  clear cB0 cB1
  have cB0 := kB.c0
  have cB1 := kB.c1
  replace kw0 := kw0.below bl (by omega)
  clear cw00 cw01
  have cw00 := kw0.c0
  have cw01 := kw0.c1
  replace kx0 := kx0.below bl (by omega)
  clear cx00 cx01
  have cx00 := kx0.c0
  have cx01 := kx0.c1
  replace kg0 := kg0.below bl (by omega)
  clear cg00 cg01
  have cg00 := kg0.c0
  have cg01 := kg0.c1
  replace frm := frm.trans (bl.mono (by omega))
  clear bl
  obtain ⟨_, rfl, hw13, ad13, n13, cap13, us13, rfl, r13⟩ := r13
  replace r13 : BasisO w13 _ _ (.agg #[.int .i64 WR, .slice ad13 n13 cap13]) (WR, MR) := ⟨_, rfl, hw13, _, _, _, _, rfl, r13⟩
  have kh0 := Blk.new w13 (.int .i64 WR) (.slice ad13 n13 cap13) 26
  have hb := below_box w13 (.cells #[.int .i64 WR, .slice ad13 n13 cap13] 26)
  have zb13 : (w13.alloc (.cells #[.int .i64 WR, .slice ad13 n13 cap13] 26)).heap.size = w13.heap.size + 1 := by simp
  replace r2 := BasisI_below r2 hb (.inr (Nat.le_refl _))
  replace r4m := BasisO_below r4m hb (.inr (Nat.le_refl _))
  replace r13 := BasisO_below r13 hb (.inr (Nat.le_refl _))
  replace kB := kB.alloc (.cells #[.int .i64 WR, .slice ad13 n13 cap13] 26)
  clear cB0 cB1
  have cB0 := kB.c0
  have cB1 := kB.c1
  replace kw0 := kw0.alloc (.cells #[.int .i64 WR, .slice ad13 n13 cap13] 26)
  clear cw00 cw01
  have cw00 := kw0.c0
  have cw01 := kw0.c1
  replace kx0 := kx0.alloc (.cells #[.int .i64 WR, .slice ad13 n13 cap13] 26)
  clear cx00 cx01
  have cx00 := kx0.c0
  have cx01 := kx0.c1
  replace kg0 := kg0.alloc (.cells #[.int .i64 WR, .slice ad13 n13 cap13] 26)
  clear cg00 cg01
  have cg00 := kg0.c0
  have cg01 := kg0.c1
  replace frm := frm.trans (hb.mono (by omega))
  clear hb
  have ch00 := kh0.c0
  have ch01 := kh0.c1
  clear r12
  go_wp2_with fail
  go_at_call 18
  generalize w13.alloc (.cells #[.int .i64 WR, .slice ad13 n13 cap13] 26) = y4 at *
  refine (eqBasis (BasisO_is r13) r2 hfit rfl).mono ?_
  rintro e w14 ⟨rfl, bl⟩
  have z14 := bl.size
  replace r4m := BasisO_below r4m bl (by omega)
  replace kB := kB.below bl (by omega)
  clear cB0 cB1
  have cB0 := kB.c0
  have cB1 := kB.c1
  replace kw0 := kw0.below bl (by omega)
  clear cw00 cw01
  have cw00 := kw0.c0
  have cw01 := kw0.c1
  replace kx0 := kx0.below bl (by omega)
  clear cx00 cx01
  have cx00 := kx0.c0
  have cx01 := kx0.c1
  replace kg0 := kg0.below bl (by omega)
  clear cg00 cg01
  have cg00 := kg0.c0
  have cg01 := kg0.c1
  replace kh0 := kh0.below bl (by omega)
  clear ch00 ch01
  have ch00 := kh0.c0
  have ch01 := kh0.c1
  replace frm := frm.trans (bl.mono (by omega))
  clear bl
  clear r13
  go_wp2_with fail
  go_at_call 20
  refine (heldBasis (1) (BasisO_is r4m) hfit (by omega) (by omega)).mono ?_
  rintro e w15 ⟨rfl, bl⟩
  have z15 := bl.size
  replace kB := kB.below bl (by omega)
  clear cB0 cB1
  have cB0 := kB.c0
  have cB1 := kB.c1
  replace kw0 := kw0.below bl (by omega)
  clear cw00 cw01
  have cw00 := kw0.c0
  have cw01 := kw0.c1
  replace kx0 := kx0.below bl (by omega)
  clear cx00 cx01
  have cx00 := kx0.c0
  have cx01 := kx0.c1
  replace kg0 := kg0.below bl (by omega)
  clear cg00 cg01
  have cg00 := kg0.c0
  have cg01 := kg0.c1
  replace kh0 := kh0.below bl (by omega)
  clear ch00 ch01
  have ch00 := kh0.c0
  have ch01 := kh0.c1
  replace frm := frm.trans (bl.mono (by omega))
  clear bl
  clear r4m
  go_wp2
  go_ret
  exact ⟨rfl, frm⟩

set_option maxRecDepth 100000 in
set_option maxHeartbeats 1600000 in
theorem exactIntersectionOf (w : World) (vA : Value) (iaA : ∃ x, BasisI w 0 w.heap.size vA x) (vB : Value) (iaB : ∃ x, BasisI w 0 w.heap.size vB x) :
    Calls Tryz.prog 5 #[vA, vB] w fun e w' => e = .returned (.bool true) ∧ Below w.heap.size w w' := by
  obtain ⟨⟨WA, MA⟩, _, rfl, hwA, adA, nA, capA, rfl, sA⟩ := iaA
  replace sA : BasisI w 0 w.heap.size (.agg #[.int .i64 WA, .slice adA nA capA]) (WA, MA) := ⟨_, rfl, hwA, _, _, _, rfl, sA⟩
  obtain ⟨⟨WB, MB⟩, _, rfl, hwB, adB, nB, capB, rfl, sB⟩ := iaB
  replace sB : BasisI w 0 w.heap.size (.agg #[.int .i64 WB, .slice adB nB capB]) (WB, MB) := ⟨_, rfl, hwB, _, _, _, rfl, sB⟩
  have frm := Below.refl w.heap.size w
  have kA := Blk.new w (.int .i64 WA) (.slice adA nA capA) 33
  replace frm := frm.alloc (by first | exact Nat.le_refl _ | (simp; done) | (simp; omega)) (.cells #[.int .i64 WA, .slice adA nA capA] 33)
  have kB := Blk.new (w.alloc (.cells #[.int .i64 WA, .slice adA nA capA] 33)) (.int .i64 WB) (.slice adB nB capB) 33
  rw [World.size_alloc] at kB
  replace kA := kA.alloc (.cells #[.int .i64 WB, .slice adB nB capB] 33)
  replace frm := frm.alloc (by first | exact Nat.le_refl _ | (simp; done) | (simp; omega)) (.cells #[.int .i64 WB, .slice adB nB capB] 33)
  replace sA := BasisI_below sA frm (.inr (Nat.le_refl _))
  replace sB := BasisI_below sB frm (.inr (Nat.le_refl _))
  have cA0 := kA.c0
  have cA1 := kA.c1
  have cB0 := kB.c0
  have cB1 := kB.c1
  have zw : ((w.alloc (.cells #[.int .i64 WA, .slice adA nA capA] 33)).alloc (.cells #[.int .i64 WB, .slice adB nB capB] 33)).heap.size = w.heap.size + 1 + 1 := by simp
  go_enter Tryz.func5, Tryz.ntmps5
  go_wp2_with fail
  go_at_call 14
  generalize (w.alloc (.cells #[.int .i64 WA, .slice adA nA capA] 33)).alloc (.cells #[.int .i64 WB, .slice adB nB capB] 33) = y0 at *
  refine (szBasis sA 1048576 (by omega) (by omega)).mono ?_
  rintro e wsA ⟨leftA, rfl, leA, riA, fA, bl⟩
  have zsA := bl.size
  replace sA := BasisI_below sA bl (by omega)
  replace sB := BasisI_below sB bl (by omega)
  replace kA := kA.below bl (by omega)
  clear cA0 cA1
  have cA0 := kA.c0
  have cA1 := kA.c1
  replace kB := kB.below bl (by omega)
  clear cB0 cB1
  have cB0 := kB.c0
  have cB1 := kB.c1
  replace frm := frm.trans (bl.mono (by omega))
  clear bl
  by_cases hlA : 0 ≤ leftA
  case neg =>
    clear fA
    go_wp2
    go_ret
    exact ⟨rfl, frm⟩
  replace fA := fA hlA
  go_wp2_with fail
  go_at_call 14
  refine (szBasis sB leftA (by omega) (by omega)).mono ?_
  rintro e wsB ⟨leftB, rfl, leB, riB, fB, bl⟩
  have zsB := bl.size
  replace sA := BasisI_below sA bl (by omega)
  replace sB := BasisI_below sB bl (by omega)
  replace kA := kA.below bl (by omega)
  clear cA0 cA1
  have cA0 := kA.c0
  have cA1 := kA.c1
  replace kB := kB.below bl (by omega)
  clear cB0 cB1
  have cB0 := kB.c0
  have cB1 := kB.c1
  replace frm := frm.trans (bl.mono (by omega))
  clear bl
  by_cases hlB : 0 ≤ leftB
  case neg =>
    clear fB
    go_wp2
    go_ret
    exact ⟨rfl, frm⟩
  replace fB := fB hlB
  have cS := fun (w' : World) (lA hA : Nat) (uA : Value) (sA : BasisI w' lA hA uA (WA, MA)) (lB hB : Nat) (uB : Value) (sB : BasisI w' lB hB uB (WB, MB)) => SubW.interS w' sA fA sB fB
  have cI := fun (w' : World) (lA hA : Nat) (uA : Value) (sA : BasisI w' lA hA uA (WA, MA)) (lB hB : Nat) (uB : Value) (sB : BasisI w' lB hB uB (WB, MB)) => SubI.inter w' sA fA sB fB
  try dsimp only at cS cI
  have hfit : BasisF ((Bas.interOf (WA, MA) (WB, MB))) := by exact SubW.fit_inter
  generalize hR : (Bas.interOf (WA, MA) (WB, MB)) = R at cS cI hfit
  clear hR
  obtain ⟨WR, MR⟩ := R
  have HS := Lib.hid cS
  have HI := Lib.hid cI
  clear cS cI
  have hcnt := BasisC_le hfit
  have hkA := BasisC_le fA
  have hkB := BasisC_le fB
  go_wp2
  go_cut [6] (fun xq wx => ∃ (X lo hi : Nat) (ad3 : Option Addr) (n3 cap3 : Nat), xq = .pointer (some ⟨X, 0, none⟩) ∧ Blk wx X 26 (.int .i64 WR) (.slice ad3 n3 cap3) ∧ BasisI wx lo hi (.agg #[.int .i64 WR, .slice ad3 n3 cap3]) (WR, MR) ∧ (wsB.heap.size ≤ lo ∧ hi ≤ wx.heap.size ∧ wsB.heap.size ≤ X ∧ (X < lo ∨ hi ≤ X)) ∧ Below wsB.heap.size wsB wx)
  case first =>
    have sP := BasisI_mv sA (Mv.drew (Mv.refl wsB 0 0)) (.inr (Nat.zero_le _))
    have sQ := BasisI_mv sB (Mv.drew (Mv.refl wsB 0 0)) (.inr (Nat.zero_le _))
    have kP : Blk wsB.drew (w.heap.size) _ (.int .i64 WA) (.slice adA nA capA) := ⟨kA.obj⟩
    have kQ : Blk wsB.drew (w.heap.size + 1) _ (.int .i64 WB) (.slice adB nB capB) := ⟨kB.obj⟩
    have bD : Below wsB.heap.size wsB wsB.drew := (Below.refl _ _).drew
    have zD : wsB.heap.size ≤ wsB.drew.heap.size := Nat.le_refl _
    have zD2 : wsB.drew.heap.size ≤ wsB.heap.size := Nat.le_refl _
    refine wp_region_held (S := fun w' => w'.cell? ⟨w.heap.size, 0, none⟩ = some (.int .i64 WA) ∧ w'.cell? ⟨w.heap.size, 1, none⟩ = some (.slice adA nA capA) ∧ w'.cell? ⟨w.heap.size + 1, 0, none⟩ = some (.int .i64 WB) ∧ w'.cell? ⟨w.heap.size + 1, 1, none⟩ = some (.slice adB nB capB)) (by kernel_rfl) ?_
    change wpAnyH _ _ _ _ _ _ _ _ wsB.drew
    generalize wsB.drew = d0 at *
    have HH := Lib.hid (show d0.cell? ⟨w.heap.size, 0, none⟩ = some (.int .i64 WA) ∧ d0.cell? ⟨w.heap.size, 1, none⟩ = some (.slice adA nA capA) ∧ d0.cell? ⟨w.heap.size + 1, 0, none⟩ = some (.int .i64 WB) ∧ d0.cell? ⟨w.heap.size + 1, 1, none⟩ = some (.slice adB nB capB) from ⟨kP.c0, kP.c1, kQ.c0, kQ.c1⟩)
    refine wpAnyH_take (i := 0) (oi := ⟨some _, _, _, _, _, _⟩) (v := ?_) rfl (by kernel_rfl) (by kernel_rfl) (by kernel_rfl) (fun _ _ _ h => h) (Or.inl ⟨by rfl, ?_⟩) HH.out ?_
    rotate_left
    · intro wS hSw
      try dsimp only at hSw
      go_simp
      all_goals (with_reducible rfl)
    simp only [Act.put, List.setIfInBounds_toArray, List.set_cons_zero, List.set_cons_succ]
    refine wpAnyH_take (i := 2) (oi := ⟨some _, _, _, _, _, _⟩) (v := ?_) rfl (by kernel_rfl) (by kernel_rfl) (by kernel_rfl) (fun _ _ _ h => h) (Or.inl ⟨by rfl, ?_⟩) HH.out ?_
    rotate_left
    · intro wS hSw
      try dsimp only at hSw
      go_simp
      all_goals (with_reducible rfl)
    simp only [Act.put, List.setIfInBounds_toArray, List.set_cons_zero, List.set_cons_succ]
    refine wpAnyH_ready (rs := [1, 5]) (by kernel_rfl) (by simp) ?_
    refine AllReadyH.cons (o := ⟨some _, _, _, _, _, _⟩) rfl (fun Kq hKq => ?_) (AllReadyH.cons (o := ⟨some _, _, _, _, _, _⟩) rfl (fun Kq hKq => ?_) AllReadyH.nil)
    · go_simp
      refine (toBasis sP fA).mono ?_
      rintro e v1 ⟨_, rfl, ⟨_, rfl, hwP, _, _, _, _, rfl, rP⟩, bl⟩
      have zv1 := bl.size
      replace kP := kP.below bl (by omega)
      replace kQ := kQ.below bl (by omega)
      replace sQ := BasisI_below sQ bl (by omega)
      replace bD := bD.trans (bl.mono (by omega))
      clear bl HH
      have HH := Lib.hid (show v1.cell? ⟨w.heap.size, 0, none⟩ = some (.int .i64 WA) ∧ v1.cell? ⟨w.heap.size, 1, none⟩ = some (.slice adA nA capA) ∧ v1.cell? ⟨w.heap.size + 1, 0, none⟩ = some (.int .i64 WB) ∧ v1.cell? ⟨w.heap.size + 1, 1, none⟩ = some (.slice adB nB capB) from ⟨kP.c0, kP.c1, kQ.c0, kQ.c1⟩)
      refine hKq.out _ _ HH.out (fun _ => ?_)
      clear hKq Kq
      refine wpAnyH_ready (rs := [3, 5]) (by kernel_rfl) (by simp) ?_
      refine AllReadyH.cons (o := ⟨some _, _, _, _, _, _⟩) rfl (fun Kq hKq => ?_) (AllReadyH.cons (o := ⟨some _, _, _, _, _, _⟩) rfl (fun Kq hKq => ?_) AllReadyH.nil)
      · go_simp
        refine (toBasis sQ fB).mono ?_
        rintro e v2 ⟨_, rfl, ⟨_, rfl, hwQ, _, _, _, _, rfl, rQ⟩, bl⟩
        have zv2 := bl.size
        replace kP := kP.below bl (by omega)
        replace kQ := kQ.below bl (by omega)
        replace rP := rP.below bl (.inr (Nat.le_refl _))
        replace bD := bD.trans (bl.mono (by omega))
        clear bl HH
        have HH := Lib.hid (show v2.cell? ⟨w.heap.size, 0, none⟩ = some (.int .i64 WA) ∧ v2.cell? ⟨w.heap.size, 1, none⟩ = some (.slice adA nA capA) ∧ v2.cell? ⟨w.heap.size + 1, 0, none⟩ = some (.int .i64 WB) ∧ v2.cell? ⟨w.heap.size + 1, 1, none⟩ = some (.slice adB nB capB) from ⟨kP.c0, kP.c1, kQ.c0, kQ.c1⟩)
        refine hKq.out _ _ HH.out (fun _ => ?_)
        clear hKq Kq
        refine wpAnyH_ready (rs := [4, 5]) (by kernel_rfl) (by simp) ?_
        refine AllReadyH.cons (o := ⟨some _, _, _, _, _, _⟩) rfl (fun Kq hKq => ?_) (AllReadyH.cons (o := ⟨some _, _, _, _, _, _⟩) rfl (fun Kq hKq => ?_) AllReadyH.nil)
        · go_simp
          refine (HS.out _ _ _ _ (BasisO_is ⟨_, rfl, hwP, _, _, _, _, rfl, rP⟩) _ _ _ (BasisO_is ⟨_, rfl, hwQ, _, _, _, _, rfl, rQ⟩)).mono ?_
          rintro e v3 ⟨_, rfl, ⟨_, rfl, hw3, ad3, n3, cap3, rfl, r3⟩, bl⟩
          have zv3 := bl.size
          replace kP := kP.below bl (by omega)
          replace kQ := kQ.below bl (by omega)
          replace r3 : BasisI v3 _ _ (.agg #[.int .i64 WR, .slice ad3 n3 cap3]) (WR, MR) := ⟨_, rfl, hw3, _, _, _, rfl, r3⟩
          replace bD := bD.trans (bl.mono (by omega))
          clear bl HH
          have HH := Lib.hid (show v3.cell? ⟨w.heap.size, 0, none⟩ = some (.int .i64 WA) ∧ v3.cell? ⟨w.heap.size, 1, none⟩ = some (.slice adA nA capA) ∧ v3.cell? ⟨w.heap.size + 1, 0, none⟩ = some (.int .i64 WB) ∧ v3.cell? ⟨w.heap.size + 1, 1, none⟩ = some (.slice adB nB capB) from ⟨kP.c0, kP.c1, kQ.c0, kQ.c1⟩)
          refine hKq.out _ _ HH.out (fun _ => ?_)
          clear hKq Kq
          refine wpAnyH_ready (rs := [5]) (by kernel_rfl) (by simp) ?_
          refine AllReadyH.cons (o := ⟨some _, _, _, _, _, _⟩) rfl (fun Kq hKq => ?_) AllReadyH.nil
          go_simp
          have kX := Blk.new v3 (.int .i64 0) (.slice none 0 0) 26
          have bl := below_box v3 (.cells #[.int .i64 0, .slice none 0 0] 26)
          have zx : (v3.alloc (.cells #[.int .i64 0, .slice none 0 0] 26)).heap.size = v3.heap.size + 1 := by simp
          obtain ⟨X, eX⟩ : ∃ X, X = v3.heap.size := ⟨_, rfl⟩
          rw [← eX] at kX
          generalize v3.alloc (.cells #[.int .i64 0, .slice none 0 0] 26) = v4 at *
          rw [← eX]
          have hX1 : v3.heap.size ≤ X := by omega
          have hX2 : X < v4.heap.size := by omega
          replace kP := kP.below bl (by omega)
          replace kQ := kQ.below bl (by omega)
          replace r3 := BasisI_below r3 bl (by omega)
          replace bD := bD.trans (bl.mono (by omega))
          clear bl HH eX
          have HH := Lib.hid (show v4.cell? ⟨w.heap.size, 0, none⟩ = some (.int .i64 WA) ∧ v4.cell? ⟨w.heap.size, 1, none⟩ = some (.slice adA nA capA) ∧ v4.cell? ⟨w.heap.size + 1, 0, none⟩ = some (.int .i64 WB) ∧ v4.cell? ⟨w.heap.size + 1, 1, none⟩ = some (.slice adB nB capB) from ⟨kP.c0, kP.c1, kQ.c0, kQ.c1⟩)
          refine hKq.out _ _ HH.out (fun _ => ?_)
          clear hKq Kq
          refine wpAnyH_ready (rs := [6]) (by kernel_rfl) (by simp) ?_
          refine AllReadyH.cons (o := ⟨none, _, _, _, _, _⟩) rfl (fun Kq hKq => ?_) AllReadyH.nil
          have x0 := kX.c0
          have x1 := kX.c1
          have y0 := kX.f0
          have y1 := kX.f1
          have kX9 := (kX.set0 (.int .i64 WR)).set1 (.slice ad3 n3 cap3)
          have hm9 : Mv v4 ((v4.setCell ⟨X, 0, none⟩ (.int .i64 WR)).setCell ⟨X, 1, none⟩ (.slice ad3 n3 cap3)) X (X + 1) :=
            ((Mv.refl _ _ _).setCell (p := ⟨X, 0, none⟩) (Nat.le_refl _) (Nat.lt_succ_self _) _).setCell (p := ⟨X, 1, none⟩) (Nat.le_refl _) (Nat.lt_succ_self _) _
          go_simp
          generalize (v4.setCell ⟨X, 0, none⟩ (.int .i64 WR)).setCell ⟨X, 1, none⟩ (.slice ad3 n3 cap3) = W9 at *
          replace kP := kP.mv hm9 (by omega)
          replace kQ := kQ.mv hm9 (by omega)
          have r9 := BasisI_mv r3 hm9 (by omega)
          have z9 := hm9.size
          have b9 := bD.trans (hm9.below (by omega) (by omega))
          clear HH x0 x1 y0 y1 bD hm9 kX r3
          have HH := Lib.hid (show W9.cell? ⟨w.heap.size, 0, none⟩ = some (.int .i64 WA) ∧ W9.cell? ⟨w.heap.size, 1, none⟩ = some (.slice adA nA capA) ∧ W9.cell? ⟨w.heap.size + 1, 0, none⟩ = some (.int .i64 WB) ∧ W9.cell? ⟨w.heap.size + 1, 1, none⟩ = some (.slice adB nB capB) from ⟨kP.c0, kP.c1, kQ.c0, kQ.c1⟩)
          refine hKq.out _ _ HH.out (fun _ => ?_)
          clear hKq Kq
          refine wpAnyH_done (by kernel_rfl) ?_ _
          clear HH kP kQ
          go_wp2_with fail
          go_meet
          exact ⟨X, _, _, _, _, _, rfl, kX9, r9, ⟨by omega, by omega, by omega, by omega⟩, b9⟩
        · go_simp
          have kX := Blk.new v2 (.int .i64 0) (.slice none 0 0) 26
          have bl := below_box v2 (.cells #[.int .i64 0, .slice none 0 0] 26)
          have zx : (v2.alloc (.cells #[.int .i64 0, .slice none 0 0] 26)).heap.size = v2.heap.size + 1 := by simp
          obtain ⟨X, eX⟩ : ∃ X, X = v2.heap.size := ⟨_, rfl⟩
          rw [← eX] at kX
          generalize v2.alloc (.cells #[.int .i64 0, .slice none 0 0] 26) = v3 at *
          rw [← eX]
          have hX1 : v2.heap.size ≤ X := by omega
          have hX2 : X < v3.heap.size := by omega
          replace kP := kP.below bl (by omega)
          replace kQ := kQ.below bl (by omega)
          replace rP := rP.below bl (.inr (Nat.le_refl _))
          replace rQ := rQ.below bl (.inr (Nat.le_refl _))
          replace bD := bD.trans (bl.mono (by omega))
          clear bl HH eX
          have HH := Lib.hid (show v3.cell? ⟨w.heap.size, 0, none⟩ = some (.int .i64 WA) ∧ v3.cell? ⟨w.heap.size, 1, none⟩ = some (.slice adA nA capA) ∧ v3.cell? ⟨w.heap.size + 1, 0, none⟩ = some (.int .i64 WB) ∧ v3.cell? ⟨w.heap.size + 1, 1, none⟩ = some (.slice adB nB capB) from ⟨kP.c0, kP.c1, kQ.c0, kQ.c1⟩)
          refine hKq.out _ _ HH.out (fun _ => ?_)
          clear hKq Kq
          refine wpAnyH_ready (rs := [4]) (by kernel_rfl) (by simp) ?_
          refine AllReadyH.cons (o := ⟨some _, _, _, _, _, _⟩) rfl (fun Kq hKq => ?_) AllReadyH.nil
          go_simp
          refine (HS.out _ _ _ _ (BasisO_is ⟨_, rfl, hwP, _, _, _, _, rfl, rP⟩) _ _ _ (BasisO_is ⟨_, rfl, hwQ, _, _, _, _, rfl, rQ⟩)).mono ?_
          rintro e v4 ⟨_, rfl, ⟨_, rfl, hw3, ad3, n3, cap3, rfl, r3⟩, bl⟩
          have zv4 := bl.size
          replace kP := kP.below bl (by omega)
          replace kQ := kQ.below bl (by omega)
          replace kX := kX.below bl (by omega)
          replace r3 : BasisI v4 _ _ (.agg #[.int .i64 WR, .slice ad3 n3 cap3]) (WR, MR) := ⟨_, rfl, hw3, _, _, _, rfl, r3⟩
          replace bD := bD.trans (bl.mono (by omega))
          clear bl HH
          have HH := Lib.hid (show v4.cell? ⟨w.heap.size, 0, none⟩ = some (.int .i64 WA) ∧ v4.cell? ⟨w.heap.size, 1, none⟩ = some (.slice adA nA capA) ∧ v4.cell? ⟨w.heap.size + 1, 0, none⟩ = some (.int .i64 WB) ∧ v4.cell? ⟨w.heap.size + 1, 1, none⟩ = some (.slice adB nB capB) from ⟨kP.c0, kP.c1, kQ.c0, kQ.c1⟩)
          refine hKq.out _ _ HH.out (fun _ => ?_)
          clear hKq Kq
          refine wpAnyH_ready (rs := [6]) (by kernel_rfl) (by simp) ?_
          refine AllReadyH.cons (o := ⟨none, _, _, _, _, _⟩) rfl (fun Kq hKq => ?_) AllReadyH.nil
          have x0 := kX.c0
          have x1 := kX.c1
          have y0 := kX.f0
          have y1 := kX.f1
          have kX9 := (kX.set0 (.int .i64 WR)).set1 (.slice ad3 n3 cap3)
          have hm9 : Mv v4 ((v4.setCell ⟨X, 0, none⟩ (.int .i64 WR)).setCell ⟨X, 1, none⟩ (.slice ad3 n3 cap3)) X (X + 1) :=
            ((Mv.refl _ _ _).setCell (p := ⟨X, 0, none⟩) (Nat.le_refl _) (Nat.lt_succ_self _) _).setCell (p := ⟨X, 1, none⟩) (Nat.le_refl _) (Nat.lt_succ_self _) _
          go_simp
          generalize (v4.setCell ⟨X, 0, none⟩ (.int .i64 WR)).setCell ⟨X, 1, none⟩ (.slice ad3 n3 cap3) = W9 at *
          replace kP := kP.mv hm9 (by omega)
          replace kQ := kQ.mv hm9 (by omega)
          have r9 := BasisI_mv r3 hm9 (by omega)
          have z9 := hm9.size
          have b9 := bD.trans (hm9.below (by omega) (by omega))
          clear HH x0 x1 y0 y1 bD hm9 kX r3
          have HH := Lib.hid (show W9.cell? ⟨w.heap.size, 0, none⟩ = some (.int .i64 WA) ∧ W9.cell? ⟨w.heap.size, 1, none⟩ = some (.slice adA nA capA) ∧ W9.cell? ⟨w.heap.size + 1, 0, none⟩ = some (.int .i64 WB) ∧ W9.cell? ⟨w.heap.size + 1, 1, none⟩ = some (.slice adB nB capB) from ⟨kP.c0, kP.c1, kQ.c0, kQ.c1⟩)
          refine hKq.out _ _ HH.out (fun _ => ?_)
          clear hKq Kq
          refine wpAnyH_done (by kernel_rfl) ?_ _
          clear HH kP kQ
          go_wp2_with fail
          go_meet
          exact ⟨X, _, _, _, _, _, rfl, kX9, r9, ⟨by omega, by omega, by omega, by omega⟩, b9⟩
      · go_simp
        have kX := Blk.new v1 (.int .i64 0) (.slice none 0 0) 26
        have bl := below_box v1 (.cells #[.int .i64 0, .slice none 0 0] 26)
        have zx : (v1.alloc (.cells #[.int .i64 0, .slice none 0 0] 26)).heap.size = v1.heap.size + 1 := by simp
        obtain ⟨X, eX⟩ : ∃ X, X = v1.heap.size := ⟨_, rfl⟩
        rw [← eX] at kX
        generalize v1.alloc (.cells #[.int .i64 0, .slice none 0 0] 26) = v2 at *
        rw [← eX]
        have hX1 : v1.heap.size ≤ X := by omega
        have hX2 : X < v2.heap.size := by omega
        replace kP := kP.below bl (by omega)
        replace kQ := kQ.below bl (by omega)
        replace sQ := BasisI_below sQ bl (by omega)
        replace rP := rP.below bl (.inr (Nat.le_refl _))
        replace bD := bD.trans (bl.mono (by omega))
        clear bl HH eX
        have HH := Lib.hid (show v2.cell? ⟨w.heap.size, 0, none⟩ = some (.int .i64 WA) ∧ v2.cell? ⟨w.heap.size, 1, none⟩ = some (.slice adA nA capA) ∧ v2.cell? ⟨w.heap.size + 1, 0, none⟩ = some (.int .i64 WB) ∧ v2.cell? ⟨w.heap.size + 1, 1, none⟩ = some (.slice adB nB capB) from ⟨kP.c0, kP.c1, kQ.c0, kQ.c1⟩)
        refine hKq.out _ _ HH.out (fun _ => ?_)
        clear hKq Kq
        refine wpAnyH_ready (rs := [3]) (by kernel_rfl) (by simp) ?_
        refine AllReadyH.cons (o := ⟨some _, _, _, _, _, _⟩) rfl (fun Kq hKq => ?_) AllReadyH.nil
        go_simp
        refine (toBasis sQ fB).mono ?_
        rintro e v3 ⟨_, rfl, ⟨_, rfl, hwQ, _, _, _, _, rfl, rQ⟩, bl⟩
        have zv3 := bl.size
        replace kP := kP.below bl (by omega)
        replace kQ := kQ.below bl (by omega)
        replace kX := kX.below bl (by omega)
        replace rP := rP.below bl (.inr (Nat.le_refl _))
        replace bD := bD.trans (bl.mono (by omega))
        clear bl HH
        have HH := Lib.hid (show v3.cell? ⟨w.heap.size, 0, none⟩ = some (.int .i64 WA) ∧ v3.cell? ⟨w.heap.size, 1, none⟩ = some (.slice adA nA capA) ∧ v3.cell? ⟨w.heap.size + 1, 0, none⟩ = some (.int .i64 WB) ∧ v3.cell? ⟨w.heap.size + 1, 1, none⟩ = some (.slice adB nB capB) from ⟨kP.c0, kP.c1, kQ.c0, kQ.c1⟩)
        refine hKq.out _ _ HH.out (fun _ => ?_)
        clear hKq Kq
        refine wpAnyH_ready (rs := [4]) (by kernel_rfl) (by simp) ?_
        refine AllReadyH.cons (o := ⟨some _, _, _, _, _, _⟩) rfl (fun Kq hKq => ?_) AllReadyH.nil
        go_simp
        refine (HS.out _ _ _ _ (BasisO_is ⟨_, rfl, hwP, _, _, _, _, rfl, rP⟩) _ _ _ (BasisO_is ⟨_, rfl, hwQ, _, _, _, _, rfl, rQ⟩)).mono ?_
        rintro e v4 ⟨_, rfl, ⟨_, rfl, hw3, ad3, n3, cap3, rfl, r3⟩, bl⟩
        have zv4 := bl.size
        replace kP := kP.below bl (by omega)
        replace kQ := kQ.below bl (by omega)
        replace kX := kX.below bl (by omega)
        replace r3 : BasisI v4 _ _ (.agg #[.int .i64 WR, .slice ad3 n3 cap3]) (WR, MR) := ⟨_, rfl, hw3, _, _, _, rfl, r3⟩
        replace bD := bD.trans (bl.mono (by omega))
        clear bl HH
        have HH := Lib.hid (show v4.cell? ⟨w.heap.size, 0, none⟩ = some (.int .i64 WA) ∧ v4.cell? ⟨w.heap.size, 1, none⟩ = some (.slice adA nA capA) ∧ v4.cell? ⟨w.heap.size + 1, 0, none⟩ = some (.int .i64 WB) ∧ v4.cell? ⟨w.heap.size + 1, 1, none⟩ = some (.slice adB nB capB) from ⟨kP.c0, kP.c1, kQ.c0, kQ.c1⟩)
        refine hKq.out _ _ HH.out (fun _ => ?_)
        clear hKq Kq
        refine wpAnyH_ready (rs := [6]) (by kernel_rfl) (by simp) ?_
        refine AllReadyH.cons (o := ⟨none, _, _, _, _, _⟩) rfl (fun Kq hKq => ?_) AllReadyH.nil
        have x0 := kX.c0
        have x1 := kX.c1
        have y0 := kX.f0
        have y1 := kX.f1
        have kX9 := (kX.set0 (.int .i64 WR)).set1 (.slice ad3 n3 cap3)
        have hm9 : Mv v4 ((v4.setCell ⟨X, 0, none⟩ (.int .i64 WR)).setCell ⟨X, 1, none⟩ (.slice ad3 n3 cap3)) X (X + 1) :=
          ((Mv.refl _ _ _).setCell (p := ⟨X, 0, none⟩) (Nat.le_refl _) (Nat.lt_succ_self _) _).setCell (p := ⟨X, 1, none⟩) (Nat.le_refl _) (Nat.lt_succ_self _) _
        go_simp
        generalize (v4.setCell ⟨X, 0, none⟩ (.int .i64 WR)).setCell ⟨X, 1, none⟩ (.slice ad3 n3 cap3) = W9 at *
        replace kP := kP.mv hm9 (by omega)
        replace kQ := kQ.mv hm9 (by omega)
        have r9 := BasisI_mv r3 hm9 (by omega)
        have z9 := hm9.size
        have b9 := bD.trans (hm9.below (by omega) (by omega))
        clear HH x0 x1 y0 y1 bD hm9 kX r3
        have HH := Lib.hid (show W9.cell? ⟨w.heap.size, 0, none⟩ = some (.int .i64 WA) ∧ W9.cell? ⟨w.heap.size, 1, none⟩ = some (.slice adA nA capA) ∧ W9.cell? ⟨w.heap.size + 1, 0, none⟩ = some (.int .i64 WB) ∧ W9.cell? ⟨w.heap.size + 1, 1, none⟩ = some (.slice adB nB capB) from ⟨kP.c0, kP.c1, kQ.c0, kQ.c1⟩)
        refine hKq.out _ _ HH.out (fun _ => ?_)
        clear hKq Kq
        refine wpAnyH_done (by kernel_rfl) ?_ _
        clear HH kP kQ
        go_wp2_with fail
        go_meet
        exact ⟨X, _, _, _, _, _, rfl, kX9, r9, ⟨by omega, by omega, by omega, by omega⟩, b9⟩
    · go_simp
      have kX := Blk.new d0 (.int .i64 0) (.slice none 0 0) 26
      have bl := below_box d0 (.cells #[.int .i64 0, .slice none 0 0] 26)
      have zx : (d0.alloc (.cells #[.int .i64 0, .slice none 0 0] 26)).heap.size = d0.heap.size + 1 := by simp
      obtain ⟨X, eX⟩ : ∃ X, X = d0.heap.size := ⟨_, rfl⟩
      rw [← eX] at kX
      generalize d0.alloc (.cells #[.int .i64 0, .slice none 0 0] 26) = v1 at *
      rw [← eX]
      have hX1 : d0.heap.size ≤ X := by omega
      have hX2 : X < v1.heap.size := by omega
      replace kP := kP.below bl (by omega)
      replace kQ := kQ.below bl (by omega)
      replace sP := BasisI_below sP bl (by omega)
      replace sQ := BasisI_below sQ bl (by omega)
      replace bD := bD.trans (bl.mono (by omega))
      clear bl HH eX
      have HH := Lib.hid (show v1.cell? ⟨w.heap.size, 0, none⟩ = some (.int .i64 WA) ∧ v1.cell? ⟨w.heap.size, 1, none⟩ = some (.slice adA nA capA) ∧ v1.cell? ⟨w.heap.size + 1, 0, none⟩ = some (.int .i64 WB) ∧ v1.cell? ⟨w.heap.size + 1, 1, none⟩ = some (.slice adB nB capB) from ⟨kP.c0, kP.c1, kQ.c0, kQ.c1⟩)
      refine hKq.out _ _ HH.out (fun _ => ?_)
      clear hKq Kq
      refine wpAnyH_ready (rs := [1]) (by kernel_rfl) (by simp) ?_
      refine AllReadyH.cons (o := ⟨some _, _, _, _, _, _⟩) rfl (fun Kq hKq => ?_) AllReadyH.nil
      go_simp
      refine (toBasis sP fA).mono ?_
      rintro e v2 ⟨_, rfl, ⟨_, rfl, hwP, _, _, _, _, rfl, rP⟩, bl⟩
      have zv2 := bl.size
      replace kP := kP.below bl (by omega)
      replace kQ := kQ.below bl (by omega)
      replace kX := kX.below bl (by omega)
      replace sQ := BasisI_below sQ bl (by omega)
      replace bD := bD.trans (bl.mono (by omega))
      clear bl HH
      have HH := Lib.hid (show v2.cell? ⟨w.heap.size, 0, none⟩ = some (.int .i64 WA) ∧ v2.cell? ⟨w.heap.size, 1, none⟩ = some (.slice adA nA capA) ∧ v2.cell? ⟨w.heap.size + 1, 0, none⟩ = some (.int .i64 WB) ∧ v2.cell? ⟨w.heap.size + 1, 1, none⟩ = some (.slice adB nB capB) from ⟨kP.c0, kP.c1, kQ.c0, kQ.c1⟩)
      refine hKq.out _ _ HH.out (fun _ => ?_)
      clear hKq Kq
      refine wpAnyH_ready (rs := [3]) (by kernel_rfl) (by simp) ?_
      refine AllReadyH.cons (o := ⟨some _, _, _, _, _, _⟩) rfl (fun Kq hKq => ?_) AllReadyH.nil
      go_simp
      refine (toBasis sQ fB).mono ?_
      rintro e v3 ⟨_, rfl, ⟨_, rfl, hwQ, _, _, _, _, rfl, rQ⟩, bl⟩
      have zv3 := bl.size
      replace kP := kP.below bl (by omega)
      replace kQ := kQ.below bl (by omega)
      replace kX := kX.below bl (by omega)
      replace rP := rP.below bl (.inr (Nat.le_refl _))
      replace bD := bD.trans (bl.mono (by omega))
      clear bl HH
      have HH := Lib.hid (show v3.cell? ⟨w.heap.size, 0, none⟩ = some (.int .i64 WA) ∧ v3.cell? ⟨w.heap.size, 1, none⟩ = some (.slice adA nA capA) ∧ v3.cell? ⟨w.heap.size + 1, 0, none⟩ = some (.int .i64 WB) ∧ v3.cell? ⟨w.heap.size + 1, 1, none⟩ = some (.slice adB nB capB) from ⟨kP.c0, kP.c1, kQ.c0, kQ.c1⟩)
      refine hKq.out _ _ HH.out (fun _ => ?_)
      clear hKq Kq
      refine wpAnyH_ready (rs := [4]) (by kernel_rfl) (by simp) ?_
      refine AllReadyH.cons (o := ⟨some _, _, _, _, _, _⟩) rfl (fun Kq hKq => ?_) AllReadyH.nil
      go_simp
      refine (HS.out _ _ _ _ (BasisO_is ⟨_, rfl, hwP, _, _, _, _, rfl, rP⟩) _ _ _ (BasisO_is ⟨_, rfl, hwQ, _, _, _, _, rfl, rQ⟩)).mono ?_
      rintro e v4 ⟨_, rfl, ⟨_, rfl, hw3, ad3, n3, cap3, rfl, r3⟩, bl⟩
      have zv4 := bl.size
      replace kP := kP.below bl (by omega)
      replace kQ := kQ.below bl (by omega)
      replace kX := kX.below bl (by omega)
      replace r3 : BasisI v4 _ _ (.agg #[.int .i64 WR, .slice ad3 n3 cap3]) (WR, MR) := ⟨_, rfl, hw3, _, _, _, rfl, r3⟩
      replace bD := bD.trans (bl.mono (by omega))
      clear bl HH
      have HH := Lib.hid (show v4.cell? ⟨w.heap.size, 0, none⟩ = some (.int .i64 WA) ∧ v4.cell? ⟨w.heap.size, 1, none⟩ = some (.slice adA nA capA) ∧ v4.cell? ⟨w.heap.size + 1, 0, none⟩ = some (.int .i64 WB) ∧ v4.cell? ⟨w.heap.size + 1, 1, none⟩ = some (.slice adB nB capB) from ⟨kP.c0, kP.c1, kQ.c0, kQ.c1⟩)
      refine hKq.out _ _ HH.out (fun _ => ?_)
      clear hKq Kq
      refine wpAnyH_ready (rs := [6]) (by kernel_rfl) (by simp) ?_
      refine AllReadyH.cons (o := ⟨none, _, _, _, _, _⟩) rfl (fun Kq hKq => ?_) AllReadyH.nil
      have x0 := kX.c0
      have x1 := kX.c1
      have y0 := kX.f0
      have y1 := kX.f1
      have kX9 := (kX.set0 (.int .i64 WR)).set1 (.slice ad3 n3 cap3)
      have hm9 : Mv v4 ((v4.setCell ⟨X, 0, none⟩ (.int .i64 WR)).setCell ⟨X, 1, none⟩ (.slice ad3 n3 cap3)) X (X + 1) :=
        ((Mv.refl _ _ _).setCell (p := ⟨X, 0, none⟩) (Nat.le_refl _) (Nat.lt_succ_self _) _).setCell (p := ⟨X, 1, none⟩) (Nat.le_refl _) (Nat.lt_succ_self _) _
      go_simp
      generalize (v4.setCell ⟨X, 0, none⟩ (.int .i64 WR)).setCell ⟨X, 1, none⟩ (.slice ad3 n3 cap3) = W9 at *
      replace kP := kP.mv hm9 (by omega)
      replace kQ := kQ.mv hm9 (by omega)
      have r9 := BasisI_mv r3 hm9 (by omega)
      have z9 := hm9.size
      have b9 := bD.trans (hm9.below (by omega) (by omega))
      clear HH x0 x1 y0 y1 bD hm9 kX r3
      have HH := Lib.hid (show W9.cell? ⟨w.heap.size, 0, none⟩ = some (.int .i64 WA) ∧ W9.cell? ⟨w.heap.size, 1, none⟩ = some (.slice adA nA capA) ∧ W9.cell? ⟨w.heap.size + 1, 0, none⟩ = some (.int .i64 WB) ∧ W9.cell? ⟨w.heap.size + 1, 1, none⟩ = some (.slice adB nB capB) from ⟨kP.c0, kP.c1, kQ.c0, kQ.c1⟩)
      refine hKq.out _ _ HH.out (fun _ => ?_)
      clear hKq Kq
      refine wpAnyH_done (by kernel_rfl) ?_ _
      clear HH kP kQ
      go_wp2_with fail
      go_meet
      exact ⟨X, _, _, _, _, _, rfl, kX9, r9, ⟨by omega, by omega, by omega, by omega⟩, b9⟩
  case rest =>
  obtain ⟨X3, lo3, hi3, ad3, n3, cap3, rfl, kX3, r3, zX3, bl⟩ := hcut
  have z3 := bl.size
  obtain ⟨zX3a, zX3b, zX3c, zX3d⟩ := zX3
  replace sA := BasisI_below sA bl (.inr (Nat.le_refl _))
  replace sB := BasisI_below sB bl (.inr (Nat.le_refl _))
  replace kA := kA.below bl (by omega)
  clear cA0 cA1
  have cA0 := kA.c0
  have cA1 := kA.c1
  replace kB := kB.below bl (by omega)
  clear cB0 cB1
  have cB0 := kB.c0
  have cB1 := kB.c1
  replace frm := frm.trans (bl.mono (by omega))
  clear bl
  have kw0 := kX3
  clear kX3
  have cw00 := kw0.c0
  have cw01 := kw0.c1
  have hX3a := kw0.lt
  generalize wc = w3 at *
  go_wp2_with fail
  go_at_call 16
  refine (toBasis sA fA).mono ?_
  rintro e w4 ⟨u4, rfl, r4, bl⟩
  have z4 := bl.size
  replace sA := BasisI_below sA bl (by omega)
  replace sB := BasisI_below sB bl (by omega)
  replace r3 := BasisI_below r3 bl (by omega)
  replace kA := kA.below bl (by omega)
  clear cA0 cA1
  have cA0 := kA.c0
  have cA1 := kA.c1
  replace kB := kB.below bl (by omega)
  clear cB0 cB1
  have cB0 := kB.c0
  have cB1 := kB.c1
  replace kw0 := kw0.below bl (by omega)
  clear cw00 cw01
  have cw00 := kw0.c0
  have cw01 := kw0.c1
  replace frm := frm.trans (bl.mono (by omega))
  clear bl
  obtain ⟨_, rfl, hw4, ad4, n4, cap4, us4, rfl, r4⟩ := r4
  replace r4 : BasisO w4 _ _ (.agg #[.int .i64 WA, .slice ad4 n4 cap4]) (WA, MA) := ⟨_, rfl, hw4, _, _, _, _, rfl, r4⟩
  have kx0 := Blk.new w4 (.int .i64 WA) (.slice ad4 n4 cap4) 26
  have hb := below_box w4 (.cells #[.int .i64 WA, .slice ad4 n4 cap4] 26)
  have zb4 : (w4.alloc (.cells #[.int .i64 WA, .slice ad4 n4 cap4] 26)).heap.size = w4.heap.size + 1 := by simp
  replace sA := BasisI_below sA hb (.inr (Nat.le_refl _))
  replace sB := BasisI_below sB hb (.inr (Nat.le_refl _))
  replace r3 := BasisI_below r3 hb (.inr (Nat.le_refl _))
  replace r4 := BasisO_below r4 hb (.inr (Nat.le_refl _))
  replace kA := kA.alloc (.cells #[.int .i64 WA, .slice ad4 n4 cap4] 26)
  clear cA0 cA1
  have cA0 := kA.c0
  have cA1 := kA.c1
  replace kB := kB.alloc (.cells #[.int .i64 WA, .slice ad4 n4 cap4] 26)
  clear cB0 cB1
  have cB0 := kB.c0
  have cB1 := kB.c1
  replace kw0 := kw0.alloc (.cells #[.int .i64 WA, .slice ad4 n4 cap4] 26)
  clear cw00 cw01
  have cw00 := kw0.c0
  have cw01 := kw0.c1
  replace frm := frm.trans (hb.mono (by omega))
  clear hb
  have cx00 := kx0.c0
  have cx01 := kx0.c1
  go_wp2_with fail
  go_at_call 16
  generalize w4.alloc (.cells #[.int .i64 WA, .slice ad4 n4 cap4] 26) = y1 at *
  refine (toBasis sB fB).mono ?_
  rintro e w5 ⟨u5, rfl, r5, bl⟩
  have z5 := bl.size
  replace sA := BasisI_below sA bl (by omega)
  replace sB := BasisI_below sB bl (by omega)
  replace r3 := BasisI_below r3 bl (by omega)
  replace r4 := BasisO_below r4 bl (by omega)
  replace kA := kA.below bl (by omega)
  clear cA0 cA1
  have cA0 := kA.c0
  have cA1 := kA.c1
  replace kB := kB.below bl (by omega)
  clear cB0 cB1
  have cB0 := kB.c0
  have cB1 := kB.c1
  replace kw0 := kw0.below bl (by omega)
  clear cw00 cw01
  have cw00 := kw0.c0
  have cw01 := kw0.c1
  replace kx0 := kx0.below bl (by omega)
  clear cx00 cx01
  have cx00 := kx0.c0
  have cx01 := kx0.c1
  replace frm := frm.trans (bl.mono (by omega))
  clear bl
  obtain ⟨_, rfl, hw5, ad5, n5, cap5, us5, rfl, r5⟩ := r5
  replace r5 : BasisO w5 _ _ (.agg #[.int .i64 WB, .slice ad5 n5 cap5]) (WB, MB) := ⟨_, rfl, hw5, _, _, _, _, rfl, r5⟩
  have kx1 := Blk.new w5 (.int .i64 WB) (.slice ad5 n5 cap5) 26
  have hb := below_box w5 (.cells #[.int .i64 WB, .slice ad5 n5 cap5] 26)
  have zb5 : (w5.alloc (.cells #[.int .i64 WB, .slice ad5 n5 cap5] 26)).heap.size = w5.heap.size + 1 := by simp
  replace sA := BasisI_below sA hb (.inr (Nat.le_refl _))
  replace sB := BasisI_below sB hb (.inr (Nat.le_refl _))
  replace r3 := BasisI_below r3 hb (.inr (Nat.le_refl _))
  replace r4 := BasisO_below r4 hb (.inr (Nat.le_refl _))
  replace r5 := BasisO_below r5 hb (.inr (Nat.le_refl _))
  replace kA := kA.alloc (.cells #[.int .i64 WB, .slice ad5 n5 cap5] 26)
  clear cA0 cA1
  have cA0 := kA.c0
  have cA1 := kA.c1
  replace kB := kB.alloc (.cells #[.int .i64 WB, .slice ad5 n5 cap5] 26)
  clear cB0 cB1
  have cB0 := kB.c0
  have cB1 := kB.c1
  replace kw0 := kw0.alloc (.cells #[.int .i64 WB, .slice ad5 n5 cap5] 26)
  clear cw00 cw01
  have cw00 := kw0.c0
  have cw01 := kw0.c1
  replace kx0 := kx0.alloc (.cells #[.int .i64 WB, .slice ad5 n5 cap5] 26)
  clear cx00 cx01
  have cx00 := kx0.c0
  have cx01 := kx0.c1
  replace frm := frm.trans (hb.mono (by omega))
  clear hb
  have cx10 := kx1.c0
  have cx11 := kx1.c1
  go_wp2_with fail
  go_at_call 9
  generalize w5.alloc (.cells #[.int .i64 WB, .slice ad5 n5 cap5] 26) = y2 at *
  refine (HI.out _ _ _ _ (BasisO_is r4) _ _ _ (BasisO_is r5)).mono ?_
  rintro e w6 ⟨u6, rfl, r6, bl⟩
  have z6 := bl.size
  replace sA := BasisI_below sA bl (by omega)
  replace sB := BasisI_below sB bl (by omega)
  replace r3 := BasisI_below r3 bl (by omega)
  replace r4 := BasisO_below r4 bl (by omega)
  replace r5 := BasisO_below r5 bl (by omega)
  replace kA := kA.below bl (by omega)
  clear cA0 cA1
  have cA0 := kA.c0
  have cA1 := kA.c1
  replace kB := kB.below bl (by omega)
  clear cB0 cB1
  have cB0 := kB.c0
  have cB1 := kB.c1
  replace kw0 := kw0.below bl (by omega)
  clear cw00 cw01
  have cw00 := kw0.c0
  have cw01 := kw0.c1
  replace kx0 := kx0.below bl (by omega)
  clear cx00 cx01
  have cx00 := kx0.c0
  have cx01 := kx0.c1
  replace kx1 := kx1.below bl (by omega)
  clear cx10 cx11
  have cx10 := kx1.c0
  have cx11 := kx1.c1
  replace frm := frm.trans (bl.mono (by omega))
  clear bl
  obtain ⟨_, rfl, hw6, ad6, n6, cap6, us6, rfl, r6⟩ := r6
  replace r6 : BasisO w6 _ _ (.agg #[.int .i64 WR, .slice ad6 n6 cap6]) (WR, MR) := ⟨_, rfl, hw6, _, _, _, _, rfl, r6⟩
  have kg0 := Blk.new w6 (.int .i64 WR) (.slice ad6 n6 cap6) 26
  have hb := below_box w6 (.cells #[.int .i64 WR, .slice ad6 n6 cap6] 26)
  have zb6 : (w6.alloc (.cells #[.int .i64 WR, .slice ad6 n6 cap6] 26)).heap.size = w6.heap.size + 1 := by simp
  replace sA := BasisI_below sA hb (.inr (Nat.le_refl _))
  replace sB := BasisI_below sB hb (.inr (Nat.le_refl _))
  replace r3 := BasisI_below r3 hb (.inr (Nat.le_refl _))
  replace r4 := BasisO_below r4 hb (.inr (Nat.le_refl _))
  replace r5 := BasisO_below r5 hb (.inr (Nat.le_refl _))
  replace r6 := BasisO_below r6 hb (.inr (Nat.le_refl _))
  replace kA := kA.alloc (.cells #[.int .i64 WR, .slice ad6 n6 cap6] 26)
  clear cA0 cA1
  have cA0 := kA.c0
  have cA1 := kA.c1
  replace kB := kB.alloc (.cells #[.int .i64 WR, .slice ad6 n6 cap6] 26)
  clear cB0 cB1
  have cB0 := kB.c0
  have cB1 := kB.c1
  replace kw0 := kw0.alloc (.cells #[.int .i64 WR, .slice ad6 n6 cap6] 26)
  clear cw00 cw01
  have cw00 := kw0.c0
  have cw01 := kw0.c1
  replace kx0 := kx0.alloc (.cells #[.int .i64 WR, .slice ad6 n6 cap6] 26)
  clear cx00 cx01
  have cx00 := kx0.c0
  have cx01 := kx0.c1
  replace kx1 := kx1.alloc (.cells #[.int .i64 WR, .slice ad6 n6 cap6] 26)
  clear cx10 cx11
  have cx10 := kx1.c0
  have cx11 := kx1.c1
  replace frm := frm.trans (hb.mono (by omega))
  clear hb
  have cg00 := kg0.c0
  have cg01 := kg0.c1
  go_wp2_with fail
  go_at_call 18
  generalize w6.alloc (.cells #[.int .i64 WR, .slice ad6 n6 cap6] 26) = y3 at *
  refine (eqBasis (BasisO_is r6) r3 hfit rfl).mono ?_
  rintro e w7 ⟨rfl, bl⟩
  have z7 := bl.size
  replace sA := BasisI_below sA bl (by omega)
  replace sB := BasisI_below sB bl (by omega)
  replace r3 := BasisI_below r3 bl (by omega)
  replace r4 := BasisO_below r4 bl (by omega)
  replace r5 := BasisO_below r5 bl (by omega)
  replace r6 := BasisO_below r6 bl (by omega)
  replace kA := kA.below bl (by omega)
  clear cA0 cA1
  have cA0 := kA.c0
  have cA1 := kA.c1
  replace kB := kB.below bl (by omega)
  clear cB0 cB1
  have cB0 := kB.c0
  have cB1 := kB.c1
  replace kw0 := kw0.below bl (by omega)
  clear cw00 cw01
  have cw00 := kw0.c0
  have cw01 := kw0.c1
  replace kx0 := kx0.below bl (by omega)
  clear cx00 cx01
  have cx00 := kx0.c0
  have cx01 := kx0.c1
  replace kx1 := kx1.below bl (by omega)
  clear cx10 cx11
  have cx10 := kx1.c0
  have cx11 := kx1.c1
  replace kg0 := kg0.below bl (by omega)
  clear cg00 cg01
  have cg00 := kg0.c0
  have cg01 := kg0.c1
  replace frm := frm.trans (bl.mono (by omega))
  clear bl
  go_wp2
  replace sA := BasisI_mv sA (Mv.drew (Mv.refl w7 0 0)) (.inr (Nat.zero_le _))
  replace sB := BasisI_mv sB (Mv.drew (Mv.refl w7 0 0)) (.inr (Nat.zero_le _))
  replace r3 := BasisI_mv r3 (Mv.drew (Mv.refl w7 0 0)) (.inr (Nat.zero_le _))
  replace r4 := BasisO_mv r4 (Mv.drew (Mv.refl w7 0 0)) (.inr (Nat.zero_le _))
  replace r5 := BasisO_mv r5 (Mv.drew (Mv.refl w7 0 0)) (.inr (Nat.zero_le _))
  replace r6 := BasisO_mv r6 (Mv.drew (Mv.refl w7 0 0)) (.inr (Nat.zero_le _))
  replace kA : Blk w7.drew (w.heap.size) _ (.int .i64 WA) (.slice adA nA capA) := ⟨kA.obj⟩
  clear cA0 cA1
  have cA0 := kA.c0
  have cA1 := kA.c1
  replace kB : Blk w7.drew (w.heap.size + 1) _ (.int .i64 WB) (.slice adB nB capB) := ⟨kB.obj⟩
  clear cB0 cB1
  have cB0 := kB.c0
  have cB1 := kB.c1
  replace kw0 : Blk w7.drew (X3) _ (.int .i64 WR) (.slice ad3 n3 cap3) := ⟨kw0.obj⟩
  clear cw00 cw01
  have cw00 := kw0.c0
  have cw01 := kw0.c1
  replace kx0 : Blk w7.drew (w4.heap.size) _ (.int .i64 WA) (.slice ad4 n4 cap4) := ⟨kx0.obj⟩
  clear cx00 cx01
  have cx00 := kx0.c0
  have cx01 := kx0.c1
  replace kx1 : Blk w7.drew (w5.heap.size) _ (.int .i64 WB) (.slice ad5 n5 cap5) := ⟨kx1.obj⟩
  clear cx10 cx11
  have cx10 := kx1.c0
  have cx11 := kx1.c1
  replace kg0 : Blk w7.drew (w6.heap.size) _ (.int .i64 WR) (.slice ad6 n6 cap6) := ⟨kg0.obj⟩
  clear cg00 cg01
  have cg00 := kg0.c0
  have cg01 := kg0.c1
  replace frm := frm.drew
  have zd : w7.heap.size = w7.drew.heap.size := rfl
  refine wp_region_held (S := fun w' => w'.cell? ⟨w.heap.size, 0, none⟩ = some (.int .i64 WA) ∧ w'.cell? ⟨w.heap.size, 1, none⟩ = some (.slice adA nA capA) ∧ w'.cell? ⟨w.heap.size + 1, 0, none⟩ = some (.int .i64 WB) ∧ w'.cell? ⟨w.heap.size + 1, 1, none⟩ = some (.slice adB nB capB) ∧ w'.cell? ⟨X3, 0, none⟩ = some (.int .i64 WR) ∧ w'.cell? ⟨X3, 1, none⟩ = some (.slice ad3 n3 cap3) ∧ w'.cell? ⟨w4.heap.size, 0, none⟩ = some (.int .i64 WA) ∧ w'.cell? ⟨w4.heap.size, 1, none⟩ = some (.slice ad4 n4 cap4) ∧ w'.cell? ⟨w5.heap.size, 0, none⟩ = some (.int .i64 WB) ∧ w'.cell? ⟨w5.heap.size, 1, none⟩ = some (.slice ad5 n5 cap5) ∧ w'.cell? ⟨w6.heap.size, 0, none⟩ = some (.int .i64 WR) ∧ w'.cell? ⟨w6.heap.size, 1, none⟩ = some (.slice ad6 n6 cap6)) (by kernel_rfl) ?_
  change wpAnyH _ _ _ _ _ _ _ _ w7.drew
  generalize w7.drew = d0 at *
  have HH := Lib.hid (show d0.cell? ⟨w.heap.size, 0, none⟩ = some (.int .i64 WA) ∧ d0.cell? ⟨w.heap.size, 1, none⟩ = some (.slice adA nA capA) ∧ d0.cell? ⟨w.heap.size + 1, 0, none⟩ = some (.int .i64 WB) ∧ d0.cell? ⟨w.heap.size + 1, 1, none⟩ = some (.slice adB nB capB) ∧ d0.cell? ⟨X3, 0, none⟩ = some (.int .i64 WR) ∧ d0.cell? ⟨X3, 1, none⟩ = some (.slice ad3 n3 cap3) ∧ d0.cell? ⟨w4.heap.size, 0, none⟩ = some (.int .i64 WA) ∧ d0.cell? ⟨w4.heap.size, 1, none⟩ = some (.slice ad4 n4 cap4) ∧ d0.cell? ⟨w5.heap.size, 0, none⟩ = some (.int .i64 WB) ∧ d0.cell? ⟨w5.heap.size, 1, none⟩ = some (.slice ad5 n5 cap5) ∧ d0.cell? ⟨w6.heap.size, 0, none⟩ = some (.int .i64 WR) ∧ d0.cell? ⟨w6.heap.size, 1, none⟩ = some (.slice ad6 n6 cap6) from ⟨cA0, cA1, cB0, cB1, cw00, cw01, cx00, cx01, cx10, cx11, cg00, cg01⟩)
  refine wpAnyH_take (i := 0) (oi := ⟨some _, _, _, _, _, _⟩) (v := ?_) rfl (by kernel_rfl) (by kernel_rfl) (by kernel_rfl) (fun _ _ _ h => h) (Or.inl ⟨by rfl, ?_⟩) HH.out ?_
  rotate_left
  · intro wS hSw
    try dsimp only at hSw
    go_simp
    all_goals (with_reducible rfl)
  simp only [Act.put, List.setIfInBounds_toArray, List.set_cons_zero, List.set_cons_succ]
  refine wpAnyH_take (i := 1) (oi := ⟨some _, _, _, _, _, _⟩) (v := ?_) rfl (by kernel_rfl) (by kernel_rfl) (by kernel_rfl) (fun _ _ _ h => h) (Or.inl ⟨by rfl, ?_⟩) HH.out ?_
  rotate_left
  · intro wS hSw
    try dsimp only at hSw
    go_simp
    all_goals (with_reducible rfl)
  simp only [Act.put, List.setIfInBounds_toArray, List.set_cons_zero, List.set_cons_succ]
  clear HH
  refine wpAnyH_ready (rs := [2]) (by kernel_rfl) (by simp) ?_
  refine AllReadyH.cons (o := ⟨some _, _, _, _, _, _⟩) rfl (fun Kq hKq => ?_) AllReadyH.nil
  go_simp
  refine (toBasis sA fA).mono ?_
  rintro e w8 ⟨u8, rfl, r8, bl⟩
  have z8 := bl.size
  replace sA := BasisI_below sA bl (by omega)
  replace sB := BasisI_below sB bl (by omega)
  replace r3 := BasisI_below r3 bl (by omega)
  replace r4 := BasisO_below r4 bl (by omega)
  replace r5 := BasisO_below r5 bl (by omega)
  replace r6 := BasisO_below r6 bl (by omega)
  replace kA := kA.below bl (by omega)
  clear cA0 cA1
  have cA0 := kA.c0
  have cA1 := kA.c1
  replace kB := kB.below bl (by omega)
  clear cB0 cB1
  have cB0 := kB.c0
  have cB1 := kB.c1
  replace kw0 := kw0.below bl (by omega)
  clear cw00 cw01
  have cw00 := kw0.c0
  have cw01 := kw0.c1
  replace kx0 := kx0.below bl (by omega)
  clear cx00 cx01
  have cx00 := kx0.c0
  have cx01 := kx0.c1
  replace kx1 := kx1.below bl (by omega)
  clear cx10 cx11
  have cx10 := kx1.c0
  have cx11 := kx1.c1
  replace kg0 := kg0.below bl (by omega)
  clear cg00 cg01
  have cg00 := kg0.c0
  have cg01 := kg0.c1
  replace frm := frm.trans (bl.mono (by omega))
  clear bl
  obtain ⟨_, rfl, hw8, ad8, n8, cap8, us8, rfl, r8⟩ := r8
  replace r8 : BasisO w8 _ _ (.agg #[.int .i64 WA, .slice ad8 n8 cap8]) (WA, MA) := ⟨_, rfl, hw8, _, _, _, _, rfl, r8⟩
  have HH := Lib.hid (show w8.cell? ⟨w.heap.size, 0, none⟩ = some (.int .i64 WA) ∧ w8.cell? ⟨w.heap.size, 1, none⟩ = some (.slice adA nA capA) ∧ w8.cell? ⟨w.heap.size + 1, 0, none⟩ = some (.int .i64 WB) ∧ w8.cell? ⟨w.heap.size + 1, 1, none⟩ = some (.slice adB nB capB) ∧ w8.cell? ⟨X3, 0, none⟩ = some (.int .i64 WR) ∧ w8.cell? ⟨X3, 1, none⟩ = some (.slice ad3 n3 cap3) ∧ w8.cell? ⟨w4.heap.size, 0, none⟩ = some (.int .i64 WA) ∧ w8.cell? ⟨w4.heap.size, 1, none⟩ = some (.slice ad4 n4 cap4) ∧ w8.cell? ⟨w5.heap.size, 0, none⟩ = some (.int .i64 WB) ∧ w8.cell? ⟨w5.heap.size, 1, none⟩ = some (.slice ad5 n5 cap5) ∧ w8.cell? ⟨w6.heap.size, 0, none⟩ = some (.int .i64 WR) ∧ w8.cell? ⟨w6.heap.size, 1, none⟩ = some (.slice ad6 n6 cap6) from ⟨cA0, cA1, cB0, cB1, cw00, cw01, cx00, cx01, cx10, cx11, cg00, cg01⟩)
  refine hKq.out _ _ HH.out (fun _ => ?_)
  clear hKq Kq
  clear HH
  refine wpAnyH_ready (rs := [3]) (by kernel_rfl) (by simp) ?_
  refine AllReadyH.cons (o := ⟨some _, _, _, _, _, _⟩) rfl (fun Kq hKq => ?_) AllReadyH.nil
  go_simp
  refine (eqBasis (BasisO_is r4) (BasisO_is r8) fA rfl).mono ?_
  rintro e w9 ⟨rfl, bl⟩
  have z9 := bl.size
  replace sA := BasisI_below sA bl (by omega)
  replace sB := BasisI_below sB bl (by omega)
  replace r3 := BasisI_below r3 bl (by omega)
  replace r4 := BasisO_below r4 bl (by omega)
  replace r5 := BasisO_below r5 bl (by omega)
  replace r6 := BasisO_below r6 bl (by omega)
  replace kA := kA.below bl (by omega)
  clear cA0 cA1
  have cA0 := kA.c0
  have cA1 := kA.c1
  replace kB := kB.below bl (by omega)
  clear cB0 cB1
  have cB0 := kB.c0
  have cB1 := kB.c1
  replace kw0 := kw0.below bl (by omega)
  clear cw00 cw01
  have cw00 := kw0.c0
  have cw01 := kw0.c1
  replace kx0 := kx0.below bl (by omega)
  clear cx00 cx01
  have cx00 := kx0.c0
  have cx01 := kx0.c1
  replace kx1 := kx1.below bl (by omega)
  clear cx10 cx11
  have cx10 := kx1.c0
  have cx11 := kx1.c1
  replace kg0 := kg0.below bl (by omega)
  clear cg00 cg01
  have cg00 := kg0.c0
  have cg01 := kg0.c1
  replace frm := frm.trans (bl.mono (by omega))
  clear bl
  have HH := Lib.hid (show w9.cell? ⟨w.heap.size, 0, none⟩ = some (.int .i64 WA) ∧ w9.cell? ⟨w.heap.size, 1, none⟩ = some (.slice adA nA capA) ∧ w9.cell? ⟨w.heap.size + 1, 0, none⟩ = some (.int .i64 WB) ∧ w9.cell? ⟨w.heap.size + 1, 1, none⟩ = some (.slice adB nB capB) ∧ w9.cell? ⟨X3, 0, none⟩ = some (.int .i64 WR) ∧ w9.cell? ⟨X3, 1, none⟩ = some (.slice ad3 n3 cap3) ∧ w9.cell? ⟨w4.heap.size, 0, none⟩ = some (.int .i64 WA) ∧ w9.cell? ⟨w4.heap.size, 1, none⟩ = some (.slice ad4 n4 cap4) ∧ w9.cell? ⟨w5.heap.size, 0, none⟩ = some (.int .i64 WB) ∧ w9.cell? ⟨w5.heap.size, 1, none⟩ = some (.slice ad5 n5 cap5) ∧ w9.cell? ⟨w6.heap.size, 0, none⟩ = some (.int .i64 WR) ∧ w9.cell? ⟨w6.heap.size, 1, none⟩ = some (.slice ad6 n6 cap6) from ⟨cA0, cA1, cB0, cB1, cw00, cw01, cx00, cx01, cx10, cx11, cg00, cg01⟩)
  refine hKq.out _ _ HH.out (fun _ => ?_)
  clear hKq Kq
  try simp only [Act.put, List.setIfInBounds_toArray, List.set_cons_zero, List.set_cons_succ]
  refine wpAnyH_take (i := 4) (oi := ⟨some _, _, _, _, _, _⟩) (v := ?_) rfl (by kernel_rfl) (by kernel_rfl) (by kernel_rfl) (fun _ _ _ h => h) (Or.inl ⟨by rfl, ?_⟩) HH.out ?_
  rotate_left
  · intro wS hSw
    try dsimp only at hSw
    go_simp
    all_goals (with_reducible rfl)
  simp only [Act.put, List.setIfInBounds_toArray, List.set_cons_zero, List.set_cons_succ]
  refine wpAnyH_done (by kernel_rfl) ?_ _
  clear HH
  clear r8
  go_wp2
  replace sA := BasisI_mv sA (Mv.drew (Mv.refl w9 0 0)) (.inr (Nat.zero_le _))
  replace sB := BasisI_mv sB (Mv.drew (Mv.refl w9 0 0)) (.inr (Nat.zero_le _))
  replace r3 := BasisI_mv r3 (Mv.drew (Mv.refl w9 0 0)) (.inr (Nat.zero_le _))
  replace r4 := BasisO_mv r4 (Mv.drew (Mv.refl w9 0 0)) (.inr (Nat.zero_le _))
  replace r5 := BasisO_mv r5 (Mv.drew (Mv.refl w9 0 0)) (.inr (Nat.zero_le _))
  replace r6 := BasisO_mv r6 (Mv.drew (Mv.refl w9 0 0)) (.inr (Nat.zero_le _))
  replace kA : Blk w9.drew (w.heap.size) _ (.int .i64 WA) (.slice adA nA capA) := ⟨kA.obj⟩
  clear cA0 cA1
  have cA0 := kA.c0
  have cA1 := kA.c1
  replace kB : Blk w9.drew (w.heap.size + 1) _ (.int .i64 WB) (.slice adB nB capB) := ⟨kB.obj⟩
  clear cB0 cB1
  have cB0 := kB.c0
  have cB1 := kB.c1
  replace kw0 : Blk w9.drew (X3) _ (.int .i64 WR) (.slice ad3 n3 cap3) := ⟨kw0.obj⟩
  clear cw00 cw01
  have cw00 := kw0.c0
  have cw01 := kw0.c1
  replace kx0 : Blk w9.drew (w4.heap.size) _ (.int .i64 WA) (.slice ad4 n4 cap4) := ⟨kx0.obj⟩
  clear cx00 cx01
  have cx00 := kx0.c0
  have cx01 := kx0.c1
  replace kx1 : Blk w9.drew (w5.heap.size) _ (.int .i64 WB) (.slice ad5 n5 cap5) := ⟨kx1.obj⟩
  clear cx10 cx11
  have cx10 := kx1.c0
  have cx11 := kx1.c1
  replace kg0 : Blk w9.drew (w6.heap.size) _ (.int .i64 WR) (.slice ad6 n6 cap6) := ⟨kg0.obj⟩
  clear cg00 cg01
  have cg00 := kg0.c0
  have cg01 := kg0.c1
  replace frm := frm.drew
  have zd : w9.heap.size = w9.drew.heap.size := rfl
  refine wp_region_held (S := fun w' => w'.cell? ⟨w.heap.size, 0, none⟩ = some (.int .i64 WA) ∧ w'.cell? ⟨w.heap.size, 1, none⟩ = some (.slice adA nA capA) ∧ w'.cell? ⟨w.heap.size + 1, 0, none⟩ = some (.int .i64 WB) ∧ w'.cell? ⟨w.heap.size + 1, 1, none⟩ = some (.slice adB nB capB) ∧ w'.cell? ⟨X3, 0, none⟩ = some (.int .i64 WR) ∧ w'.cell? ⟨X3, 1, none⟩ = some (.slice ad3 n3 cap3) ∧ w'.cell? ⟨w4.heap.size, 0, none⟩ = some (.int .i64 WA) ∧ w'.cell? ⟨w4.heap.size, 1, none⟩ = some (.slice ad4 n4 cap4) ∧ w'.cell? ⟨w5.heap.size, 0, none⟩ = some (.int .i64 WB) ∧ w'.cell? ⟨w5.heap.size, 1, none⟩ = some (.slice ad5 n5 cap5) ∧ w'.cell? ⟨w6.heap.size, 0, none⟩ = some (.int .i64 WR) ∧ w'.cell? ⟨w6.heap.size, 1, none⟩ = some (.slice ad6 n6 cap6)) (by kernel_rfl) ?_
  change wpAnyH _ _ _ _ _ _ _ _ w9.drew
  generalize w9.drew = d0 at *
  have HH := Lib.hid (show d0.cell? ⟨w.heap.size, 0, none⟩ = some (.int .i64 WA) ∧ d0.cell? ⟨w.heap.size, 1, none⟩ = some (.slice adA nA capA) ∧ d0.cell? ⟨w.heap.size + 1, 0, none⟩ = some (.int .i64 WB) ∧ d0.cell? ⟨w.heap.size + 1, 1, none⟩ = some (.slice adB nB capB) ∧ d0.cell? ⟨X3, 0, none⟩ = some (.int .i64 WR) ∧ d0.cell? ⟨X3, 1, none⟩ = some (.slice ad3 n3 cap3) ∧ d0.cell? ⟨w4.heap.size, 0, none⟩ = some (.int .i64 WA) ∧ d0.cell? ⟨w4.heap.size, 1, none⟩ = some (.slice ad4 n4 cap4) ∧ d0.cell? ⟨w5.heap.size, 0, none⟩ = some (.int .i64 WB) ∧ d0.cell? ⟨w5.heap.size, 1, none⟩ = some (.slice ad5 n5 cap5) ∧ d0.cell? ⟨w6.heap.size, 0, none⟩ = some (.int .i64 WR) ∧ d0.cell? ⟨w6.heap.size, 1, none⟩ = some (.slice ad6 n6 cap6) from ⟨cA0, cA1, cB0, cB1, cw00, cw01, cx00, cx01, cx10, cx11, cg00, cg01⟩)
  refine wpAnyH_take (i := 0) (oi := ⟨some _, _, _, _, _, _⟩) (v := ?_) rfl (by kernel_rfl) (by kernel_rfl) (by kernel_rfl) (fun _ _ _ h => h) (Or.inl ⟨by rfl, ?_⟩) HH.out ?_
  rotate_left
  · intro wS hSw
    try dsimp only at hSw
    go_simp
    all_goals (with_reducible rfl)
  simp only [Act.put, List.setIfInBounds_toArray, List.set_cons_zero, List.set_cons_succ]
  refine wpAnyH_take (i := 1) (oi := ⟨some _, _, _, _, _, _⟩) (v := ?_) rfl (by kernel_rfl) (by kernel_rfl) (by kernel_rfl) (fun _ _ _ h => h) (Or.inl ⟨by rfl, ?_⟩) HH.out ?_
  rotate_left
  · intro wS hSw
    try dsimp only at hSw
    go_simp
    all_goals (with_reducible rfl)
  simp only [Act.put, List.setIfInBounds_toArray, List.set_cons_zero, List.set_cons_succ]
  clear HH
  refine wpAnyH_ready (rs := [2]) (by kernel_rfl) (by simp) ?_
  refine AllReadyH.cons (o := ⟨some _, _, _, _, _, _⟩) rfl (fun Kq hKq => ?_) AllReadyH.nil
  go_simp
  refine (toBasis sB fB).mono ?_
  rintro e w10 ⟨u10, rfl, r10, bl⟩
  have z10 := bl.size
  replace sA := BasisI_below sA bl (by omega)
  replace sB := BasisI_below sB bl (by omega)
  replace r3 := BasisI_below r3 bl (by omega)
  replace r4 := BasisO_below r4 bl (by omega)
  replace r5 := BasisO_below r5 bl (by omega)
  replace r6 := BasisO_below r6 bl (by omega)
  replace kA := kA.below bl (by omega)
  clear cA0 cA1
  have cA0 := kA.c0
  have cA1 := kA.c1
  replace kB := kB.below bl (by omega)
  clear cB0 cB1
  have cB0 := kB.c0
  have cB1 := kB.c1
  replace kw0 := kw0.below bl (by omega)
  clear cw00 cw01
  have cw00 := kw0.c0
  have cw01 := kw0.c1
  replace kx0 := kx0.below bl (by omega)
  clear cx00 cx01
  have cx00 := kx0.c0
  have cx01 := kx0.c1
  replace kx1 := kx1.below bl (by omega)
  clear cx10 cx11
  have cx10 := kx1.c0
  have cx11 := kx1.c1
  replace kg0 := kg0.below bl (by omega)
  clear cg00 cg01
  have cg00 := kg0.c0
  have cg01 := kg0.c1
  replace frm := frm.trans (bl.mono (by omega))
  clear bl
  obtain ⟨_, rfl, hw10, ad10, n10, cap10, us10, rfl, r10⟩ := r10
  replace r10 : BasisO w10 _ _ (.agg #[.int .i64 WB, .slice ad10 n10 cap10]) (WB, MB) := ⟨_, rfl, hw10, _, _, _, _, rfl, r10⟩
  have HH := Lib.hid (show w10.cell? ⟨w.heap.size, 0, none⟩ = some (.int .i64 WA) ∧ w10.cell? ⟨w.heap.size, 1, none⟩ = some (.slice adA nA capA) ∧ w10.cell? ⟨w.heap.size + 1, 0, none⟩ = some (.int .i64 WB) ∧ w10.cell? ⟨w.heap.size + 1, 1, none⟩ = some (.slice adB nB capB) ∧ w10.cell? ⟨X3, 0, none⟩ = some (.int .i64 WR) ∧ w10.cell? ⟨X3, 1, none⟩ = some (.slice ad3 n3 cap3) ∧ w10.cell? ⟨w4.heap.size, 0, none⟩ = some (.int .i64 WA) ∧ w10.cell? ⟨w4.heap.size, 1, none⟩ = some (.slice ad4 n4 cap4) ∧ w10.cell? ⟨w5.heap.size, 0, none⟩ = some (.int .i64 WB) ∧ w10.cell? ⟨w5.heap.size, 1, none⟩ = some (.slice ad5 n5 cap5) ∧ w10.cell? ⟨w6.heap.size, 0, none⟩ = some (.int .i64 WR) ∧ w10.cell? ⟨w6.heap.size, 1, none⟩ = some (.slice ad6 n6 cap6) from ⟨cA0, cA1, cB0, cB1, cw00, cw01, cx00, cx01, cx10, cx11, cg00, cg01⟩)
  refine hKq.out _ _ HH.out (fun _ => ?_)
  clear hKq Kq
  clear HH
  refine wpAnyH_ready (rs := [3]) (by kernel_rfl) (by simp) ?_
  refine AllReadyH.cons (o := ⟨some _, _, _, _, _, _⟩) rfl (fun Kq hKq => ?_) AllReadyH.nil
  go_simp
  refine (eqBasis (BasisO_is r5) (BasisO_is r10) fB rfl).mono ?_
  rintro e w11 ⟨rfl, bl⟩
  have z11 := bl.size
  replace sA := BasisI_below sA bl (by omega)
  replace sB := BasisI_below sB bl (by omega)
  replace r3 := BasisI_below r3 bl (by omega)
  replace r4 := BasisO_below r4 bl (by omega)
  replace r5 := BasisO_below r5 bl (by omega)
  replace r6 := BasisO_below r6 bl (by omega)
  replace kA := kA.below bl (by omega)
  clear cA0 cA1
  have cA0 := kA.c0
  have cA1 := kA.c1
  replace kB := kB.below bl (by omega)
  clear cB0 cB1
  have cB0 := kB.c0
  have cB1 := kB.c1
  replace kw0 := kw0.below bl (by omega)
  clear cw00 cw01
  have cw00 := kw0.c0
  have cw01 := kw0.c1
  replace kx0 := kx0.below bl (by omega)
  clear cx00 cx01
  have cx00 := kx0.c0
  have cx01 := kx0.c1
  replace kx1 := kx1.below bl (by omega)
  clear cx10 cx11
  have cx10 := kx1.c0
  have cx11 := kx1.c1
  replace kg0 := kg0.below bl (by omega)
  clear cg00 cg01
  have cg00 := kg0.c0
  have cg01 := kg0.c1
  replace frm := frm.trans (bl.mono (by omega))
  clear bl
  have HH := Lib.hid (show w11.cell? ⟨w.heap.size, 0, none⟩ = some (.int .i64 WA) ∧ w11.cell? ⟨w.heap.size, 1, none⟩ = some (.slice adA nA capA) ∧ w11.cell? ⟨w.heap.size + 1, 0, none⟩ = some (.int .i64 WB) ∧ w11.cell? ⟨w.heap.size + 1, 1, none⟩ = some (.slice adB nB capB) ∧ w11.cell? ⟨X3, 0, none⟩ = some (.int .i64 WR) ∧ w11.cell? ⟨X3, 1, none⟩ = some (.slice ad3 n3 cap3) ∧ w11.cell? ⟨w4.heap.size, 0, none⟩ = some (.int .i64 WA) ∧ w11.cell? ⟨w4.heap.size, 1, none⟩ = some (.slice ad4 n4 cap4) ∧ w11.cell? ⟨w5.heap.size, 0, none⟩ = some (.int .i64 WB) ∧ w11.cell? ⟨w5.heap.size, 1, none⟩ = some (.slice ad5 n5 cap5) ∧ w11.cell? ⟨w6.heap.size, 0, none⟩ = some (.int .i64 WR) ∧ w11.cell? ⟨w6.heap.size, 1, none⟩ = some (.slice ad6 n6 cap6) from ⟨cA0, cA1, cB0, cB1, cw00, cw01, cx00, cx01, cx10, cx11, cg00, cg01⟩)
  refine hKq.out _ _ HH.out (fun _ => ?_)
  clear hKq Kq
  try simp only [Act.put, List.setIfInBounds_toArray, List.set_cons_zero, List.set_cons_succ]
  refine wpAnyH_take (i := 4) (oi := ⟨some _, _, _, _, _, _⟩) (v := ?_) rfl (by kernel_rfl) (by kernel_rfl) (by kernel_rfl) (fun _ _ _ h => h) (Or.inl ⟨by rfl, ?_⟩) HH.out ?_
  rotate_left
  · intro wS hSw
    try dsimp only at hSw
    go_simp
    all_goals (with_reducible rfl)
  simp only [Act.put, List.setIfInBounds_toArray, List.set_cons_zero, List.set_cons_succ]
  refine wpAnyH_done (by kernel_rfl) ?_ _
  clear HH
  clear r10
  go_wp2_with fail
  go_at_call 19
  refine (markBasis r4 fA (1) (by omega) (by omega)).mono ?_
  rintro e w12 ⟨rfl, new, mv⟩
  have z12 := mv.size
  replace sA := BasisI_mv sA mv (by omega)
  replace sB := BasisI_mv sB mv (by omega)
  replace r3 := BasisI_mv r3 mv (by omega)
  replace r5 := BasisO_mv r5 mv (by omega)
  replace r6 := BasisO_mv r6 mv (by omega)
  replace kA := kA.mv mv (by omega)
  clear cA0 cA1
  have cA0 := kA.c0
  have cA1 := kA.c1
  replace kB := kB.mv mv (by omega)
  clear cB0 cB1
  have cB0 := kB.c0
  have cB1 := kB.c1
  replace kw0 := kw0.mv mv (by omega)
  clear cw00 cw01
  have cw00 := kw0.c0
  have cw01 := kw0.c1
  replace kx0 := kx0.mv mv (by omega)
  clear cx00 cx01
  have cx00 := kx0.c0
  have cx01 := kx0.c1
  replace kx1 := kx1.mv mv (by omega)
  clear cx10 cx11
  have cx10 := kx1.c0
  have cx11 := kx1.c1
  replace kg0 := kg0.mv mv (by omega)
  clear cg00 cg01
  have cg00 := kg0.c0
  have cg01 := kg0.c1
  replace frm := frm.trans (mv.below (by omega) (by omega))
  clear new mv
  clear r4
  go_wp2_with fail
  go_at_call 19
  refine (markBasis r5 fB (1 + (BasisC (WA, MA) : Int)) (by omega) (by omega)).mono ?_
  rintro e w13 ⟨rfl, new, mv⟩
  have z13 := mv.size
  replace sA := BasisI_mv sA mv (by omega)
  replace sB := BasisI_mv sB mv (by omega)
  replace r3 := BasisI_mv r3 mv (by omega)
  replace r6 := BasisO_mv r6 mv (by omega)
  replace kA := kA.mv mv (by omega)
  clear cA0 cA1
  have cA0 := kA.c0
  have cA1 := kA.c1
  replace kB := kB.mv mv (by omega)
  clear cB0 cB1
  have cB0 := kB.c0
  have cB1 := kB.c1
  replace kw0 := kw0.mv mv (by omega)
  clear cw00 cw01
  have cw00 := kw0.c0
  have cw01 := kw0.c1
  replace kx0 := kx0.mv mv (by omega)
  clear cx00 cx01
  have cx00 := kx0.c0
  have cx01 := kx0.c1
  replace kx1 := kx1.mv mv (by omega)
  clear cx10 cx11
  have cx10 := kx1.c0
  have cx11 := kx1.c1
  replace kg0 := kg0.mv mv (by omega)
  clear cg00 cg01
  have cg00 := kg0.c0
  have cg01 := kg0.c1
  replace frm := frm.trans (mv.below (by omega) (by omega))
  clear new mv
  clear r5
  go_wp2_with fail
  go_at_call 18
  refine (eqBasis (BasisO_is r6) r3 hfit rfl).mono ?_
  rintro e w14 ⟨rfl, bl⟩
  have z14 := bl.size
  replace sA := BasisI_below sA bl (by omega)
  replace sB := BasisI_below sB bl (by omega)
  replace r3 := BasisI_below r3 bl (by omega)
  replace r6 := BasisO_below r6 bl (by omega)
  replace kA := kA.below bl (by omega)
  clear cA0 cA1
  have cA0 := kA.c0
  have cA1 := kA.c1
  replace kB := kB.below bl (by omega)
  clear cB0 cB1
  have cB0 := kB.c0
  have cB1 := kB.c1
  replace kw0 := kw0.below bl (by omega)
  clear cw00 cw01
  have cw00 := kw0.c0
  have cw01 := kw0.c1
  replace kx0 := kx0.below bl (by omega)
  clear cx00 cx01
  have cx00 := kx0.c0
  have cx01 := kx0.c1
  replace kx1 := kx1.below bl (by omega)
  clear cx10 cx11
  have cx10 := kx1.c0
  have cx11 := kx1.c1
  replace kg0 := kg0.below bl (by omega)
  clear cg00 cg01
  have cg00 := kg0.c0
  have cg01 := kg0.c1
  replace frm := frm.trans (bl.mono (by omega))
  clear bl
  go_wp2_with fail
  go_at_call 19
  refine (markBasis r6 hfit (1) (by omega) (by omega)).mono ?_
  rintro e w15 ⟨rfl, new, mv⟩
  have z15 := mv.size
  replace sA := BasisI_mv sA mv (by omega)
  replace sB := BasisI_mv sB mv (by omega)
  replace r3 := BasisI_mv r3 mv (by omega)
  replace kA := kA.mv mv (by omega)
  clear cA0 cA1
  have cA0 := kA.c0
  have cA1 := kA.c1
  replace kB := kB.mv mv (by omega)
  clear cB0 cB1
  have cB0 := kB.c0
  have cB1 := kB.c1
  replace kw0 := kw0.mv mv (by omega)
  clear cw00 cw01
  have cw00 := kw0.c0
  have cw01 := kw0.c1
  replace kx0 := kx0.mv mv (by omega)
  clear cx00 cx01
  have cx00 := kx0.c0
  have cx01 := kx0.c1
  replace kx1 := kx1.mv mv (by omega)
  clear cx10 cx11
  have cx10 := kx1.c0
  have cx11 := kx1.c1
  replace kg0 := kg0.mv mv (by omega)
  clear cg00 cg01
  have cg00 := kg0.c0
  have cg01 := kg0.c1
  replace frm := frm.trans (mv.below (by omega) (by omega))
  have r6m := new
  clear new mv
  go_wp2_with fail
  go_at_call 20
  refine (heldBasis (1) (BasisO_is r6m) hfit (by omega) (by omega)).mono ?_
  rintro e w16 ⟨rfl, bl⟩
  have z16 := bl.size
  replace sA := BasisI_below sA bl (by omega)
  replace sB := BasisI_below sB bl (by omega)
  replace r3 := BasisI_below r3 bl (by omega)
  replace r6m := BasisO_below r6m bl (by omega)
  replace kA := kA.below bl (by omega)
  clear cA0 cA1
  have cA0 := kA.c0
  have cA1 := kA.c1
  replace kB := kB.below bl (by omega)
  clear cB0 cB1
  have cB0 := kB.c0
  have cB1 := kB.c1
  replace kw0 := kw0.below bl (by omega)
  clear cw00 cw01
  have cw00 := kw0.c0
  have cw01 := kw0.c1
  replace kx0 := kx0.below bl (by omega)
  clear cx00 cx01
  have cx00 := kx0.c0
  have cx01 := kx0.c1
  replace kx1 := kx1.below bl (by omega)
  clear cx10 cx11
  have cx10 := kx1.c0
  have cx11 := kx1.c1
  replace kg0 := kg0.below bl (by omega)
  clear cg00 cg01
  have cg00 := kg0.c0
  have cg01 := kg0.c1
  replace frm := frm.trans (bl.mono (by omega))
  clear bl
  go_wp2
  go_cut [13] (fun xq wx => ∃ (X lo hi : Nat) (ad19 : Option Addr) (n19 cap19 : Nat), xq = .pointer (some ⟨X, 0, none⟩) ∧ Blk wx X 26 (.int .i64 WR) (.slice ad19 n19 cap19) ∧ BasisO wx lo hi (.agg #[.int .i64 WR, .slice ad19 n19 cap19]) (WR, MR) ∧ (w16.heap.size ≤ lo ∧ hi ≤ wx.heap.size ∧ w16.heap.size ≤ X ∧ (X < lo ∨ hi ≤ X)) ∧ Below w16.heap.size w16 wx)
  case first =>
    have sP := BasisI_mv sA (Mv.drew (Mv.refl w16 0 0)) (.inr (Nat.zero_le _))
    have sQ := BasisI_mv sB (Mv.drew (Mv.refl w16 0 0)) (.inr (Nat.zero_le _))
    have kP : Blk w16.drew (w.heap.size) _ (.int .i64 WA) (.slice adA nA capA) := ⟨kA.obj⟩
    have kQ : Blk w16.drew (w.heap.size + 1) _ (.int .i64 WB) (.slice adB nB capB) := ⟨kB.obj⟩
    have bD : Below w16.heap.size w16 w16.drew := (Below.refl _ _).drew
    have zD : w16.heap.size ≤ w16.drew.heap.size := Nat.le_refl _
    have zD2 : w16.drew.heap.size ≤ w16.heap.size := Nat.le_refl _
    refine wp_region_held (S := fun w' => w'.cell? ⟨w.heap.size, 0, none⟩ = some (.int .i64 WA) ∧ w'.cell? ⟨w.heap.size, 1, none⟩ = some (.slice adA nA capA) ∧ w'.cell? ⟨w.heap.size + 1, 0, none⟩ = some (.int .i64 WB) ∧ w'.cell? ⟨w.heap.size + 1, 1, none⟩ = some (.slice adB nB capB)) (by kernel_rfl) ?_
    change wpAnyH _ _ _ _ _ _ _ _ w16.drew
    generalize w16.drew = d0 at *
    have HH := Lib.hid (show d0.cell? ⟨w.heap.size, 0, none⟩ = some (.int .i64 WA) ∧ d0.cell? ⟨w.heap.size, 1, none⟩ = some (.slice adA nA capA) ∧ d0.cell? ⟨w.heap.size + 1, 0, none⟩ = some (.int .i64 WB) ∧ d0.cell? ⟨w.heap.size + 1, 1, none⟩ = some (.slice adB nB capB) from ⟨kP.c0, kP.c1, kQ.c0, kQ.c1⟩)
    refine wpAnyH_take (i := 0) (oi := ⟨some _, _, _, _, _, _⟩) (v := ?_) rfl (by kernel_rfl) (by kernel_rfl) (by kernel_rfl) (fun _ _ _ h => h) (Or.inl ⟨by rfl, ?_⟩) HH.out ?_
    rotate_left
    · intro wS hSw
      try dsimp only at hSw
      go_simp
      all_goals (with_reducible rfl)
    simp only [Act.put, List.setIfInBounds_toArray, List.set_cons_zero, List.set_cons_succ]
    refine wpAnyH_take (i := 2) (oi := ⟨some _, _, _, _, _, _⟩) (v := ?_) rfl (by kernel_rfl) (by kernel_rfl) (by kernel_rfl) (fun _ _ _ h => h) (Or.inl ⟨by rfl, ?_⟩) HH.out ?_
    rotate_left
    · intro wS hSw
      try dsimp only at hSw
      go_simp
      all_goals (with_reducible rfl)
    simp only [Act.put, List.setIfInBounds_toArray, List.set_cons_zero, List.set_cons_succ]
    refine wpAnyH_ready (rs := [1, 5]) (by kernel_rfl) (by simp) ?_
    refine AllReadyH.cons (o := ⟨some _, _, _, _, _, _⟩) rfl (fun Kq hKq => ?_) (AllReadyH.cons (o := ⟨some _, _, _, _, _, _⟩) rfl (fun Kq hKq => ?_) AllReadyH.nil)
    · go_simp
      refine (toBasis sP fA).mono ?_
      rintro e v1 ⟨_, rfl, ⟨_, rfl, hwP, _, _, _, _, rfl, rP⟩, bl⟩
      have zv1 := bl.size
      replace kP := kP.below bl (by omega)
      replace kQ := kQ.below bl (by omega)
      replace sQ := BasisI_below sQ bl (by omega)
      replace bD := bD.trans (bl.mono (by omega))
      clear bl HH
      have HH := Lib.hid (show v1.cell? ⟨w.heap.size, 0, none⟩ = some (.int .i64 WA) ∧ v1.cell? ⟨w.heap.size, 1, none⟩ = some (.slice adA nA capA) ∧ v1.cell? ⟨w.heap.size + 1, 0, none⟩ = some (.int .i64 WB) ∧ v1.cell? ⟨w.heap.size + 1, 1, none⟩ = some (.slice adB nB capB) from ⟨kP.c0, kP.c1, kQ.c0, kQ.c1⟩)
      refine hKq.out _ _ HH.out (fun _ => ?_)
      clear hKq Kq
      refine wpAnyH_ready (rs := [3, 5]) (by kernel_rfl) (by simp) ?_
      refine AllReadyH.cons (o := ⟨some _, _, _, _, _, _⟩) rfl (fun Kq hKq => ?_) (AllReadyH.cons (o := ⟨some _, _, _, _, _, _⟩) rfl (fun Kq hKq => ?_) AllReadyH.nil)
      · go_simp
        refine (toBasis sQ fB).mono ?_
        rintro e v2 ⟨_, rfl, ⟨_, rfl, hwQ, _, _, _, _, rfl, rQ⟩, bl⟩
        have zv2 := bl.size
        replace kP := kP.below bl (by omega)
        replace kQ := kQ.below bl (by omega)
        replace rP := rP.below bl (.inr (Nat.le_refl _))
        replace bD := bD.trans (bl.mono (by omega))
        clear bl HH
        have HH := Lib.hid (show v2.cell? ⟨w.heap.size, 0, none⟩ = some (.int .i64 WA) ∧ v2.cell? ⟨w.heap.size, 1, none⟩ = some (.slice adA nA capA) ∧ v2.cell? ⟨w.heap.size + 1, 0, none⟩ = some (.int .i64 WB) ∧ v2.cell? ⟨w.heap.size + 1, 1, none⟩ = some (.slice adB nB capB) from ⟨kP.c0, kP.c1, kQ.c0, kQ.c1⟩)
        refine hKq.out _ _ HH.out (fun _ => ?_)
        clear hKq Kq
        refine wpAnyH_ready (rs := [4, 5]) (by kernel_rfl) (by simp) ?_
        refine AllReadyH.cons (o := ⟨some _, _, _, _, _, _⟩) rfl (fun Kq hKq => ?_) (AllReadyH.cons (o := ⟨some _, _, _, _, _, _⟩) rfl (fun Kq hKq => ?_) AllReadyH.nil)
        · go_simp
          refine (HI.out _ _ _ _ (BasisO_is ⟨_, rfl, hwP, _, _, _, _, rfl, rP⟩) _ _ _ (BasisO_is ⟨_, rfl, hwQ, _, _, _, _, rfl, rQ⟩)).mono ?_
          rintro e v3 ⟨_, rfl, ⟨_, rfl, hw19, ad19, n19, cap19, us19, rfl, r19⟩, bl⟩
          have zv3 := bl.size
          replace kP := kP.below bl (by omega)
          replace kQ := kQ.below bl (by omega)
          replace r19 : BasisO v3 _ _ (.agg #[.int .i64 WR, .slice ad19 n19 cap19]) (WR, MR) := ⟨_, rfl, hw19, _, _, _, _, rfl, r19⟩
          replace bD := bD.trans (bl.mono (by omega))
          clear bl HH
          have HH := Lib.hid (show v3.cell? ⟨w.heap.size, 0, none⟩ = some (.int .i64 WA) ∧ v3.cell? ⟨w.heap.size, 1, none⟩ = some (.slice adA nA capA) ∧ v3.cell? ⟨w.heap.size + 1, 0, none⟩ = some (.int .i64 WB) ∧ v3.cell? ⟨w.heap.size + 1, 1, none⟩ = some (.slice adB nB capB) from ⟨kP.c0, kP.c1, kQ.c0, kQ.c1⟩)
          refine hKq.out _ _ HH.out (fun _ => ?_)
          clear hKq Kq
          refine wpAnyH_ready (rs := [5]) (by kernel_rfl) (by simp) ?_
          refine AllReadyH.cons (o := ⟨some _, _, _, _, _, _⟩) rfl (fun Kq hKq => ?_) AllReadyH.nil
          go_simp
          have kX := Blk.new v3 (.int .i64 0) (.slice none 0 0) 26
          have bl := below_box v3 (.cells #[.int .i64 0, .slice none 0 0] 26)
          have zx : (v3.alloc (.cells #[.int .i64 0, .slice none 0 0] 26)).heap.size = v3.heap.size + 1 := by simp
          obtain ⟨X, eX⟩ : ∃ X, X = v3.heap.size := ⟨_, rfl⟩
          rw [← eX] at kX
          generalize v3.alloc (.cells #[.int .i64 0, .slice none 0 0] 26) = v4 at *
          rw [← eX]
          have hX1 : v3.heap.size ≤ X := by omega
          have hX2 : X < v4.heap.size := by omega
          replace kP := kP.below bl (by omega)
          replace kQ := kQ.below bl (by omega)
          replace r19 := BasisO_below r19 bl (by omega)
          replace bD := bD.trans (bl.mono (by omega))
          clear bl HH eX
          have HH := Lib.hid (show v4.cell? ⟨w.heap.size, 0, none⟩ = some (.int .i64 WA) ∧ v4.cell? ⟨w.heap.size, 1, none⟩ = some (.slice adA nA capA) ∧ v4.cell? ⟨w.heap.size + 1, 0, none⟩ = some (.int .i64 WB) ∧ v4.cell? ⟨w.heap.size + 1, 1, none⟩ = some (.slice adB nB capB) from ⟨kP.c0, kP.c1, kQ.c0, kQ.c1⟩)
          refine hKq.out _ _ HH.out (fun _ => ?_)
          clear hKq Kq
          refine wpAnyH_ready (rs := [6]) (by kernel_rfl) (by simp) ?_
          refine AllReadyH.cons (o := ⟨none, _, _, _, _, _⟩) rfl (fun Kq hKq => ?_) AllReadyH.nil
          have x0 := kX.c0
          have x1 := kX.c1
          have y0 := kX.f0
          have y1 := kX.f1
          have kX9 := (kX.set0 (.int .i64 WR)).set1 (.slice ad19 n19 cap19)
          have hm9 : Mv v4 ((v4.setCell ⟨X, 0, none⟩ (.int .i64 WR)).setCell ⟨X, 1, none⟩ (.slice ad19 n19 cap19)) X (X + 1) :=
            ((Mv.refl _ _ _).setCell (p := ⟨X, 0, none⟩) (Nat.le_refl _) (Nat.lt_succ_self _) _).setCell (p := ⟨X, 1, none⟩) (Nat.le_refl _) (Nat.lt_succ_self _) _
          go_simp
          generalize (v4.setCell ⟨X, 0, none⟩ (.int .i64 WR)).setCell ⟨X, 1, none⟩ (.slice ad19 n19 cap19) = W9 at *
          replace kP := kP.mv hm9 (by omega)
          replace kQ := kQ.mv hm9 (by omega)
          have r9 := BasisO_mv r19 hm9 (by omega)
          have z9 := hm9.size
          have b9 := bD.trans (hm9.below (by omega) (by omega))
          clear HH x0 x1 y0 y1 bD hm9 kX r19
          have HH := Lib.hid (show W9.cell? ⟨w.heap.size, 0, none⟩ = some (.int .i64 WA) ∧ W9.cell? ⟨w.heap.size, 1, none⟩ = some (.slice adA nA capA) ∧ W9.cell? ⟨w.heap.size + 1, 0, none⟩ = some (.int .i64 WB) ∧ W9.cell? ⟨w.heap.size + 1, 1, none⟩ = some (.slice adB nB capB) from ⟨kP.c0, kP.c1, kQ.c0, kQ.c1⟩)
          refine hKq.out _ _ HH.out (fun _ => ?_)
          clear hKq Kq
          refine wpAnyH_done (by kernel_rfl) ?_ _
          clear HH kP kQ
          go_wp2_with fail
          go_meet
          exact ⟨X, _, _, _, _, _, rfl, kX9, r9, ⟨by omega, by omega, by omega, by omega⟩, b9⟩
        · go_simp
          have kX := Blk.new v2 (.int .i64 0) (.slice none 0 0) 26
          have bl := below_box v2 (.cells #[.int .i64 0, .slice none 0 0] 26)
          have zx : (v2.alloc (.cells #[.int .i64 0, .slice none 0 0] 26)).heap.size = v2.heap.size + 1 := by simp
          obtain ⟨X, eX⟩ : ∃ X, X = v2.heap.size := ⟨_, rfl⟩
          rw [← eX] at kX
          generalize v2.alloc (.cells #[.int .i64 0, .slice none 0 0] 26) = v3 at *
          rw [← eX]
          have hX1 : v2.heap.size ≤ X := by omega
          have hX2 : X < v3.heap.size := by omega
          replace kP := kP.below bl (by omega)
          replace kQ := kQ.below bl (by omega)
          replace rP := rP.below bl (.inr (Nat.le_refl _))
          replace rQ := rQ.below bl (.inr (Nat.le_refl _))
          replace bD := bD.trans (bl.mono (by omega))
          clear bl HH eX
          have HH := Lib.hid (show v3.cell? ⟨w.heap.size, 0, none⟩ = some (.int .i64 WA) ∧ v3.cell? ⟨w.heap.size, 1, none⟩ = some (.slice adA nA capA) ∧ v3.cell? ⟨w.heap.size + 1, 0, none⟩ = some (.int .i64 WB) ∧ v3.cell? ⟨w.heap.size + 1, 1, none⟩ = some (.slice adB nB capB) from ⟨kP.c0, kP.c1, kQ.c0, kQ.c1⟩)
          refine hKq.out _ _ HH.out (fun _ => ?_)
          clear hKq Kq
          refine wpAnyH_ready (rs := [4]) (by kernel_rfl) (by simp) ?_
          refine AllReadyH.cons (o := ⟨some _, _, _, _, _, _⟩) rfl (fun Kq hKq => ?_) AllReadyH.nil
          go_simp
          refine (HI.out _ _ _ _ (BasisO_is ⟨_, rfl, hwP, _, _, _, _, rfl, rP⟩) _ _ _ (BasisO_is ⟨_, rfl, hwQ, _, _, _, _, rfl, rQ⟩)).mono ?_
          rintro e v4 ⟨_, rfl, ⟨_, rfl, hw19, ad19, n19, cap19, us19, rfl, r19⟩, bl⟩
          have zv4 := bl.size
          replace kP := kP.below bl (by omega)
          replace kQ := kQ.below bl (by omega)
          replace kX := kX.below bl (by omega)
          replace r19 : BasisO v4 _ _ (.agg #[.int .i64 WR, .slice ad19 n19 cap19]) (WR, MR) := ⟨_, rfl, hw19, _, _, _, _, rfl, r19⟩
          replace bD := bD.trans (bl.mono (by omega))
          clear bl HH
          have HH := Lib.hid (show v4.cell? ⟨w.heap.size, 0, none⟩ = some (.int .i64 WA) ∧ v4.cell? ⟨w.heap.size, 1, none⟩ = some (.slice adA nA capA) ∧ v4.cell? ⟨w.heap.size + 1, 0, none⟩ = some (.int .i64 WB) ∧ v4.cell? ⟨w.heap.size + 1, 1, none⟩ = some (.slice adB nB capB) from ⟨kP.c0, kP.c1, kQ.c0, kQ.c1⟩)
          refine hKq.out _ _ HH.out (fun _ => ?_)
          clear hKq Kq
          refine wpAnyH_ready (rs := [6]) (by kernel_rfl) (by simp) ?_
          refine AllReadyH.cons (o := ⟨none, _, _, _, _, _⟩) rfl (fun Kq hKq => ?_) AllReadyH.nil
          have x0 := kX.c0
          have x1 := kX.c1
          have y0 := kX.f0
          have y1 := kX.f1
          have kX9 := (kX.set0 (.int .i64 WR)).set1 (.slice ad19 n19 cap19)
          have hm9 : Mv v4 ((v4.setCell ⟨X, 0, none⟩ (.int .i64 WR)).setCell ⟨X, 1, none⟩ (.slice ad19 n19 cap19)) X (X + 1) :=
            ((Mv.refl _ _ _).setCell (p := ⟨X, 0, none⟩) (Nat.le_refl _) (Nat.lt_succ_self _) _).setCell (p := ⟨X, 1, none⟩) (Nat.le_refl _) (Nat.lt_succ_self _) _
          go_simp
          generalize (v4.setCell ⟨X, 0, none⟩ (.int .i64 WR)).setCell ⟨X, 1, none⟩ (.slice ad19 n19 cap19) = W9 at *
          replace kP := kP.mv hm9 (by omega)
          replace kQ := kQ.mv hm9 (by omega)
          have r9 := BasisO_mv r19 hm9 (by omega)
          have z9 := hm9.size
          have b9 := bD.trans (hm9.below (by omega) (by omega))
          clear HH x0 x1 y0 y1 bD hm9 kX r19
          have HH := Lib.hid (show W9.cell? ⟨w.heap.size, 0, none⟩ = some (.int .i64 WA) ∧ W9.cell? ⟨w.heap.size, 1, none⟩ = some (.slice adA nA capA) ∧ W9.cell? ⟨w.heap.size + 1, 0, none⟩ = some (.int .i64 WB) ∧ W9.cell? ⟨w.heap.size + 1, 1, none⟩ = some (.slice adB nB capB) from ⟨kP.c0, kP.c1, kQ.c0, kQ.c1⟩)
          refine hKq.out _ _ HH.out (fun _ => ?_)
          clear hKq Kq
          refine wpAnyH_done (by kernel_rfl) ?_ _
          clear HH kP kQ
          go_wp2_with fail
          go_meet
          exact ⟨X, _, _, _, _, _, rfl, kX9, r9, ⟨by omega, by omega, by omega, by omega⟩, b9⟩
      · go_simp
        have kX := Blk.new v1 (.int .i64 0) (.slice none 0 0) 26
        have bl := below_box v1 (.cells #[.int .i64 0, .slice none 0 0] 26)
        have zx : (v1.alloc (.cells #[.int .i64 0, .slice none 0 0] 26)).heap.size = v1.heap.size + 1 := by simp
        obtain ⟨X, eX⟩ : ∃ X, X = v1.heap.size := ⟨_, rfl⟩
        rw [← eX] at kX
        generalize v1.alloc (.cells #[.int .i64 0, .slice none 0 0] 26) = v2 at *
        rw [← eX]
        have hX1 : v1.heap.size ≤ X := by omega
        have hX2 : X < v2.heap.size := by omega
        replace kP := kP.below bl (by omega)
        replace kQ := kQ.below bl (by omega)
        replace sQ := BasisI_below sQ bl (by omega)
        replace rP := rP.below bl (.inr (Nat.le_refl _))
        replace bD := bD.trans (bl.mono (by omega))
        clear bl HH eX
        have HH := Lib.hid (show v2.cell? ⟨w.heap.size, 0, none⟩ = some (.int .i64 WA) ∧ v2.cell? ⟨w.heap.size, 1, none⟩ = some (.slice adA nA capA) ∧ v2.cell? ⟨w.heap.size + 1, 0, none⟩ = some (.int .i64 WB) ∧ v2.cell? ⟨w.heap.size + 1, 1, none⟩ = some (.slice adB nB capB) from ⟨kP.c0, kP.c1, kQ.c0, kQ.c1⟩)
        refine hKq.out _ _ HH.out (fun _ => ?_)
        clear hKq Kq
        refine wpAnyH_ready (rs := [3]) (by kernel_rfl) (by simp) ?_
        refine AllReadyH.cons (o := ⟨some _, _, _, _, _, _⟩) rfl (fun Kq hKq => ?_) AllReadyH.nil
        go_simp
        refine (toBasis sQ fB).mono ?_
        rintro e v3 ⟨_, rfl, ⟨_, rfl, hwQ, _, _, _, _, rfl, rQ⟩, bl⟩
        have zv3 := bl.size
        replace kP := kP.below bl (by omega)
        replace kQ := kQ.below bl (by omega)
        replace kX := kX.below bl (by omega)
        replace rP := rP.below bl (.inr (Nat.le_refl _))
        replace bD := bD.trans (bl.mono (by omega))
        clear bl HH
        have HH := Lib.hid (show v3.cell? ⟨w.heap.size, 0, none⟩ = some (.int .i64 WA) ∧ v3.cell? ⟨w.heap.size, 1, none⟩ = some (.slice adA nA capA) ∧ v3.cell? ⟨w.heap.size + 1, 0, none⟩ = some (.int .i64 WB) ∧ v3.cell? ⟨w.heap.size + 1, 1, none⟩ = some (.slice adB nB capB) from ⟨kP.c0, kP.c1, kQ.c0, kQ.c1⟩)
        refine hKq.out _ _ HH.out (fun _ => ?_)
        clear hKq Kq
        refine wpAnyH_ready (rs := [4]) (by kernel_rfl) (by simp) ?_
        refine AllReadyH.cons (o := ⟨some _, _, _, _, _, _⟩) rfl (fun Kq hKq => ?_) AllReadyH.nil
        go_simp
        refine (HI.out _ _ _ _ (BasisO_is ⟨_, rfl, hwP, _, _, _, _, rfl, rP⟩) _ _ _ (BasisO_is ⟨_, rfl, hwQ, _, _, _, _, rfl, rQ⟩)).mono ?_
        rintro e v4 ⟨_, rfl, ⟨_, rfl, hw19, ad19, n19, cap19, us19, rfl, r19⟩, bl⟩
        have zv4 := bl.size
        replace kP := kP.below bl (by omega)
        replace kQ := kQ.below bl (by omega)
        replace kX := kX.below bl (by omega)
        replace r19 : BasisO v4 _ _ (.agg #[.int .i64 WR, .slice ad19 n19 cap19]) (WR, MR) := ⟨_, rfl, hw19, _, _, _, _, rfl, r19⟩
        replace bD := bD.trans (bl.mono (by omega))
        clear bl HH
        have HH := Lib.hid (show v4.cell? ⟨w.heap.size, 0, none⟩ = some (.int .i64 WA) ∧ v4.cell? ⟨w.heap.size, 1, none⟩ = some (.slice adA nA capA) ∧ v4.cell? ⟨w.heap.size + 1, 0, none⟩ = some (.int .i64 WB) ∧ v4.cell? ⟨w.heap.size + 1, 1, none⟩ = some (.slice adB nB capB) from ⟨kP.c0, kP.c1, kQ.c0, kQ.c1⟩)
        refine hKq.out _ _ HH.out (fun _ => ?_)
        clear hKq Kq
        refine wpAnyH_ready (rs := [6]) (by kernel_rfl) (by simp) ?_
        refine AllReadyH.cons (o := ⟨none, _, _, _, _, _⟩) rfl (fun Kq hKq => ?_) AllReadyH.nil
        have x0 := kX.c0
        have x1 := kX.c1
        have y0 := kX.f0
        have y1 := kX.f1
        have kX9 := (kX.set0 (.int .i64 WR)).set1 (.slice ad19 n19 cap19)
        have hm9 : Mv v4 ((v4.setCell ⟨X, 0, none⟩ (.int .i64 WR)).setCell ⟨X, 1, none⟩ (.slice ad19 n19 cap19)) X (X + 1) :=
          ((Mv.refl _ _ _).setCell (p := ⟨X, 0, none⟩) (Nat.le_refl _) (Nat.lt_succ_self _) _).setCell (p := ⟨X, 1, none⟩) (Nat.le_refl _) (Nat.lt_succ_self _) _
        go_simp
        generalize (v4.setCell ⟨X, 0, none⟩ (.int .i64 WR)).setCell ⟨X, 1, none⟩ (.slice ad19 n19 cap19) = W9 at *
        replace kP := kP.mv hm9 (by omega)
        replace kQ := kQ.mv hm9 (by omega)
        have r9 := BasisO_mv r19 hm9 (by omega)
        have z9 := hm9.size
        have b9 := bD.trans (hm9.below (by omega) (by omega))
        clear HH x0 x1 y0 y1 bD hm9 kX r19
        have HH := Lib.hid (show W9.cell? ⟨w.heap.size, 0, none⟩ = some (.int .i64 WA) ∧ W9.cell? ⟨w.heap.size, 1, none⟩ = some (.slice adA nA capA) ∧ W9.cell? ⟨w.heap.size + 1, 0, none⟩ = some (.int .i64 WB) ∧ W9.cell? ⟨w.heap.size + 1, 1, none⟩ = some (.slice adB nB capB) from ⟨kP.c0, kP.c1, kQ.c0, kQ.c1⟩)
        refine hKq.out _ _ HH.out (fun _ => ?_)
        clear hKq Kq
        refine wpAnyH_done (by kernel_rfl) ?_ _
        clear HH kP kQ
        go_wp2_with fail
        go_meet
        exact ⟨X, _, _, _, _, _, rfl, kX9, r9, ⟨by omega, by omega, by omega, by omega⟩, b9⟩
    · go_simp
      have kX := Blk.new d0 (.int .i64 0) (.slice none 0 0) 26
      have bl := below_box d0 (.cells #[.int .i64 0, .slice none 0 0] 26)
      have zx : (d0.alloc (.cells #[.int .i64 0, .slice none 0 0] 26)).heap.size = d0.heap.size + 1 := by simp
      obtain ⟨X, eX⟩ : ∃ X, X = d0.heap.size := ⟨_, rfl⟩
      rw [← eX] at kX
      generalize d0.alloc (.cells #[.int .i64 0, .slice none 0 0] 26) = v1 at *
      rw [← eX]
      have hX1 : d0.heap.size ≤ X := by omega
      have hX2 : X < v1.heap.size := by omega
      replace kP := kP.below bl (by omega)
      replace kQ := kQ.below bl (by omega)
      replace sP := BasisI_below sP bl (by omega)
      replace sQ := BasisI_below sQ bl (by omega)
      replace bD := bD.trans (bl.mono (by omega))
      clear bl HH eX
      have HH := Lib.hid (show v1.cell? ⟨w.heap.size, 0, none⟩ = some (.int .i64 WA) ∧ v1.cell? ⟨w.heap.size, 1, none⟩ = some (.slice adA nA capA) ∧ v1.cell? ⟨w.heap.size + 1, 0, none⟩ = some (.int .i64 WB) ∧ v1.cell? ⟨w.heap.size + 1, 1, none⟩ = some (.slice adB nB capB) from ⟨kP.c0, kP.c1, kQ.c0, kQ.c1⟩)
      refine hKq.out _ _ HH.out (fun _ => ?_)
      clear hKq Kq
      refine wpAnyH_ready (rs := [1]) (by kernel_rfl) (by simp) ?_
      refine AllReadyH.cons (o := ⟨some _, _, _, _, _, _⟩) rfl (fun Kq hKq => ?_) AllReadyH.nil
      go_simp
      refine (toBasis sP fA).mono ?_
      rintro e v2 ⟨_, rfl, ⟨_, rfl, hwP, _, _, _, _, rfl, rP⟩, bl⟩
      have zv2 := bl.size
      replace kP := kP.below bl (by omega)
      replace kQ := kQ.below bl (by omega)
      replace kX := kX.below bl (by omega)
      replace sQ := BasisI_below sQ bl (by omega)
      replace bD := bD.trans (bl.mono (by omega))
      clear bl HH
      have HH := Lib.hid (show v2.cell? ⟨w.heap.size, 0, none⟩ = some (.int .i64 WA) ∧ v2.cell? ⟨w.heap.size, 1, none⟩ = some (.slice adA nA capA) ∧ v2.cell? ⟨w.heap.size + 1, 0, none⟩ = some (.int .i64 WB) ∧ v2.cell? ⟨w.heap.size + 1, 1, none⟩ = some (.slice adB nB capB) from ⟨kP.c0, kP.c1, kQ.c0, kQ.c1⟩)
      refine hKq.out _ _ HH.out (fun _ => ?_)
      clear hKq Kq
      refine wpAnyH_ready (rs := [3]) (by kernel_rfl) (by simp) ?_
      refine AllReadyH.cons (o := ⟨some _, _, _, _, _, _⟩) rfl (fun Kq hKq => ?_) AllReadyH.nil
      go_simp
      refine (toBasis sQ fB).mono ?_
      rintro e v3 ⟨_, rfl, ⟨_, rfl, hwQ, _, _, _, _, rfl, rQ⟩, bl⟩
      have zv3 := bl.size
      replace kP := kP.below bl (by omega)
      replace kQ := kQ.below bl (by omega)
      replace kX := kX.below bl (by omega)
      replace rP := rP.below bl (.inr (Nat.le_refl _))
      replace bD := bD.trans (bl.mono (by omega))
      clear bl HH
      have HH := Lib.hid (show v3.cell? ⟨w.heap.size, 0, none⟩ = some (.int .i64 WA) ∧ v3.cell? ⟨w.heap.size, 1, none⟩ = some (.slice adA nA capA) ∧ v3.cell? ⟨w.heap.size + 1, 0, none⟩ = some (.int .i64 WB) ∧ v3.cell? ⟨w.heap.size + 1, 1, none⟩ = some (.slice adB nB capB) from ⟨kP.c0, kP.c1, kQ.c0, kQ.c1⟩)
      refine hKq.out _ _ HH.out (fun _ => ?_)
      clear hKq Kq
      refine wpAnyH_ready (rs := [4]) (by kernel_rfl) (by simp) ?_
      refine AllReadyH.cons (o := ⟨some _, _, _, _, _, _⟩) rfl (fun Kq hKq => ?_) AllReadyH.nil
      go_simp
      refine (HI.out _ _ _ _ (BasisO_is ⟨_, rfl, hwP, _, _, _, _, rfl, rP⟩) _ _ _ (BasisO_is ⟨_, rfl, hwQ, _, _, _, _, rfl, rQ⟩)).mono ?_
      rintro e v4 ⟨_, rfl, ⟨_, rfl, hw19, ad19, n19, cap19, us19, rfl, r19⟩, bl⟩
      have zv4 := bl.size
      replace kP := kP.below bl (by omega)
      replace kQ := kQ.below bl (by omega)
      replace kX := kX.below bl (by omega)
      replace r19 : BasisO v4 _ _ (.agg #[.int .i64 WR, .slice ad19 n19 cap19]) (WR, MR) := ⟨_, rfl, hw19, _, _, _, _, rfl, r19⟩
      replace bD := bD.trans (bl.mono (by omega))
      clear bl HH
      have HH := Lib.hid (show v4.cell? ⟨w.heap.size, 0, none⟩ = some (.int .i64 WA) ∧ v4.cell? ⟨w.heap.size, 1, none⟩ = some (.slice adA nA capA) ∧ v4.cell? ⟨w.heap.size + 1, 0, none⟩ = some (.int .i64 WB) ∧ v4.cell? ⟨w.heap.size + 1, 1, none⟩ = some (.slice adB nB capB) from ⟨kP.c0, kP.c1, kQ.c0, kQ.c1⟩)
      refine hKq.out _ _ HH.out (fun _ => ?_)
      clear hKq Kq
      refine wpAnyH_ready (rs := [6]) (by kernel_rfl) (by simp) ?_
      refine AllReadyH.cons (o := ⟨none, _, _, _, _, _⟩) rfl (fun Kq hKq => ?_) AllReadyH.nil
      have x0 := kX.c0
      have x1 := kX.c1
      have y0 := kX.f0
      have y1 := kX.f1
      have kX9 := (kX.set0 (.int .i64 WR)).set1 (.slice ad19 n19 cap19)
      have hm9 : Mv v4 ((v4.setCell ⟨X, 0, none⟩ (.int .i64 WR)).setCell ⟨X, 1, none⟩ (.slice ad19 n19 cap19)) X (X + 1) :=
        ((Mv.refl _ _ _).setCell (p := ⟨X, 0, none⟩) (Nat.le_refl _) (Nat.lt_succ_self _) _).setCell (p := ⟨X, 1, none⟩) (Nat.le_refl _) (Nat.lt_succ_self _) _
      go_simp
      generalize (v4.setCell ⟨X, 0, none⟩ (.int .i64 WR)).setCell ⟨X, 1, none⟩ (.slice ad19 n19 cap19) = W9 at *
      replace kP := kP.mv hm9 (by omega)
      replace kQ := kQ.mv hm9 (by omega)
      have r9 := BasisO_mv r19 hm9 (by omega)
      have z9 := hm9.size
      have b9 := bD.trans (hm9.below (by omega) (by omega))
      clear HH x0 x1 y0 y1 bD hm9 kX r19
      have HH := Lib.hid (show W9.cell? ⟨w.heap.size, 0, none⟩ = some (.int .i64 WA) ∧ W9.cell? ⟨w.heap.size, 1, none⟩ = some (.slice adA nA capA) ∧ W9.cell? ⟨w.heap.size + 1, 0, none⟩ = some (.int .i64 WB) ∧ W9.cell? ⟨w.heap.size + 1, 1, none⟩ = some (.slice adB nB capB) from ⟨kP.c0, kP.c1, kQ.c0, kQ.c1⟩)
      refine hKq.out _ _ HH.out (fun _ => ?_)
      clear hKq Kq
      refine wpAnyH_done (by kernel_rfl) ?_ _
      clear HH kP kQ
      go_wp2_with fail
      go_meet
      exact ⟨X, _, _, _, _, _, rfl, kX9, r9, ⟨by omega, by omega, by omega, by omega⟩, b9⟩
  case rest =>
  obtain ⟨X19, lo19, hi19, ad19, n19, cap19, rfl, kX19, r19, zX19, bl⟩ := hcut
  have z19 := bl.size
  obtain ⟨zX19a, zX19b, zX19c, zX19d⟩ := zX19
  replace r3 := BasisI_below r3 bl (.inr (Nat.le_refl _))
  replace r6m := BasisO_below r6m bl (.inr (Nat.le_refl _))
  replace kA := kA.below bl (by omega)
  clear cA0 cA1
  have cA0 := kA.c0
  have cA1 := kA.c1
  replace kB := kB.below bl (by omega)
  clear cB0 cB1
  have cB0 := kB.c0
  have cB1 := kB.c1
  replace kw0 := kw0.below bl (by omega)
  clear cw00 cw01
  have cw00 := kw0.c0
  have cw01 := kw0.c1
  replace kx0 := kx0.below bl (by omega)
  clear cx00 cx01
  have cx00 := kx0.c0
  have cx01 := kx0.c1
  replace kx1 := kx1.below bl (by omega)
  clear cx10 cx11
  have cx10 := kx1.c0
  have cx11 := kx1.c1
  replace kg0 := kg0.below bl (by omega)
  clear cg00 cg01
  have cg00 := kg0.c0
  have cg01 := kg0.c1
  replace frm := frm.trans (bl.mono (by omega))
  clear bl
  have kh0 := kX19
  clear kX19
  have ch00 := kh0.c0
  have ch01 := kh0.c1
  have hX19a := kh0.lt
  generalize wc = w19 at *
  go_wp2_with fail
  go_at_call 18
  refine (eqBasis (BasisO_is r19) r3 hfit rfl).mono ?_
  rintro e w20 ⟨rfl, bl⟩
  have z20 := bl.size
  replace r6m := BasisO_below r6m bl (by omega)
  replace kA := kA.below bl (by omega)
  clear cA0 cA1
  have cA0 := kA.c0
  have cA1 := kA.c1
  replace kB := kB.below bl (by omega)
  clear cB0 cB1
  have cB0 := kB.c0
  have cB1 := kB.c1
  replace kw0 := kw0.below bl (by omega)
  clear cw00 cw01
  have cw00 := kw0.c0
  have cw01 := kw0.c1
  replace kx0 := kx0.below bl (by omega)
  clear cx00 cx01
  have cx00 := kx0.c0
  have cx01 := kx0.c1
  replace kx1 := kx1.below bl (by omega)
  clear cx10 cx11
  have cx10 := kx1.c0
  have cx11 := kx1.c1
  replace kg0 := kg0.below bl (by omega)
  clear cg00 cg01
  have cg00 := kg0.c0
  have cg01 := kg0.c1
  replace kh0 := kh0.below bl (by omega)
  clear ch00 ch01
  have ch00 := kh0.c0
  have ch01 := kh0.c1
  replace frm := frm.trans (bl.mono (by omega))
  clear bl
  clear r19
  go_wp2_with fail
  go_at_call 20
  refine (heldBasis (1) (BasisO_is r6m) hfit (by omega) (by omega)).mono ?_
  rintro e w21 ⟨rfl, bl⟩
  have z21 := bl.size
  replace kA := kA.below bl (by omega)
  clear cA0 cA1
  have cA0 := kA.c0
  have cA1 := kA.c1
  replace kB := kB.below bl (by omega)
  clear cB0 cB1
  have cB0 := kB.c0
  have cB1 := kB.c1
  replace kw0 := kw0.below bl (by omega)
  clear cw00 cw01
  have cw00 := kw0.c0
  have cw01 := kw0.c1
  replace kx0 := kx0.below bl (by omega)
  clear cx00 cx01
  have cx00 := kx0.c0
  have cx01 := kx0.c1
  replace kx1 := kx1.below bl (by omega)
  clear cx10 cx11
  have cx10 := kx1.c0
  have cx11 := kx1.c1
  replace kg0 := kg0.below bl (by omega)
  clear cg00 cg01
  have cg00 := kg0.c0
  have cg01 := kg0.c1
  replace kh0 := kh0.below bl (by omega)
  clear ch00 ch01
  have ch00 := kh0.c0
  have ch01 := kh0.c1
  replace frm := frm.trans (bl.mono (by omega))
  clear bl
  clear r6m
  go_wp2
  go_ret
  exact ⟨rfl, frm⟩



end Go.Proofs.YtefcfeikooknmaaGreat.LawSubEx
