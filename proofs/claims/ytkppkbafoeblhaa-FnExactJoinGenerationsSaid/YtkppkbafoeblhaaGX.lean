/-
  Exact laws walked, over the contracts of what they call.
-/
import Derived.Test.YtkppkbafoeblhaaGM
import Derived.Test.YtkppkbafoeblhaaGF
import Derived.Test.YtkppkbafoeblhaaGN
import Derived.Test.YtkppkbafoeblhaaGA
import Derived.Deep.DeepCutAuto
namespace Go.Proofs.Ytkppkbafoeblhaa.LawGenEx
open Go.ChangeShapes Go.WideShapes Go.ChangeAt Go.RowKit
open Go.Proofs.Ytkppkbafoeblhaa.Drawn Go.Proofs.Ytkppkbafoeblhaa.Seq Go.Proofs.Ytkppkbafoeblhaa.Help Go.Proofs.Ytkppkbafoeblhaa.Shape

set_option maxRecDepth 100000 in
set_option maxHeartbeats 1600000 in
theorem exactIsValidGeneration (w : World) (vG : Value) (iaG : ∃ x, GenerationI w 0 w.heap.size vG x) :
    Calls Try.prog 5 #[vG] w fun e w' => e = .returned (.bool true) ∧ Below w.heap.size w w' := by
  obtain ⟨⟨WG, MG⟩, _, rfl, hwG, adG, nG, capG, rfl, sG⟩ := iaG
  replace sG : GenerationI w 0 w.heap.size (.agg #[.int .i64 WG, .slice adG nG capG]) (WG, MG) := ⟨_, rfl, hwG, _, _, _, rfl, sG⟩
  have frm := Below.refl w.heap.size w
  have kG := Blk.new w (.int .i64 WG) (.slice adG nG capG) 44
  replace frm := frm.alloc (by first | exact Nat.le_refl _ | (simp; done) | (simp; omega)) (.cells #[.int .i64 WG, .slice adG nG capG] 44)
  replace sG := GenerationI_below sG frm (.inr (Nat.le_refl _))
  have cG0 := kG.c0
  have cG1 := kG.c1
  have zw : (w.alloc (.cells #[.int .i64 WG, .slice adG nG capG] 44)).heap.size = w.heap.size + 1 := by simp
  go_enter Try.func5, Try.ntmps5
  go_wp2_with fail
  go_at_call 29
  generalize w.alloc (.cells #[.int .i64 WG, .slice adG nG capG] 44) = y0 at *
  refine (szGeneration sG 1048576 (by omega) (by omega)).mono ?_
  rintro e wsG ⟨leftG, rfl, leG, riG, fG, bl⟩
  have zsG := bl.size
  replace sG := GenerationI_below sG bl (by omega)
  replace kG := kG.below bl (by omega)
  clear cG0 cG1
  have cG0 := kG.c0
  have cG1 := kG.c1
  replace frm := frm.trans (bl.mono (by omega))
  clear bl
  by_cases hlG : 0 ≤ leftG
  case neg =>
    clear fG
    go_wp2
    go_ret
    exact ⟨rfl, frm⟩
  replace fG := fG hlG
  have cS := fun (w' : World) (lG hG : Nat) (uG : Value) (sG : GenerationI w' lG hG uG (WG, MG)) => GenW.isGenS w' sG fG
  have cI := fun (w' : World) (lG hG : Nat) (uG : Value) (sG : GenerationI w' lG hG uG (WG, MG)) => GenI.isGen w' sG fG
  try dsimp only at cS cI
  generalize hR : (Gen.isGen (WG, MG)) = R at cS cI
  clear hR
  have HS := Lib.hid cS
  have HI := Lib.hid cI
  clear cS cI
  have hkG := GenerationC_le fG
  go_wp2_with fail
  go_at_call 31
  refine (toGeneration sG fG).mono ?_
  rintro e w1 ⟨u1, rfl, r1, bl⟩
  have z1 := bl.size
  replace sG := GenerationI_below sG bl (by omega)
  replace kG := kG.below bl (by omega)
  clear cG0 cG1
  have cG0 := kG.c0
  have cG1 := kG.c1
  replace frm := frm.trans (bl.mono (by omega))
  clear bl
  obtain ⟨_, rfl, hw1, ad1, n1, cap1, us1, rfl, r1⟩ := r1
  replace r1 : GenerationO w1 _ _ (.agg #[.int .i64 WG, .slice ad1 n1 cap1]) (WG, MG) := ⟨_, rfl, hw1, _, _, _, _, rfl, r1⟩
  go_wp2_with fail
  go_at_call 30
  refine (HS.out _ _ _ _ (GenerationO_is r1)).mono ?_
  rintro e w2 ⟨rfl, bl⟩
  have z2 := bl.size
  replace sG := GenerationI_below sG bl (by omega)
  replace kG := kG.below bl (by omega)
  clear cG0 cG1
  have cG0 := kG.c0
  have cG1 := kG.c1
  replace frm := frm.trans (bl.mono (by omega))
  clear bl
  clear r1
  go_wp2_with fail
  go_at_call 31
  refine (toGeneration sG fG).mono ?_
  rintro e w3 ⟨u3, rfl, r3, bl⟩
  have z3 := bl.size
  replace sG := GenerationI_below sG bl (by omega)
  replace kG := kG.below bl (by omega)
  clear cG0 cG1
  have cG0 := kG.c0
  have cG1 := kG.c1
  replace frm := frm.trans (bl.mono (by omega))
  clear bl
  obtain ⟨_, rfl, hw3, ad3, n3, cap3, us3, rfl, r3⟩ := r3
  replace r3 : GenerationO w3 _ _ (.agg #[.int .i64 WG, .slice ad3 n3 cap3]) (WG, MG) := ⟨_, rfl, hw3, _, _, _, _, rfl, r3⟩
  have kx0 := Blk.new w3 (.int .i64 WG) (.slice ad3 n3 cap3) 34
  have hb := below_box w3 (.cells #[.int .i64 WG, .slice ad3 n3 cap3] 34)
  have zb3 : (w3.alloc (.cells #[.int .i64 WG, .slice ad3 n3 cap3] 34)).heap.size = w3.heap.size + 1 := by simp
  replace sG := GenerationI_below sG hb (.inr (Nat.le_refl _))
  replace r3 := GenerationO_below r3 hb (.inr (Nat.le_refl _))
  replace kG := kG.alloc (.cells #[.int .i64 WG, .slice ad3 n3 cap3] 34)
  clear cG0 cG1
  have cG0 := kG.c0
  have cG1 := kG.c1
  replace frm := frm.trans (hb.mono (by omega))
  clear hb
  have cx00 := kx0.c0
  have cx01 := kx0.c1
  go_wp2_with fail
  go_at_call 19
  generalize w3.alloc (.cells #[.int .i64 WG, .slice ad3 n3 cap3] 34) = y1 at *
  refine (HI.out _ _ _ _ (GenerationO_is r3)).mono ?_
  rintro e w4 ⟨rfl, bl⟩
  have z4 := bl.size
  replace sG := GenerationI_below sG bl (by omega)
  replace r3 := GenerationO_below r3 bl (by omega)
  replace kG := kG.below bl (by omega)
  clear cG0 cG1
  have cG0 := kG.c0
  have cG1 := kG.c1
  replace kx0 := kx0.below bl (by omega)
  clear cx00 cx01
  have cx00 := kx0.c0
  have cx01 := kx0.c1
  replace frm := frm.trans (bl.mono (by omega))
  clear bl
  go_wp2
  replace sG := GenerationI_mv sG (Mv.drew (Mv.refl w4 0 0)) (.inr (Nat.zero_le _))
  replace r3 := GenerationO_mv r3 (Mv.drew (Mv.refl w4 0 0)) (.inr (Nat.zero_le _))
  replace kG : Blk w4.drew (w.heap.size) _ (.int .i64 WG) (.slice adG nG capG) := ⟨kG.obj⟩
  clear cG0 cG1
  have cG0 := kG.c0
  have cG1 := kG.c1
  replace kx0 : Blk w4.drew (w3.heap.size) _ (.int .i64 WG) (.slice ad3 n3 cap3) := ⟨kx0.obj⟩
  clear cx00 cx01
  have cx00 := kx0.c0
  have cx01 := kx0.c1
  replace frm := frm.drew
  have zd : w4.heap.size = w4.drew.heap.size := rfl
  refine wp_region_held (S := fun w' => w'.cell? ⟨w.heap.size, 0, none⟩ = some (.int .i64 WG) ∧ w'.cell? ⟨w.heap.size, 1, none⟩ = some (.slice adG nG capG) ∧ w'.cell? ⟨w3.heap.size, 0, none⟩ = some (.int .i64 WG) ∧ w'.cell? ⟨w3.heap.size, 1, none⟩ = some (.slice ad3 n3 cap3)) (by kernel_rfl) ?_
  change wpAnyH _ _ _ _ _ _ _ _ w4.drew
  generalize w4.drew = d0 at *
  have HH := Lib.hid (show d0.cell? ⟨w.heap.size, 0, none⟩ = some (.int .i64 WG) ∧ d0.cell? ⟨w.heap.size, 1, none⟩ = some (.slice adG nG capG) ∧ d0.cell? ⟨w3.heap.size, 0, none⟩ = some (.int .i64 WG) ∧ d0.cell? ⟨w3.heap.size, 1, none⟩ = some (.slice ad3 n3 cap3) from ⟨cG0, cG1, cx00, cx01⟩)
  refine wpAnyH_take (i := 0) (oi := ⟨some _, _, _, _, _, _⟩) (v := ?_) rfl (by kernel_rfl) (by kernel_rfl) (by kernel_rfl) (fun _ _ _ h => h) (Or.inl ⟨by rfl, ?_⟩) HH.out ?_
  rotate_left
  · intro wS hSw
    try dsimp only at hSw
    go_simp
    all_goals (with_reducible rfl)
  simp only [Act.put, List.setIfInBounds_toArray, List.set_cons_zero, List.set_cons_succ]
  refine wpAnyH_take (i := 1) (oi := ⟨some _, _, _, _, _, _⟩) (v := ?_) rfl (by kernel_rfl) (by kernel_rfl) (by kernel_rfl) (fun _ _ _ h => h) (Or.inl ⟨by rfl, ?_⟩) HH.out ?_
  rotate_left
  · intro wS hSw
    try dsimp only at hSw
    go_simp
    all_goals (with_reducible rfl)
  simp only [Act.put, List.setIfInBounds_toArray, List.set_cons_zero, List.set_cons_succ]
  clear HH
  refine wpAnyH_ready (rs := [2]) (by kernel_rfl) (by simp) ?_
  refine AllReadyH.cons (o := ⟨some _, _, _, _, _, _⟩) rfl (fun Kq hKq => ?_) AllReadyH.nil
  go_simp
  refine (toGeneration sG fG).mono ?_
  rintro e w5 ⟨u5, rfl, r5, bl⟩
  have z5 := bl.size
  replace r3 := GenerationO_below r3 bl (by omega)
  replace kG := kG.below bl (by omega)
  clear cG0 cG1
  have cG0 := kG.c0
  have cG1 := kG.c1
  replace kx0 := kx0.below bl (by omega)
  clear cx00 cx01
  have cx00 := kx0.c0
  have cx01 := kx0.c1
  replace frm := frm.trans (bl.mono (by omega))
  clear bl
  obtain ⟨_, rfl, hw5, ad5, n5, cap5, us5, rfl, r5⟩ := r5
  replace r5 : GenerationO w5 _ _ (.agg #[.int .i64 WG, .slice ad5 n5 cap5]) (WG, MG) := ⟨_, rfl, hw5, _, _, _, _, rfl, r5⟩
  have HH := Lib.hid (show w5.cell? ⟨w.heap.size, 0, none⟩ = some (.int .i64 WG) ∧ w5.cell? ⟨w.heap.size, 1, none⟩ = some (.slice adG nG capG) ∧ w5.cell? ⟨w3.heap.size, 0, none⟩ = some (.int .i64 WG) ∧ w5.cell? ⟨w3.heap.size, 1, none⟩ = some (.slice ad3 n3 cap3) from ⟨cG0, cG1, cx00, cx01⟩)
  refine hKq.out _ _ HH.out (fun _ => ?_)
  clear hKq Kq
  clear HH
  refine wpAnyH_ready (rs := [3]) (by kernel_rfl) (by simp) ?_
  refine AllReadyH.cons (o := ⟨some _, _, _, _, _, _⟩) rfl (fun Kq hKq => ?_) AllReadyH.nil
  go_simp
  refine (eqGeneration (GenerationO_is r3) (GenerationO_is r5) fG rfl).mono ?_
  rintro e w6 ⟨rfl, bl⟩
  have z6 := bl.size
  replace kG := kG.below bl (by omega)
  clear cG0 cG1
  have cG0 := kG.c0
  have cG1 := kG.c1
  replace kx0 := kx0.below bl (by omega)
  clear cx00 cx01
  have cx00 := kx0.c0
  have cx01 := kx0.c1
  replace frm := frm.trans (bl.mono (by omega))
  clear bl
  have HH := Lib.hid (show w6.cell? ⟨w.heap.size, 0, none⟩ = some (.int .i64 WG) ∧ w6.cell? ⟨w.heap.size, 1, none⟩ = some (.slice adG nG capG) ∧ w6.cell? ⟨w3.heap.size, 0, none⟩ = some (.int .i64 WG) ∧ w6.cell? ⟨w3.heap.size, 1, none⟩ = some (.slice ad3 n3 cap3) from ⟨cG0, cG1, cx00, cx01⟩)
  refine hKq.out _ _ HH.out (fun _ => ?_)
  clear hKq Kq
  try simp only [Act.put, List.setIfInBounds_toArray, List.set_cons_zero, List.set_cons_succ]
  refine wpAnyH_take (i := 4) (oi := ⟨some _, _, _, _, _, _⟩) (v := ?_) rfl (by kernel_rfl) (by kernel_rfl) (by kernel_rfl) (fun _ _ _ h => h) (Or.inl ⟨by rfl, ?_⟩) HH.out ?_
  rotate_left
  · intro wS hSw
    try dsimp only at hSw
    go_simp
    all_goals (with_reducible rfl)
  simp only [Act.put, List.setIfInBounds_toArray, List.set_cons_zero, List.set_cons_succ]
  refine wpAnyH_done (by kernel_rfl) ?_ _
  clear HH
  clear r3
  clear r5
  go_wp2
  go_ret
  exact ⟨rfl, frm⟩

set_option maxRecDepth 100000 in
set_option maxHeartbeats 1600000 in
theorem exactBytesToSymbols (w : World) (vData : Value) (iaData : ∃ x, ByteSI w 0 w.heap.size vData x) (aWidth : Int) (wfWidth : (Lit.int .i64 aWidth).wf = true) :
    Calls Try.prog 6 #[vData, .int .i64 aWidth] w fun e w' => e = .returned (.bool true) ∧ Below w.heap.size w w' := by
  obtain ⟨xData, adData, nData, capData, rfl, sData⟩ := iaData
  obtain ⟨loWidth, hiWidth⟩ := fits_i64.1 wfWidth
  clear wfWidth
  have frm := Below.refl w.heap.size w
  rcases Nat.lt_or_ge 1048576 nData with bigData | bigData
  · have hbData := sData.big
    have hcData := sData.le
    unfold maxLen at hbData
    go_enter Try.func6, Try.ntmps6
    go_wp2
    go_ret
    exact ⟨rfl, frm⟩
  have fData : ByteSF xData := by have := sData.len; show xData.length ≤ 1048576; omega
  have hbData := sData.big
  have hcData := sData.le
  unfold maxLen at hbData
  replace sData : ByteSI _ 0 w.heap.size (.slice adData nData capData) xData := ⟨_, _, _, rfl, sData⟩
  have cS := fun (w' : World) (lData hData : Nat) (uData : Value) (sData : ByteSI w' lData hData uData xData) => GenW.toSymS w' sData fData aWidth loWidth hiWidth
  have cI := fun (w' : World) (lData hData : Nat) (uData : Value) (sData : ByteSI w' lData hData uData xData) => GenI.toSym w' sData fData aWidth loWidth hiWidth
  try dsimp only at cS cI
  have hfit : IntSSF ((Gen.toSym xData aWidth)) := by exact GenW.fit_sym _ _
  generalize hR : (Gen.toSym xData aWidth) = R at cS cI hfit
  clear hR
  have HS := Lib.hid cS
  have HI := Lib.hid cI
  clear cS cI
  have hcnt := IntSSC_le hfit
  have hkData := ByteSC_le fData
  go_enter Try.func6, Try.ntmps6
  go_wp2_with fail
  go_at_call 34
  refine (toByteS sData fData).mono ?_
  rintro e w1 ⟨u1, rfl, r1, bl⟩
  have z1 := bl.size
  replace sData := ByteSI_below sData bl (by omega)
  replace frm := frm.trans (bl.mono (by omega))
  clear bl
  go_wp2_with fail
  go_at_call 33
  refine (HS.out _ _ _ _ (ByteSO_is r1)).mono ?_
  rintro e w2 ⟨u2, rfl, r2, bl⟩
  have z2 := bl.size
  replace sData := ByteSI_below sData bl (by omega)
  replace frm := frm.trans (bl.mono (by omega))
  clear bl
  clear r1
  go_wp2_with fail
  go_at_call 34
  refine (toByteS sData fData).mono ?_
  rintro e w3 ⟨u3, rfl, r3, bl⟩
  have z3 := bl.size
  replace sData := ByteSI_below sData bl (by omega)
  replace r2 := IntSSO_below r2 bl (by omega)
  replace frm := frm.trans (bl.mono (by omega))
  clear bl
  go_wp2_with fail
  go_at_call 23
  refine (HI.out _ _ _ _ (ByteSO_is r3)).mono ?_
  rintro e w4 ⟨u4, rfl, r4, bl⟩
  have z4 := bl.size
  replace sData := ByteSI_below sData bl (by omega)
  replace r2 := IntSSO_below r2 bl (by omega)
  replace r3 := ByteSO_below r3 bl (by omega)
  replace frm := frm.trans (bl.mono (by omega))
  clear bl
  go_wp2_with fail
  go_at_call 35
  refine (eqIntSS (IntSSO_is r4) (IntSSO_is r2) hfit rfl).mono ?_
  rintro e w5 ⟨rfl, bl⟩
  have z5 := bl.size
  replace sData := ByteSI_below sData bl (by omega)
  replace r2 := IntSSO_below r2 bl (by omega)
  replace r3 := ByteSO_below r3 bl (by omega)
  replace r4 := IntSSO_below r4 bl (by omega)
  replace frm := frm.trans (bl.mono (by omega))
  clear bl
  go_wp2_with fail
  go_at_call 34
  refine (toByteS sData fData).mono ?_
  rintro e w6 ⟨u6, rfl, r6, bl⟩
  have z6 := bl.size
  replace sData := ByteSI_below sData bl (by omega)
  replace r2 := IntSSO_below r2 bl (by omega)
  replace r3 := ByteSO_below r3 bl (by omega)
  replace r4 := IntSSO_below r4 bl (by omega)
  replace frm := frm.trans (bl.mono (by omega))
  clear bl
  go_wp2_with fail
  go_at_call 36
  refine (eqByteS (ByteSO_is r3) (ByteSO_is r6) fData rfl).mono ?_
  rintro e w7 ⟨rfl, bl⟩
  have z7 := bl.size
  replace sData := ByteSI_below sData bl (by omega)
  replace r2 := IntSSO_below r2 bl (by omega)
  replace r3 := ByteSO_below r3 bl (by omega)
  replace r4 := IntSSO_below r4 bl (by omega)
  replace frm := frm.trans (bl.mono (by omega))
  clear bl
  clear r6
  go_wp2_with fail
  go_at_call 37
  refine (markByteS r3 fData (1) (by omega) (by omega)).mono ?_
  rintro e w8 ⟨rfl, new, mv⟩
  have z8 := mv.size
  replace sData := ByteSI_mv sData mv (by omega)
  replace r2 := IntSSO_mv r2 mv (by omega)
  replace r4 := IntSSO_mv r4 mv (by omega)
  replace frm := frm.trans (mv.below (by omega) (by omega))
  clear new mv
  clear r3
  go_wp2_with fail
  go_at_call 35
  refine (eqIntSS (IntSSO_is r4) (IntSSO_is r2) hfit rfl).mono ?_
  rintro e w9 ⟨rfl, bl⟩
  have z9 := bl.size
  replace sData := ByteSI_below sData bl (by omega)
  replace r2 := IntSSO_below r2 bl (by omega)
  replace r4 := IntSSO_below r4 bl (by omega)
  replace frm := frm.trans (bl.mono (by omega))
  clear bl
  go_wp2_with fail
  go_at_call 38
  refine (markIntSS r4 hfit (1) (by omega) (by omega)).mono ?_
  rintro e w10 ⟨rfl, new, mv⟩
  have z10 := mv.size
  replace sData := ByteSI_mv sData mv (by omega)
  replace r2 := IntSSO_mv r2 mv (by omega)
  replace frm := frm.trans (mv.below (by omega) (by omega))
  have r4m := new
  clear new mv
  go_wp2_with fail
  go_at_call 39
  refine (heldIntSS (1) (IntSSO_is r4m) hfit (by omega) (by omega)).mono ?_
  rintro e w11 ⟨rfl, bl⟩
  have z11 := bl.size
  replace sData := ByteSI_below sData bl (by omega)
  replace r2 := IntSSO_below r2 bl (by omega)
  replace r4m := IntSSO_below r4m bl (by omega)
  replace frm := frm.trans (bl.mono (by omega))
  clear bl
  go_wp2_with fail
  go_at_call 34
  refine (toByteS sData fData).mono ?_
  rintro e w12 ⟨u12, rfl, r12, bl⟩
  have z12 := bl.size
  replace r2 := IntSSO_below r2 bl (by omega)
  replace r4m := IntSSO_below r4m bl (by omega)
  replace frm := frm.trans (bl.mono (by omega))
  clear bl
  go_wp2_with fail
  go_at_call 23
  refine (HI.out _ _ _ _ (ByteSO_is r12)).mono ?_
  rintro e w13 ⟨u13, rfl, r13, bl⟩
  have z13 := bl.size
  replace r2 := IntSSO_below r2 bl (by omega)
  replace r4m := IntSSO_below r4m bl (by omega)
  replace frm := frm.trans (bl.mono (by omega))
  clear bl
  clear r12
  go_wp2_with fail
  go_at_call 35
  refine (eqIntSS (IntSSO_is r13) (IntSSO_is r2) hfit rfl).mono ?_
  rintro e w14 ⟨rfl, bl⟩
  have z14 := bl.size
  replace r4m := IntSSO_below r4m bl (by omega)
  replace frm := frm.trans (bl.mono (by omega))
  clear bl
  clear r2
  clear r13
  go_wp2_with fail
  go_at_call 39
  refine (heldIntSS (1) (IntSSO_is r4m) hfit (by omega) (by omega)).mono ?_
  rintro e w15 ⟨rfl, bl⟩
  have z15 := bl.size
  replace frm := frm.trans (bl.mono (by omega))
  clear bl
  clear r4m
  go_wp2
  go_ret
  exact ⟨rfl, frm⟩

set_option maxRecDepth 100000 in
set_option maxHeartbeats 1600000 in
theorem exactSymbolsToBytes (w : World) (vSymbols : Value) (iaSymbols : ∃ x, IntSSI w 0 w.heap.size vSymbols x) :
    Calls Try.prog 7 #[vSymbols] w fun e w' => e = .returned (.bool true) ∧ Below w.heap.size w w' := by
  obtain ⟨xSymbols, sSymbols⟩ := iaSymbols
  have frm := Below.refl w.heap.size w
  go_enter Try.func7, Try.ntmps7
  go_wp2_with fail
  go_at_call 40
  refine (szIntSS sSymbols 1048576 (by omega) (by omega)).mono ?_
  rintro e wsSymbols ⟨leftSymbols, rfl, leSymbols, riSymbols, fSymbols, bl⟩
  have zsSymbols := bl.size
  replace sSymbols := IntSSI_below sSymbols bl (by omega)
  replace frm := frm.trans (bl.mono (by omega))
  clear bl
  by_cases hlSymbols : 0 ≤ leftSymbols
  case neg =>
    clear fSymbols
    go_wp2
    go_ret
    exact ⟨rfl, frm⟩
  replace fSymbols := fSymbols hlSymbols
  have cS := fun (w' : World) (lSymbols hSymbols : Nat) (uSymbols : Value) (sSymbols : IntSSI w' lSymbols hSymbols uSymbols xSymbols) => GenW.toDataS w' sSymbols fSymbols
  have cI := fun (w' : World) (lSymbols hSymbols : Nat) (uSymbols : Value) (sSymbols : IntSSI w' lSymbols hSymbols uSymbols xSymbols) => GenI.toData w' sSymbols fSymbols
  try dsimp only at cS cI
  have hfit : ByteSF ((Gen.toData xSymbols)).1 := by exact GenW.fit_data _
  generalize hR : (Gen.toData xSymbols) = R at cS cI hfit
  clear hR
  obtain ⟨R0, R1⟩ := R
  try dsimp only at cS cI hfit
  have HS := Lib.hid cS
  have HI := Lib.hid cI
  clear cS cI
  have hcnt := ByteSC_le hfit
  have hkSymbols := IntSSC_le fSymbols
  go_wp2_with fail
  go_at_call 41
  refine (toIntSS sSymbols fSymbols).mono ?_
  rintro e w1 ⟨u1, rfl, r1, bl⟩
  have z1 := bl.size
  replace sSymbols := IntSSI_below sSymbols bl (by omega)
  replace frm := frm.trans (bl.mono (by omega))
  clear bl
  go_wp2_with fail
  go_at_call 26
  refine (HS.out _ _ _ _ (IntSSO_is r1)).mono ?_
  rintro e w2 ⟨u2, rfl, r2, bl⟩
  have z2 := bl.size
  replace sSymbols := IntSSI_below sSymbols bl (by omega)
  replace frm := frm.trans (bl.mono (by omega))
  clear bl
  clear r1
  go_wp2_with fail
  go_at_call 41
  refine (toIntSS sSymbols fSymbols).mono ?_
  rintro e w3 ⟨u3, rfl, r3, bl⟩
  have z3 := bl.size
  replace sSymbols := IntSSI_below sSymbols bl (by omega)
  replace r2 := ByteSO_below r2 bl (by omega)
  replace frm := frm.trans (bl.mono (by omega))
  clear bl
  go_wp2_with fail
  go_at_call 25
  refine (HI.out _ _ _ _ (IntSSO_is r3)).mono ?_
  rintro e w4 ⟨u4, rfl, r4, bl⟩
  have z4 := bl.size
  replace sSymbols := IntSSI_below sSymbols bl (by omega)
  replace r2 := ByteSO_below r2 bl (by omega)
  replace r3 := IntSSO_below r3 bl (by omega)
  replace frm := frm.trans (bl.mono (by omega))
  clear bl
  go_wp2_with fail
  go_at_call 36
  refine (eqByteS (ByteSO_is r4) (ByteSO_is r2) hfit rfl).mono ?_
  rintro e w5 ⟨rfl, bl⟩
  have z5 := bl.size
  replace sSymbols := IntSSI_below sSymbols bl (by omega)
  replace r2 := ByteSO_below r2 bl (by omega)
  replace r3 := IntSSO_below r3 bl (by omega)
  replace r4 := ByteSO_below r4 bl (by omega)
  replace frm := frm.trans (bl.mono (by omega))
  clear bl
  go_wp2_with fail
  go_at_call 41
  refine (toIntSS sSymbols fSymbols).mono ?_
  rintro e w6 ⟨u6, rfl, r6, bl⟩
  have z6 := bl.size
  replace sSymbols := IntSSI_below sSymbols bl (by omega)
  replace r2 := ByteSO_below r2 bl (by omega)
  replace r3 := IntSSO_below r3 bl (by omega)
  replace r4 := ByteSO_below r4 bl (by omega)
  replace frm := frm.trans (bl.mono (by omega))
  clear bl
  go_wp2_with fail
  go_at_call 35
  refine (eqIntSS (IntSSO_is r3) (IntSSO_is r6) fSymbols rfl).mono ?_
  rintro e w7 ⟨rfl, bl⟩
  have z7 := bl.size
  replace sSymbols := IntSSI_below sSymbols bl (by omega)
  replace r2 := ByteSO_below r2 bl (by omega)
  replace r3 := IntSSO_below r3 bl (by omega)
  replace r4 := ByteSO_below r4 bl (by omega)
  replace frm := frm.trans (bl.mono (by omega))
  clear bl
  clear r6
  go_wp2_with fail
  go_at_call 38
  refine (markIntSS r3 fSymbols (1) (by omega) (by omega)).mono ?_
  rintro e w8 ⟨rfl, new, mv⟩
  have z8 := mv.size
  replace sSymbols := IntSSI_mv sSymbols mv (by omega)
  replace r2 := ByteSO_mv r2 mv (by omega)
  replace r4 := ByteSO_mv r4 mv (by omega)
  replace frm := frm.trans (mv.below (by omega) (by omega))
  clear new mv
  clear r3
  go_wp2_with fail
  go_at_call 36
  refine (eqByteS (ByteSO_is r4) (ByteSO_is r2) hfit rfl).mono ?_
  rintro e w9 ⟨rfl, bl⟩
  have z9 := bl.size
  replace sSymbols := IntSSI_below sSymbols bl (by omega)
  replace r2 := ByteSO_below r2 bl (by omega)
  replace r4 := ByteSO_below r4 bl (by omega)
  replace frm := frm.trans (bl.mono (by omega))
  clear bl
  go_wp2_with fail
  go_at_call 37
  refine (markByteS r4 hfit (1) (by omega) (by omega)).mono ?_
  rintro e w10 ⟨rfl, new, mv⟩
  have z10 := mv.size
  replace sSymbols := IntSSI_mv sSymbols mv (by omega)
  replace r2 := ByteSO_mv r2 mv (by omega)
  replace frm := frm.trans (mv.below (by omega) (by omega))
  have r4m := new
  clear new mv
  go_wp2_with fail
  go_at_call 42
  refine (heldByteS (1) (ByteSO_is r4m) hfit (by omega) (by omega)).mono ?_
  rintro e w11 ⟨rfl, bl⟩
  have z11 := bl.size
  replace sSymbols := IntSSI_below sSymbols bl (by omega)
  replace r2 := ByteSO_below r2 bl (by omega)
  replace r4m := ByteSO_below r4m bl (by omega)
  replace frm := frm.trans (bl.mono (by omega))
  clear bl
  go_wp2_with fail
  go_at_call 41
  refine (toIntSS sSymbols fSymbols).mono ?_
  rintro e w12 ⟨u12, rfl, r12, bl⟩
  have z12 := bl.size
  replace r2 := ByteSO_below r2 bl (by omega)
  replace r4m := ByteSO_below r4m bl (by omega)
  replace frm := frm.trans (bl.mono (by omega))
  clear bl
  go_wp2_with fail
  go_at_call 25
  refine (HI.out _ _ _ _ (IntSSO_is r12)).mono ?_
  rintro e w13 ⟨u13, rfl, r13, bl⟩
  have z13 := bl.size
  replace r2 := ByteSO_below r2 bl (by omega)
  replace r4m := ByteSO_below r4m bl (by omega)
  replace frm := frm.trans (bl.mono (by omega))
  clear bl
  clear r12
  go_wp2_with fail
  go_at_call 36
  refine (eqByteS (ByteSO_is r13) (ByteSO_is r2) hfit rfl).mono ?_
  rintro e w14 ⟨rfl, bl⟩
  have z14 := bl.size
  replace r4m := ByteSO_below r4m bl (by omega)
  replace frm := frm.trans (bl.mono (by omega))
  clear bl
  clear r2
  clear r13
  go_wp2_with fail
  go_at_call 42
  refine (heldByteS (1) (ByteSO_is r4m) hfit (by omega) (by omega)).mono ?_
  rintro e w15 ⟨rfl, bl⟩
  have z15 := bl.size
  replace frm := frm.trans (bl.mono (by omega))
  clear bl
  clear r4m
  go_wp2
  go_ret
  exact ⟨rfl, frm⟩

set_option maxRecDepth 100000 in
set_option maxHeartbeats 1600000 in
theorem exactSplitMessage (w : World) (vData : Value) (iaData : ∃ x, ByteSI w 0 w.heap.size vData x) (aWidth : Int) (wfWidth : (Lit.int .i64 aWidth).wf = true) (aSize : Int) (wfSize : (Lit.int .i64 aSize).wf = true) (aFirst : Int) (wfFirst : (Lit.int .i64 aFirst).wf = true) :
    Calls Try.prog 8 #[vData, .int .i64 aWidth, .int .i64 aSize, .int .i64 aFirst] w fun e w' => e = .returned (.bool true) ∧ Below w.heap.size w w' := by
  obtain ⟨xData, adData, nData, capData, rfl, sData⟩ := iaData
  obtain ⟨loWidth, hiWidth⟩ := fits_i64.1 wfWidth
  clear wfWidth
  obtain ⟨loSize, hiSize⟩ := fits_i64.1 wfSize
  clear wfSize
  obtain ⟨loFirst, hiFirst⟩ := fits_i64.1 wfFirst
  clear wfFirst
  have frm := Below.refl w.heap.size w
  rcases Nat.lt_or_ge 1048576 nData with bigData | bigData
  · have hbData := sData.big
    have hcData := sData.le
    unfold maxLen at hbData
    go_enter Try.func8, Try.ntmps8
    go_wp2
    go_ret
    exact ⟨rfl, frm⟩
  have fData : ByteSF xData := by have := sData.len; show xData.length ≤ 1048576; omega
  have hbData := sData.big
  have hcData := sData.le
  unfold maxLen at hbData
  replace sData : ByteSI _ 0 w.heap.size (.slice adData nData capData) xData := ⟨_, _, _, rfl, sData⟩
  have cS := fun (w' : World) (lData hData : Nat) (uData : Value) (sData : ByteSI w' lData hData uData xData) => GenW.splitS w' sData fData aWidth loWidth hiWidth aSize loSize hiSize aFirst loFirst hiFirst
  have cI := fun (w' : World) (lData hData : Nat) (uData : Value) (sData : ByteSI w' lData hData uData xData) => GenI.split w' sData fData aWidth loWidth hiWidth aSize loSize hiSize aFirst loFirst hiFirst
  try dsimp only at cS cI
  have hfit : GenerationSF ((Gen.split xData aWidth aSize aFirst)) := by exact GenW.fit_split _ _ _ _
  generalize hR : (Gen.split xData aWidth aSize aFirst) = R at cS cI hfit
  clear hR
  have HS := Lib.hid cS
  have HI := Lib.hid cI
  clear cS cI
  have hcnt := GenerationSC_le hfit
  have hkData := ByteSC_le fData
  go_enter Try.func8, Try.ntmps8
  go_wp2_with fail
  go_at_call 34
  refine (toByteS sData fData).mono ?_
  rintro e w1 ⟨u1, rfl, r1, bl⟩
  have z1 := bl.size
  replace sData := ByteSI_below sData bl (by omega)
  replace frm := frm.trans (bl.mono (by omega))
  clear bl
  go_wp2_with fail
  go_at_call 16
  refine (HS.out _ _ _ _ (ByteSO_is r1)).mono ?_
  rintro e w2 ⟨u2, rfl, r2, bl⟩
  have z2 := bl.size
  replace sData := ByteSI_below sData bl (by omega)
  replace frm := frm.trans (bl.mono (by omega))
  clear bl
  clear r1
  go_wp2_with fail
  go_at_call 34
  refine (toByteS sData fData).mono ?_
  rintro e w3 ⟨u3, rfl, r3, bl⟩
  have z3 := bl.size
  replace sData := ByteSI_below sData bl (by omega)
  replace r2 := GenerationSO_below r2 bl (by omega)
  replace frm := frm.trans (bl.mono (by omega))
  clear bl
  go_wp2_with fail
  go_at_call 15
  refine (HI.out _ _ _ _ (ByteSO_is r3)).mono ?_
  rintro e w4 ⟨u4, rfl, r4, bl⟩
  have z4 := bl.size
  replace sData := ByteSI_below sData bl (by omega)
  replace r2 := GenerationSO_below r2 bl (by omega)
  replace r3 := ByteSO_below r3 bl (by omega)
  replace frm := frm.trans (bl.mono (by omega))
  clear bl
  go_wp2_with fail
  go_at_call 43
  refine (eqGenerationS (GenerationSO_is r4) (GenerationSO_is r2) hfit rfl).mono ?_
  rintro e w5 ⟨rfl, bl⟩
  have z5 := bl.size
  replace sData := ByteSI_below sData bl (by omega)
  replace r2 := GenerationSO_below r2 bl (by omega)
  replace r3 := ByteSO_below r3 bl (by omega)
  replace r4 := GenerationSO_below r4 bl (by omega)
  replace frm := frm.trans (bl.mono (by omega))
  clear bl
  go_wp2_with fail
  go_at_call 34
  refine (toByteS sData fData).mono ?_
  rintro e w6 ⟨u6, rfl, r6, bl⟩
  have z6 := bl.size
  replace sData := ByteSI_below sData bl (by omega)
  replace r2 := GenerationSO_below r2 bl (by omega)
  replace r3 := ByteSO_below r3 bl (by omega)
  replace r4 := GenerationSO_below r4 bl (by omega)
  replace frm := frm.trans (bl.mono (by omega))
  clear bl
  go_wp2_with fail
  go_at_call 36
  refine (eqByteS (ByteSO_is r3) (ByteSO_is r6) fData rfl).mono ?_
  rintro e w7 ⟨rfl, bl⟩
  have z7 := bl.size
  replace sData := ByteSI_below sData bl (by omega)
  replace r2 := GenerationSO_below r2 bl (by omega)
  replace r3 := ByteSO_below r3 bl (by omega)
  replace r4 := GenerationSO_below r4 bl (by omega)
  replace frm := frm.trans (bl.mono (by omega))
  clear bl
  clear r6
  go_wp2_with fail
  go_at_call 37
  refine (markByteS r3 fData (1) (by omega) (by omega)).mono ?_
  rintro e w8 ⟨rfl, new, mv⟩
  have z8 := mv.size
  replace sData := ByteSI_mv sData mv (by omega)
  replace r2 := GenerationSO_mv r2 mv (by omega)
  replace r4 := GenerationSO_mv r4 mv (by omega)
  replace frm := frm.trans (mv.below (by omega) (by omega))
  clear new mv
  clear r3
  go_wp2_with fail
  go_at_call 43
  refine (eqGenerationS (GenerationSO_is r4) (GenerationSO_is r2) hfit rfl).mono ?_
  rintro e w9 ⟨rfl, bl⟩
  have z9 := bl.size
  replace sData := ByteSI_below sData bl (by omega)
  replace r2 := GenerationSO_below r2 bl (by omega)
  replace r4 := GenerationSO_below r4 bl (by omega)
  replace frm := frm.trans (bl.mono (by omega))
  clear bl
  go_wp2_with fail
  go_at_call 44
  refine (markGenerationS r4 hfit (1) (by omega) (by omega)).mono ?_
  rintro e w10 ⟨rfl, new, mv⟩
  have z10 := mv.size
  replace sData := ByteSI_mv sData mv (by omega)
  replace r2 := GenerationSO_mv r2 mv (by omega)
  replace frm := frm.trans (mv.below (by omega) (by omega))
  have r4m := new
  clear new mv
  go_wp2_with fail
  go_at_call 45
  refine (heldGenerationS (1) (GenerationSO_is r4m) hfit (by omega) (by omega)).mono ?_
  rintro e w11 ⟨rfl, bl⟩
  have z11 := bl.size
  replace sData := ByteSI_below sData bl (by omega)
  replace r2 := GenerationSO_below r2 bl (by omega)
  replace r4m := GenerationSO_below r4m bl (by omega)
  replace frm := frm.trans (bl.mono (by omega))
  clear bl
  go_wp2_with fail
  go_at_call 34
  refine (toByteS sData fData).mono ?_
  rintro e w12 ⟨u12, rfl, r12, bl⟩
  have z12 := bl.size
  replace r2 := GenerationSO_below r2 bl (by omega)
  replace r4m := GenerationSO_below r4m bl (by omega)
  replace frm := frm.trans (bl.mono (by omega))
  clear bl
  go_wp2_with fail
  go_at_call 15
  refine (HI.out _ _ _ _ (ByteSO_is r12)).mono ?_
  rintro e w13 ⟨u13, rfl, r13, bl⟩
  have z13 := bl.size
  replace r2 := GenerationSO_below r2 bl (by omega)
  replace r4m := GenerationSO_below r4m bl (by omega)
  replace frm := frm.trans (bl.mono (by omega))
  clear bl
  clear r12
  go_wp2_with fail
  go_at_call 43
  refine (eqGenerationS (GenerationSO_is r13) (GenerationSO_is r2) hfit rfl).mono ?_
  rintro e w14 ⟨rfl, bl⟩
  have z14 := bl.size
  replace r4m := GenerationSO_below r4m bl (by omega)
  replace frm := frm.trans (bl.mono (by omega))
  clear bl
  clear r2
  clear r13
  go_wp2_with fail
  go_at_call 45
  refine (heldGenerationS (1) (GenerationSO_is r4m) hfit (by omega) (by omega)).mono ?_
  rintro e w15 ⟨rfl, bl⟩
  have z15 := bl.size
  replace frm := frm.trans (bl.mono (by omega))
  clear bl
  clear r4m
  go_wp2
  go_ret
  exact ⟨rfl, frm⟩

set_option maxRecDepth 100000 in
set_option maxHeartbeats 1600000 in
theorem exactJoinGenerations (w : World) (vList : Value) (iaList : ∃ x, GenerationSI w 0 w.heap.size vList x) :
    Calls Try.prog 9 #[vList] w fun e w' => e = .returned (.bool true) ∧ Below w.heap.size w w' := by
  obtain ⟨xList, sList⟩ := iaList
  have frm := Below.refl w.heap.size w
  go_enter Try.func9, Try.ntmps9
  go_wp2_with fail
  go_at_call 46
  refine (szGenerationS sList 1048576 (by omega) (by omega)).mono ?_
  rintro e wsList ⟨leftList, rfl, leList, riList, fList, bl⟩
  have zsList := bl.size
  replace sList := GenerationSI_below sList bl (by omega)
  replace frm := frm.trans (bl.mono (by omega))
  clear bl
  by_cases hlList : 0 ≤ leftList
  case neg =>
    clear fList
    go_wp2
    go_ret
    exact ⟨rfl, frm⟩
  replace fList := fList hlList
  have cS := fun (w' : World) (lList hList : Nat) (uList : Value) (sList : GenerationSI w' lList hList uList xList) => GenW.joinS w' sList fList
  have cI := fun (w' : World) (lList hList : Nat) (uList : Value) (sList : GenerationSI w' lList hList uList xList) => GenI.join w' sList fList
  try dsimp only at cS cI
  have hfit : ByteSF ((Gen.join xList)).1 := by exact GenW.fit_join _
  generalize hR : (Gen.join xList) = R at cS cI hfit
  clear hR
  obtain ⟨R0, R1⟩ := R
  try dsimp only at cS cI hfit
  have HS := Lib.hid cS
  have HI := Lib.hid cI
  clear cS cI
  have hcnt := ByteSC_le hfit
  have hkList := GenerationSC_le fList
  go_wp2_with fail
  go_at_call 48
  refine (toGenerationS sList fList).mono ?_
  rintro e w1 ⟨u1, rfl, r1, bl⟩
  have z1 := bl.size
  replace sList := GenerationSI_below sList bl (by omega)
  replace frm := frm.trans (bl.mono (by omega))
  clear bl
  go_wp2_with fail
  go_at_call 47
  refine (HS.out _ _ _ _ (GenerationSO_is r1)).mono ?_
  rintro e w2 ⟨u2, rfl, r2, bl⟩
  have z2 := bl.size
  replace sList := GenerationSI_below sList bl (by omega)
  replace frm := frm.trans (bl.mono (by omega))
  clear bl
  clear r1
  go_wp2_with fail
  go_at_call 48
  refine (toGenerationS sList fList).mono ?_
  rintro e w3 ⟨u3, rfl, r3, bl⟩
  have z3 := bl.size
  replace sList := GenerationSI_below sList bl (by omega)
  replace r2 := ByteSO_below r2 bl (by omega)
  replace frm := frm.trans (bl.mono (by omega))
  clear bl
  go_wp2_with fail
  go_at_call 17
  refine (HI.out _ _ _ _ (GenerationSO_is r3)).mono ?_
  rintro e w4 ⟨u4, rfl, r4, bl⟩
  have z4 := bl.size
  replace sList := GenerationSI_below sList bl (by omega)
  replace r2 := ByteSO_below r2 bl (by omega)
  replace r3 := GenerationSO_below r3 bl (by omega)
  replace frm := frm.trans (bl.mono (by omega))
  clear bl
  go_wp2_with fail
  go_at_call 36
  refine (eqByteS (ByteSO_is r4) (ByteSO_is r2) hfit rfl).mono ?_
  rintro e w5 ⟨rfl, bl⟩
  have z5 := bl.size
  replace sList := GenerationSI_below sList bl (by omega)
  replace r2 := ByteSO_below r2 bl (by omega)
  replace r3 := GenerationSO_below r3 bl (by omega)
  replace r4 := ByteSO_below r4 bl (by omega)
  replace frm := frm.trans (bl.mono (by omega))
  clear bl
  go_wp2_with fail
  go_at_call 48
  refine (toGenerationS sList fList).mono ?_
  rintro e w6 ⟨u6, rfl, r6, bl⟩
  have z6 := bl.size
  replace sList := GenerationSI_below sList bl (by omega)
  replace r2 := ByteSO_below r2 bl (by omega)
  replace r3 := GenerationSO_below r3 bl (by omega)
  replace r4 := ByteSO_below r4 bl (by omega)
  replace frm := frm.trans (bl.mono (by omega))
  clear bl
  go_wp2_with fail
  go_at_call 43
  refine (eqGenerationS (GenerationSO_is r3) (GenerationSO_is r6) fList rfl).mono ?_
  rintro e w7 ⟨rfl, bl⟩
  have z7 := bl.size
  replace sList := GenerationSI_below sList bl (by omega)
  replace r2 := ByteSO_below r2 bl (by omega)
  replace r3 := GenerationSO_below r3 bl (by omega)
  replace r4 := ByteSO_below r4 bl (by omega)
  replace frm := frm.trans (bl.mono (by omega))
  clear bl
  clear r6
  go_wp2_with fail
  go_at_call 44
  refine (markGenerationS r3 fList (1) (by omega) (by omega)).mono ?_
  rintro e w8 ⟨rfl, new, mv⟩
  have z8 := mv.size
  replace sList := GenerationSI_mv sList mv (by omega)
  replace r2 := ByteSO_mv r2 mv (by omega)
  replace r4 := ByteSO_mv r4 mv (by omega)
  replace frm := frm.trans (mv.below (by omega) (by omega))
  clear new mv
  clear r3
  go_wp2_with fail
  go_at_call 36
  refine (eqByteS (ByteSO_is r4) (ByteSO_is r2) hfit rfl).mono ?_
  rintro e w9 ⟨rfl, bl⟩
  have z9 := bl.size
  replace sList := GenerationSI_below sList bl (by omega)
  replace r2 := ByteSO_below r2 bl (by omega)
  replace r4 := ByteSO_below r4 bl (by omega)
  replace frm := frm.trans (bl.mono (by omega))
  clear bl
  go_wp2_with fail
  go_at_call 37
  refine (markByteS r4 hfit (1) (by omega) (by omega)).mono ?_
  rintro e w10 ⟨rfl, new, mv⟩
  have z10 := mv.size
  replace sList := GenerationSI_mv sList mv (by omega)
  replace r2 := ByteSO_mv r2 mv (by omega)
  replace frm := frm.trans (mv.below (by omega) (by omega))
  have r4m := new
  clear new mv
  go_wp2_with fail
  go_at_call 42
  refine (heldByteS (1) (ByteSO_is r4m) hfit (by omega) (by omega)).mono ?_
  rintro e w11 ⟨rfl, bl⟩
  have z11 := bl.size
  replace sList := GenerationSI_below sList bl (by omega)
  replace r2 := ByteSO_below r2 bl (by omega)
  replace r4m := ByteSO_below r4m bl (by omega)
  replace frm := frm.trans (bl.mono (by omega))
  clear bl
  go_wp2_with fail
  go_at_call 48
  refine (toGenerationS sList fList).mono ?_
  rintro e w12 ⟨u12, rfl, r12, bl⟩
  have z12 := bl.size
  replace r2 := ByteSO_below r2 bl (by omega)
  replace r4m := ByteSO_below r4m bl (by omega)
  replace frm := frm.trans (bl.mono (by omega))
  clear bl
  go_wp2_with fail
  go_at_call 17
  refine (HI.out _ _ _ _ (GenerationSO_is r12)).mono ?_
  rintro e w13 ⟨u13, rfl, r13, bl⟩
  have z13 := bl.size
  replace r2 := ByteSO_below r2 bl (by omega)
  replace r4m := ByteSO_below r4m bl (by omega)
  replace frm := frm.trans (bl.mono (by omega))
  clear bl
  clear r12
  go_wp2_with fail
  go_at_call 36
  refine (eqByteS (ByteSO_is r13) (ByteSO_is r2) hfit rfl).mono ?_
  rintro e w14 ⟨rfl, bl⟩
  have z14 := bl.size
  replace r4m := ByteSO_below r4m bl (by omega)
  replace frm := frm.trans (bl.mono (by omega))
  clear bl
  clear r2
  clear r13
  go_wp2_with fail
  go_at_call 42
  refine (heldByteS (1) (ByteSO_is r4m) hfit (by omega) (by omega)).mono ?_
  rintro e w15 ⟨rfl, bl⟩
  have z15 := bl.size
  replace frm := frm.trans (bl.mono (by omega))
  clear bl
  clear r4m
  go_wp2
  go_ret
  exact ⟨rfl, frm⟩

set_option maxRecDepth 100000 in
set_option maxHeartbeats 1600000 in
theorem exactGenerationSize (w : World) (vG : Value) (iaG : ∃ x, GenerationI w 0 w.heap.size vG x) :
    Calls Try.prog 10 #[vG] w fun e w' => e = .returned (.bool true) ∧ Below w.heap.size w w' := by
  obtain ⟨⟨WG, MG⟩, _, rfl, hwG, adG, nG, capG, rfl, sG⟩ := iaG
  replace sG : GenerationI w 0 w.heap.size (.agg #[.int .i64 WG, .slice adG nG capG]) (WG, MG) := ⟨_, rfl, hwG, _, _, _, rfl, sG⟩
  have frm := Below.refl w.heap.size w
  have kG := Blk.new w (.int .i64 WG) (.slice adG nG capG) 44
  replace frm := frm.alloc (by first | exact Nat.le_refl _ | (simp; done) | (simp; omega)) (.cells #[.int .i64 WG, .slice adG nG capG] 44)
  replace sG := GenerationI_below sG frm (.inr (Nat.le_refl _))
  have cG0 := kG.c0
  have cG1 := kG.c1
  have zw : (w.alloc (.cells #[.int .i64 WG, .slice adG nG capG] 44)).heap.size = w.heap.size + 1 := by simp
  go_enter Try.func10, Try.ntmps10
  go_wp2_with fail
  go_at_call 29
  generalize w.alloc (.cells #[.int .i64 WG, .slice adG nG capG] 44) = y0 at *
  refine (szGeneration sG 1048576 (by omega) (by omega)).mono ?_
  rintro e wsG ⟨leftG, rfl, leG, riG, fG, bl⟩
  have zsG := bl.size
  replace sG := GenerationI_below sG bl (by omega)
  replace kG := kG.below bl (by omega)
  clear cG0 cG1
  have cG0 := kG.c0
  have cG1 := kG.c1
  replace frm := frm.trans (bl.mono (by omega))
  clear bl
  by_cases hlG : 0 ≤ leftG
  case neg =>
    clear fG
    go_wp2
    go_ret
    exact ⟨rfl, frm⟩
  replace fG := fG hlG
  have cS := fun (w' : World) (lG hG : Nat) (uG : Value) (sG : GenerationI w' lG hG uG (WG, MG)) => GenW.sizeS w' sG fG
  have cI := fun (w' : World) (lG hG : Nat) (uG : Value) (sG : GenerationI w' lG hG uG (WG, MG)) => GenI.size w' sG fG
  try dsimp only at cS cI
  generalize hR : ((MG.length : Nat) : Int) = R at cS cI
  clear hR
  have HS := Lib.hid cS
  have HI := Lib.hid cI
  clear cS cI
  have hkG := GenerationC_le fG
  go_wp2_with fail
  go_at_call 31
  refine (toGeneration sG fG).mono ?_
  rintro e w1 ⟨u1, rfl, r1, bl⟩
  have z1 := bl.size
  replace sG := GenerationI_below sG bl (by omega)
  replace kG := kG.below bl (by omega)
  clear cG0 cG1
  have cG0 := kG.c0
  have cG1 := kG.c1
  replace frm := frm.trans (bl.mono (by omega))
  clear bl
  obtain ⟨_, rfl, hw1, ad1, n1, cap1, us1, rfl, r1⟩ := r1
  replace r1 : GenerationO w1 _ _ (.agg #[.int .i64 WG, .slice ad1 n1 cap1]) (WG, MG) := ⟨_, rfl, hw1, _, _, _, _, rfl, r1⟩
  go_wp2_with fail
  go_at_call 49
  refine (HS.out _ _ _ _ (GenerationO_is r1)).mono ?_
  rintro e w2 ⟨rfl, bl⟩
  have z2 := bl.size
  replace sG := GenerationI_below sG bl (by omega)
  replace kG := kG.below bl (by omega)
  clear cG0 cG1
  have cG0 := kG.c0
  have cG1 := kG.c1
  replace frm := frm.trans (bl.mono (by omega))
  clear bl
  clear r1
  go_wp2_with fail
  go_at_call 31
  refine (toGeneration sG fG).mono ?_
  rintro e w3 ⟨u3, rfl, r3, bl⟩
  have z3 := bl.size
  replace sG := GenerationI_below sG bl (by omega)
  replace kG := kG.below bl (by omega)
  clear cG0 cG1
  have cG0 := kG.c0
  have cG1 := kG.c1
  replace frm := frm.trans (bl.mono (by omega))
  clear bl
  obtain ⟨_, rfl, hw3, ad3, n3, cap3, us3, rfl, r3⟩ := r3
  replace r3 : GenerationO w3 _ _ (.agg #[.int .i64 WG, .slice ad3 n3 cap3]) (WG, MG) := ⟨_, rfl, hw3, _, _, _, _, rfl, r3⟩
  have kx0 := Blk.new w3 (.int .i64 WG) (.slice ad3 n3 cap3) 34
  have hb := below_box w3 (.cells #[.int .i64 WG, .slice ad3 n3 cap3] 34)
  have zb3 : (w3.alloc (.cells #[.int .i64 WG, .slice ad3 n3 cap3] 34)).heap.size = w3.heap.size + 1 := by simp
  replace sG := GenerationI_below sG hb (.inr (Nat.le_refl _))
  replace r3 := GenerationO_below r3 hb (.inr (Nat.le_refl _))
  replace kG := kG.alloc (.cells #[.int .i64 WG, .slice ad3 n3 cap3] 34)
  clear cG0 cG1
  have cG0 := kG.c0
  have cG1 := kG.c1
  replace frm := frm.trans (hb.mono (by omega))
  clear hb
  have cx00 := kx0.c0
  have cx01 := kx0.c1
  go_wp2_with fail
  go_at_call 21
  generalize w3.alloc (.cells #[.int .i64 WG, .slice ad3 n3 cap3] 34) = y1 at *
  refine (HI.out _ _ _ _ (GenerationO_is r3)).mono ?_
  rintro e w4 ⟨rfl, bl⟩
  have z4 := bl.size
  replace sG := GenerationI_below sG bl (by omega)
  replace r3 := GenerationO_below r3 bl (by omega)
  replace kG := kG.below bl (by omega)
  clear cG0 cG1
  have cG0 := kG.c0
  have cG1 := kG.c1
  replace kx0 := kx0.below bl (by omega)
  clear cx00 cx01
  have cx00 := kx0.c0
  have cx01 := kx0.c1
  replace frm := frm.trans (bl.mono (by omega))
  clear bl
  go_wp2
  replace sG := GenerationI_mv sG (Mv.drew (Mv.refl w4 0 0)) (.inr (Nat.zero_le _))
  replace r3 := GenerationO_mv r3 (Mv.drew (Mv.refl w4 0 0)) (.inr (Nat.zero_le _))
  replace kG : Blk w4.drew (w.heap.size) _ (.int .i64 WG) (.slice adG nG capG) := ⟨kG.obj⟩
  clear cG0 cG1
  have cG0 := kG.c0
  have cG1 := kG.c1
  replace kx0 : Blk w4.drew (w3.heap.size) _ (.int .i64 WG) (.slice ad3 n3 cap3) := ⟨kx0.obj⟩
  clear cx00 cx01
  have cx00 := kx0.c0
  have cx01 := kx0.c1
  replace frm := frm.drew
  have zd : w4.heap.size = w4.drew.heap.size := rfl
  refine wp_region_held (S := fun w' => w'.cell? ⟨w.heap.size, 0, none⟩ = some (.int .i64 WG) ∧ w'.cell? ⟨w.heap.size, 1, none⟩ = some (.slice adG nG capG) ∧ w'.cell? ⟨w3.heap.size, 0, none⟩ = some (.int .i64 WG) ∧ w'.cell? ⟨w3.heap.size, 1, none⟩ = some (.slice ad3 n3 cap3)) (by kernel_rfl) ?_
  change wpAnyH _ _ _ _ _ _ _ _ w4.drew
  generalize w4.drew = d0 at *
  have HH := Lib.hid (show d0.cell? ⟨w.heap.size, 0, none⟩ = some (.int .i64 WG) ∧ d0.cell? ⟨w.heap.size, 1, none⟩ = some (.slice adG nG capG) ∧ d0.cell? ⟨w3.heap.size, 0, none⟩ = some (.int .i64 WG) ∧ d0.cell? ⟨w3.heap.size, 1, none⟩ = some (.slice ad3 n3 cap3) from ⟨cG0, cG1, cx00, cx01⟩)
  refine wpAnyH_take (i := 0) (oi := ⟨some _, _, _, _, _, _⟩) (v := ?_) rfl (by kernel_rfl) (by kernel_rfl) (by kernel_rfl) (fun _ _ _ h => h) (Or.inl ⟨by rfl, ?_⟩) HH.out ?_
  rotate_left
  · intro wS hSw
    try dsimp only at hSw
    go_simp
    all_goals (with_reducible rfl)
  simp only [Act.put, List.setIfInBounds_toArray, List.set_cons_zero, List.set_cons_succ]
  refine wpAnyH_take (i := 1) (oi := ⟨some _, _, _, _, _, _⟩) (v := ?_) rfl (by kernel_rfl) (by kernel_rfl) (by kernel_rfl) (fun _ _ _ h => h) (Or.inl ⟨by rfl, ?_⟩) HH.out ?_
  rotate_left
  · intro wS hSw
    try dsimp only at hSw
    go_simp
    all_goals (with_reducible rfl)
  simp only [Act.put, List.setIfInBounds_toArray, List.set_cons_zero, List.set_cons_succ]
  clear HH
  refine wpAnyH_ready (rs := [2]) (by kernel_rfl) (by simp) ?_
  refine AllReadyH.cons (o := ⟨some _, _, _, _, _, _⟩) rfl (fun Kq hKq => ?_) AllReadyH.nil
  go_simp
  refine (toGeneration sG fG).mono ?_
  rintro e w5 ⟨u5, rfl, r5, bl⟩
  have z5 := bl.size
  replace r3 := GenerationO_below r3 bl (by omega)
  replace kG := kG.below bl (by omega)
  clear cG0 cG1
  have cG0 := kG.c0
  have cG1 := kG.c1
  replace kx0 := kx0.below bl (by omega)
  clear cx00 cx01
  have cx00 := kx0.c0
  have cx01 := kx0.c1
  replace frm := frm.trans (bl.mono (by omega))
  clear bl
  obtain ⟨_, rfl, hw5, ad5, n5, cap5, us5, rfl, r5⟩ := r5
  replace r5 : GenerationO w5 _ _ (.agg #[.int .i64 WG, .slice ad5 n5 cap5]) (WG, MG) := ⟨_, rfl, hw5, _, _, _, _, rfl, r5⟩
  have HH := Lib.hid (show w5.cell? ⟨w.heap.size, 0, none⟩ = some (.int .i64 WG) ∧ w5.cell? ⟨w.heap.size, 1, none⟩ = some (.slice adG nG capG) ∧ w5.cell? ⟨w3.heap.size, 0, none⟩ = some (.int .i64 WG) ∧ w5.cell? ⟨w3.heap.size, 1, none⟩ = some (.slice ad3 n3 cap3) from ⟨cG0, cG1, cx00, cx01⟩)
  refine hKq.out _ _ HH.out (fun _ => ?_)
  clear hKq Kq
  clear HH
  refine wpAnyH_ready (rs := [3]) (by kernel_rfl) (by simp) ?_
  refine AllReadyH.cons (o := ⟨some _, _, _, _, _, _⟩) rfl (fun Kq hKq => ?_) AllReadyH.nil
  go_simp
  refine (eqGeneration (GenerationO_is r3) (GenerationO_is r5) fG rfl).mono ?_
  rintro e w6 ⟨rfl, bl⟩
  have z6 := bl.size
  replace kG := kG.below bl (by omega)
  clear cG0 cG1
  have cG0 := kG.c0
  have cG1 := kG.c1
  replace kx0 := kx0.below bl (by omega)
  clear cx00 cx01
  have cx00 := kx0.c0
  have cx01 := kx0.c1
  replace frm := frm.trans (bl.mono (by omega))
  clear bl
  have HH := Lib.hid (show w6.cell? ⟨w.heap.size, 0, none⟩ = some (.int .i64 WG) ∧ w6.cell? ⟨w.heap.size, 1, none⟩ = some (.slice adG nG capG) ∧ w6.cell? ⟨w3.heap.size, 0, none⟩ = some (.int .i64 WG) ∧ w6.cell? ⟨w3.heap.size, 1, none⟩ = some (.slice ad3 n3 cap3) from ⟨cG0, cG1, cx00, cx01⟩)
  refine hKq.out _ _ HH.out (fun _ => ?_)
  clear hKq Kq
  try simp only [Act.put, List.setIfInBounds_toArray, List.set_cons_zero, List.set_cons_succ]
  refine wpAnyH_take (i := 4) (oi := ⟨some _, _, _, _, _, _⟩) (v := ?_) rfl (by kernel_rfl) (by kernel_rfl) (by kernel_rfl) (fun _ _ _ h => h) (Or.inl ⟨by rfl, ?_⟩) HH.out ?_
  rotate_left
  · intro wS hSw
    try dsimp only at hSw
    go_simp
    all_goals (with_reducible rfl)
  simp only [Act.put, List.setIfInBounds_toArray, List.set_cons_zero, List.set_cons_succ]
  refine wpAnyH_done (by kernel_rfl) ?_ _
  clear HH
  clear r3
  clear r5
  go_wp2
  go_ret
  exact ⟨rfl, frm⟩

set_option maxRecDepth 100000 in
set_option maxHeartbeats 1600000 in
theorem exactSymbolWidth (w : World) (vG : Value) (iaG : ∃ x, GenerationI w 0 w.heap.size vG x) :
    Calls Try.prog 11 #[vG] w fun e w' => e = .returned (.bool true) ∧ Below w.heap.size w w' := by
  obtain ⟨⟨WG, MG⟩, _, rfl, hwG, adG, nG, capG, rfl, sG⟩ := iaG
  replace sG : GenerationI w 0 w.heap.size (.agg #[.int .i64 WG, .slice adG nG capG]) (WG, MG) := ⟨_, rfl, hwG, _, _, _, rfl, sG⟩
  have frm := Below.refl w.heap.size w
  have kG := Blk.new w (.int .i64 WG) (.slice adG nG capG) 44
  replace frm := frm.alloc (by first | exact Nat.le_refl _ | (simp; done) | (simp; omega)) (.cells #[.int .i64 WG, .slice adG nG capG] 44)
  replace sG := GenerationI_below sG frm (.inr (Nat.le_refl _))
  have cG0 := kG.c0
  have cG1 := kG.c1
  have zw : (w.alloc (.cells #[.int .i64 WG, .slice adG nG capG] 44)).heap.size = w.heap.size + 1 := by simp
  go_enter Try.func11, Try.ntmps11
  go_wp2_with fail
  go_at_call 29
  generalize w.alloc (.cells #[.int .i64 WG, .slice adG nG capG] 44) = y0 at *
  refine (szGeneration sG 1048576 (by omega) (by omega)).mono ?_
  rintro e wsG ⟨leftG, rfl, leG, riG, fG, bl⟩
  have zsG := bl.size
  replace sG := GenerationI_below sG bl (by omega)
  replace kG := kG.below bl (by omega)
  clear cG0 cG1
  have cG0 := kG.c0
  have cG1 := kG.c1
  replace frm := frm.trans (bl.mono (by omega))
  clear bl
  by_cases hlG : 0 ≤ leftG
  case neg =>
    clear fG
    go_wp2
    go_ret
    exact ⟨rfl, frm⟩
  replace fG := fG hlG
  have cS := fun (w' : World) (lG hG : Nat) (uG : Value) (sG : GenerationI w' lG hG uG (WG, MG)) => GenW.widthS w' sG fG
  have cI := fun (w' : World) (lG hG : Nat) (uG : Value) (sG : GenerationI w' lG hG uG (WG, MG)) => GenI.width w' sG fG
  try dsimp only at cS cI
  generalize hR : ((Mat.colsOf MG : Nat) : Int) = R at cS cI
  clear hR
  have HS := Lib.hid cS
  have HI := Lib.hid cI
  clear cS cI
  have hkG := GenerationC_le fG
  go_wp2_with fail
  go_at_call 31
  refine (toGeneration sG fG).mono ?_
  rintro e w1 ⟨u1, rfl, r1, bl⟩
  have z1 := bl.size
  replace sG := GenerationI_below sG bl (by omega)
  replace kG := kG.below bl (by omega)
  clear cG0 cG1
  have cG0 := kG.c0
  have cG1 := kG.c1
  replace frm := frm.trans (bl.mono (by omega))
  clear bl
  obtain ⟨_, rfl, hw1, ad1, n1, cap1, us1, rfl, r1⟩ := r1
  replace r1 : GenerationO w1 _ _ (.agg #[.int .i64 WG, .slice ad1 n1 cap1]) (WG, MG) := ⟨_, rfl, hw1, _, _, _, _, rfl, r1⟩
  go_wp2_with fail
  go_at_call 50
  refine (HS.out _ _ _ _ (GenerationO_is r1)).mono ?_
  rintro e w2 ⟨rfl, bl⟩
  have z2 := bl.size
  replace sG := GenerationI_below sG bl (by omega)
  replace kG := kG.below bl (by omega)
  clear cG0 cG1
  have cG0 := kG.c0
  have cG1 := kG.c1
  replace frm := frm.trans (bl.mono (by omega))
  clear bl
  clear r1
  go_wp2_with fail
  go_at_call 31
  refine (toGeneration sG fG).mono ?_
  rintro e w3 ⟨u3, rfl, r3, bl⟩
  have z3 := bl.size
  replace sG := GenerationI_below sG bl (by omega)
  replace kG := kG.below bl (by omega)
  clear cG0 cG1
  have cG0 := kG.c0
  have cG1 := kG.c1
  replace frm := frm.trans (bl.mono (by omega))
  clear bl
  obtain ⟨_, rfl, hw3, ad3, n3, cap3, us3, rfl, r3⟩ := r3
  replace r3 : GenerationO w3 _ _ (.agg #[.int .i64 WG, .slice ad3 n3 cap3]) (WG, MG) := ⟨_, rfl, hw3, _, _, _, _, rfl, r3⟩
  have kx0 := Blk.new w3 (.int .i64 WG) (.slice ad3 n3 cap3) 34
  have hb := below_box w3 (.cells #[.int .i64 WG, .slice ad3 n3 cap3] 34)
  have zb3 : (w3.alloc (.cells #[.int .i64 WG, .slice ad3 n3 cap3] 34)).heap.size = w3.heap.size + 1 := by simp
  replace sG := GenerationI_below sG hb (.inr (Nat.le_refl _))
  replace r3 := GenerationO_below r3 hb (.inr (Nat.le_refl _))
  replace kG := kG.alloc (.cells #[.int .i64 WG, .slice ad3 n3 cap3] 34)
  clear cG0 cG1
  have cG0 := kG.c0
  have cG1 := kG.c1
  replace frm := frm.trans (hb.mono (by omega))
  clear hb
  have cx00 := kx0.c0
  have cx01 := kx0.c1
  go_wp2_with fail
  go_at_call 20
  generalize w3.alloc (.cells #[.int .i64 WG, .slice ad3 n3 cap3] 34) = y1 at *
  refine (HI.out _ _ _ _ (GenerationO_is r3)).mono ?_
  rintro e w4 ⟨rfl, bl⟩
  have z4 := bl.size
  replace sG := GenerationI_below sG bl (by omega)
  replace r3 := GenerationO_below r3 bl (by omega)
  replace kG := kG.below bl (by omega)
  clear cG0 cG1
  have cG0 := kG.c0
  have cG1 := kG.c1
  replace kx0 := kx0.below bl (by omega)
  clear cx00 cx01
  have cx00 := kx0.c0
  have cx01 := kx0.c1
  replace frm := frm.trans (bl.mono (by omega))
  clear bl
  go_wp2
  replace sG := GenerationI_mv sG (Mv.drew (Mv.refl w4 0 0)) (.inr (Nat.zero_le _))
  replace r3 := GenerationO_mv r3 (Mv.drew (Mv.refl w4 0 0)) (.inr (Nat.zero_le _))
  replace kG : Blk w4.drew (w.heap.size) _ (.int .i64 WG) (.slice adG nG capG) := ⟨kG.obj⟩
  clear cG0 cG1
  have cG0 := kG.c0
  have cG1 := kG.c1
  replace kx0 : Blk w4.drew (w3.heap.size) _ (.int .i64 WG) (.slice ad3 n3 cap3) := ⟨kx0.obj⟩
  clear cx00 cx01
  have cx00 := kx0.c0
  have cx01 := kx0.c1
  replace frm := frm.drew
  have zd : w4.heap.size = w4.drew.heap.size := rfl
  refine wp_region_held (S := fun w' => w'.cell? ⟨w.heap.size, 0, none⟩ = some (.int .i64 WG) ∧ w'.cell? ⟨w.heap.size, 1, none⟩ = some (.slice adG nG capG) ∧ w'.cell? ⟨w3.heap.size, 0, none⟩ = some (.int .i64 WG) ∧ w'.cell? ⟨w3.heap.size, 1, none⟩ = some (.slice ad3 n3 cap3)) (by kernel_rfl) ?_
  change wpAnyH _ _ _ _ _ _ _ _ w4.drew
  generalize w4.drew = d0 at *
  have HH := Lib.hid (show d0.cell? ⟨w.heap.size, 0, none⟩ = some (.int .i64 WG) ∧ d0.cell? ⟨w.heap.size, 1, none⟩ = some (.slice adG nG capG) ∧ d0.cell? ⟨w3.heap.size, 0, none⟩ = some (.int .i64 WG) ∧ d0.cell? ⟨w3.heap.size, 1, none⟩ = some (.slice ad3 n3 cap3) from ⟨cG0, cG1, cx00, cx01⟩)
  refine wpAnyH_take (i := 0) (oi := ⟨some _, _, _, _, _, _⟩) (v := ?_) rfl (by kernel_rfl) (by kernel_rfl) (by kernel_rfl) (fun _ _ _ h => h) (Or.inl ⟨by rfl, ?_⟩) HH.out ?_
  rotate_left
  · intro wS hSw
    try dsimp only at hSw
    go_simp
    all_goals (with_reducible rfl)
  simp only [Act.put, List.setIfInBounds_toArray, List.set_cons_zero, List.set_cons_succ]
  refine wpAnyH_take (i := 1) (oi := ⟨some _, _, _, _, _, _⟩) (v := ?_) rfl (by kernel_rfl) (by kernel_rfl) (by kernel_rfl) (fun _ _ _ h => h) (Or.inl ⟨by rfl, ?_⟩) HH.out ?_
  rotate_left
  · intro wS hSw
    try dsimp only at hSw
    go_simp
    all_goals (with_reducible rfl)
  simp only [Act.put, List.setIfInBounds_toArray, List.set_cons_zero, List.set_cons_succ]
  clear HH
  refine wpAnyH_ready (rs := [2]) (by kernel_rfl) (by simp) ?_
  refine AllReadyH.cons (o := ⟨some _, _, _, _, _, _⟩) rfl (fun Kq hKq => ?_) AllReadyH.nil
  go_simp
  refine (toGeneration sG fG).mono ?_
  rintro e w5 ⟨u5, rfl, r5, bl⟩
  have z5 := bl.size
  replace r3 := GenerationO_below r3 bl (by omega)
  replace kG := kG.below bl (by omega)
  clear cG0 cG1
  have cG0 := kG.c0
  have cG1 := kG.c1
  replace kx0 := kx0.below bl (by omega)
  clear cx00 cx01
  have cx00 := kx0.c0
  have cx01 := kx0.c1
  replace frm := frm.trans (bl.mono (by omega))
  clear bl
  obtain ⟨_, rfl, hw5, ad5, n5, cap5, us5, rfl, r5⟩ := r5
  replace r5 : GenerationO w5 _ _ (.agg #[.int .i64 WG, .slice ad5 n5 cap5]) (WG, MG) := ⟨_, rfl, hw5, _, _, _, _, rfl, r5⟩
  have HH := Lib.hid (show w5.cell? ⟨w.heap.size, 0, none⟩ = some (.int .i64 WG) ∧ w5.cell? ⟨w.heap.size, 1, none⟩ = some (.slice adG nG capG) ∧ w5.cell? ⟨w3.heap.size, 0, none⟩ = some (.int .i64 WG) ∧ w5.cell? ⟨w3.heap.size, 1, none⟩ = some (.slice ad3 n3 cap3) from ⟨cG0, cG1, cx00, cx01⟩)
  refine hKq.out _ _ HH.out (fun _ => ?_)
  clear hKq Kq
  clear HH
  refine wpAnyH_ready (rs := [3]) (by kernel_rfl) (by simp) ?_
  refine AllReadyH.cons (o := ⟨some _, _, _, _, _, _⟩) rfl (fun Kq hKq => ?_) AllReadyH.nil
  go_simp
  refine (eqGeneration (GenerationO_is r3) (GenerationO_is r5) fG rfl).mono ?_
  rintro e w6 ⟨rfl, bl⟩
  have z6 := bl.size
  replace kG := kG.below bl (by omega)
  clear cG0 cG1
  have cG0 := kG.c0
  have cG1 := kG.c1
  replace kx0 := kx0.below bl (by omega)
  clear cx00 cx01
  have cx00 := kx0.c0
  have cx01 := kx0.c1
  replace frm := frm.trans (bl.mono (by omega))
  clear bl
  have HH := Lib.hid (show w6.cell? ⟨w.heap.size, 0, none⟩ = some (.int .i64 WG) ∧ w6.cell? ⟨w.heap.size, 1, none⟩ = some (.slice adG nG capG) ∧ w6.cell? ⟨w3.heap.size, 0, none⟩ = some (.int .i64 WG) ∧ w6.cell? ⟨w3.heap.size, 1, none⟩ = some (.slice ad3 n3 cap3) from ⟨cG0, cG1, cx00, cx01⟩)
  refine hKq.out _ _ HH.out (fun _ => ?_)
  clear hKq Kq
  try simp only [Act.put, List.setIfInBounds_toArray, List.set_cons_zero, List.set_cons_succ]
  refine wpAnyH_take (i := 4) (oi := ⟨some _, _, _, _, _, _⟩) (v := ?_) rfl (by kernel_rfl) (by kernel_rfl) (by kernel_rfl) (fun _ _ _ h => h) (Or.inl ⟨by rfl, ?_⟩) HH.out ?_
  rotate_left
  · intro wS hSw
    try dsimp only at hSw
    go_simp
    all_goals (with_reducible rfl)
  simp only [Act.put, List.setIfInBounds_toArray, List.set_cons_zero, List.set_cons_succ]
  refine wpAnyH_done (by kernel_rfl) ?_ _
  clear HH
  clear r3
  clear r5
  go_wp2
  go_ret
  exact ⟨rfl, frm⟩

set_option maxRecDepth 100000 in
set_option maxHeartbeats 1600000 in
theorem exactEqualGenerations (w : World) (vA : Value) (iaA : ∃ x, GenerationI w 0 w.heap.size vA x) (vB : Value) (iaB : ∃ x, GenerationI w 0 w.heap.size vB x) :
    Calls Try.prog 12 #[vA, vB] w fun e w' => e = .returned (.bool true) ∧ Below w.heap.size w w' := by
  obtain ⟨⟨WA, MA⟩, _, rfl, hwA, adA, nA, capA, rfl, sA⟩ := iaA
  replace sA : GenerationI w 0 w.heap.size (.agg #[.int .i64 WA, .slice adA nA capA]) (WA, MA) := ⟨_, rfl, hwA, _, _, _, rfl, sA⟩
  obtain ⟨⟨WB, MB⟩, _, rfl, hwB, adB, nB, capB, rfl, sB⟩ := iaB
  replace sB : GenerationI w 0 w.heap.size (.agg #[.int .i64 WB, .slice adB nB capB]) (WB, MB) := ⟨_, rfl, hwB, _, _, _, rfl, sB⟩
  have frm := Below.refl w.heap.size w
  have kA := Blk.new w (.int .i64 WA) (.slice adA nA capA) 44
  replace frm := frm.alloc (by first | exact Nat.le_refl _ | (simp; done) | (simp; omega)) (.cells #[.int .i64 WA, .slice adA nA capA] 44)
  have kB := Blk.new (w.alloc (.cells #[.int .i64 WA, .slice adA nA capA] 44)) (.int .i64 WB) (.slice adB nB capB) 44
  rw [World.size_alloc] at kB
  replace kA := kA.alloc (.cells #[.int .i64 WB, .slice adB nB capB] 44)
  replace frm := frm.alloc (by first | exact Nat.le_refl _ | (simp; done) | (simp; omega)) (.cells #[.int .i64 WB, .slice adB nB capB] 44)
  replace sA := GenerationI_below sA frm (.inr (Nat.le_refl _))
  replace sB := GenerationI_below sB frm (.inr (Nat.le_refl _))
  have cA0 := kA.c0
  have cA1 := kA.c1
  have cB0 := kB.c0
  have cB1 := kB.c1
  have zw : ((w.alloc (.cells #[.int .i64 WA, .slice adA nA capA] 44)).alloc (.cells #[.int .i64 WB, .slice adB nB capB] 44)).heap.size = w.heap.size + 1 + 1 := by simp
  go_enter Try.func12, Try.ntmps12
  go_wp2_with fail
  go_at_call 29
  generalize (w.alloc (.cells #[.int .i64 WA, .slice adA nA capA] 44)).alloc (.cells #[.int .i64 WB, .slice adB nB capB] 44) = y0 at *
  refine (szGeneration sA 1048576 (by omega) (by omega)).mono ?_
  rintro e wsA ⟨leftA, rfl, leA, riA, fA, bl⟩
  have zsA := bl.size
  replace sA := GenerationI_below sA bl (by omega)
  replace sB := GenerationI_below sB bl (by omega)
  replace kA := kA.below bl (by omega)
  clear cA0 cA1
  have cA0 := kA.c0
  have cA1 := kA.c1
  replace kB := kB.below bl (by omega)
  clear cB0 cB1
  have cB0 := kB.c0
  have cB1 := kB.c1
  replace frm := frm.trans (bl.mono (by omega))
  clear bl
  by_cases hlA : 0 ≤ leftA
  case neg =>
    clear fA
    go_wp2
    go_ret
    exact ⟨rfl, frm⟩
  replace fA := fA hlA
  go_wp2_with fail
  go_at_call 29
  refine (szGeneration sB leftA (by omega) (by omega)).mono ?_
  rintro e wsB ⟨leftB, rfl, leB, riB, fB, bl⟩
  have zsB := bl.size
  replace sA := GenerationI_below sA bl (by omega)
  replace sB := GenerationI_below sB bl (by omega)
  replace kA := kA.below bl (by omega)
  clear cA0 cA1
  have cA0 := kA.c0
  have cA1 := kA.c1
  replace kB := kB.below bl (by omega)
  clear cB0 cB1
  have cB0 := kB.c0
  have cB1 := kB.c1
  replace frm := frm.trans (bl.mono (by omega))
  clear bl
  by_cases hlB : 0 ≤ leftB
  case neg =>
    clear fB
    go_wp2
    go_ret
    exact ⟨rfl, frm⟩
  replace fB := fB hlB
  have cS := fun (w' : World) (lA hA : Nat) (uA : Value) (sA : GenerationI w' lA hA uA (WA, MA)) (lB hB : Nat) (uB : Value) (sB : GenerationI w' lB hB uB (WB, MB)) => GenW.eqGenS w' sA fA sB fB
  have cI := fun (w' : World) (lA hA : Nat) (uA : Value) (sA : GenerationI w' lA hA uA (WA, MA)) (lB hB : Nat) (uB : Value) (sB : GenerationI w' lB hB uB (WB, MB)) => GenI.eqGen w' sA fA sB fB
  try dsimp only at cS cI
  generalize hR : (Gen.sameG (WA, MA) (WB, MB)) = R at cS cI
  clear hR
  have HS := Lib.hid cS
  have HI := Lib.hid cI
  clear cS cI
  have hkA := GenerationC_le fA
  have hkB := GenerationC_le fB
  go_wp2
  replace sA := GenerationI_mv sA (Mv.drew (Mv.refl wsB 0 0)) (.inr (Nat.zero_le _))
  replace sB := GenerationI_mv sB (Mv.drew (Mv.refl wsB 0 0)) (.inr (Nat.zero_le _))
  replace kA : Blk wsB.drew (w.heap.size) _ (.int .i64 WA) (.slice adA nA capA) := ⟨kA.obj⟩
  clear cA0 cA1
  have cA0 := kA.c0
  have cA1 := kA.c1
  replace kB : Blk wsB.drew (w.heap.size + 1) _ (.int .i64 WB) (.slice adB nB capB) := ⟨kB.obj⟩
  clear cB0 cB1
  have cB0 := kB.c0
  have cB1 := kB.c1
  replace frm := frm.drew
  have zd : wsB.heap.size = wsB.drew.heap.size := rfl
  refine wp_region_held (S := fun w' => w'.cell? ⟨w.heap.size, 0, none⟩ = some (.int .i64 WA) ∧ w'.cell? ⟨w.heap.size, 1, none⟩ = some (.slice adA nA capA) ∧ w'.cell? ⟨w.heap.size + 1, 0, none⟩ = some (.int .i64 WB) ∧ w'.cell? ⟨w.heap.size + 1, 1, none⟩ = some (.slice adB nB capB)) (by kernel_rfl) ?_
  change wpAnyH _ _ _ _ _ _ _ _ wsB.drew
  generalize wsB.drew = d0 at *
  have HH := Lib.hid (show d0.cell? ⟨w.heap.size, 0, none⟩ = some (.int .i64 WA) ∧ d0.cell? ⟨w.heap.size, 1, none⟩ = some (.slice adA nA capA) ∧ d0.cell? ⟨w.heap.size + 1, 0, none⟩ = some (.int .i64 WB) ∧ d0.cell? ⟨w.heap.size + 1, 1, none⟩ = some (.slice adB nB capB) from ⟨cA0, cA1, cB0, cB1⟩)
  refine wpAnyH_take (i := 0) (oi := ⟨some _, _, _, _, _, _⟩) (v := ?_) rfl (by kernel_rfl) (by kernel_rfl) (by kernel_rfl) (fun _ _ _ h => h) (Or.inl ⟨by rfl, ?_⟩) HH.out ?_
  rotate_left
  · intro wS hSw
    try dsimp only at hSw
    go_simp
    all_goals (with_reducible rfl)
  simp only [Act.put, List.setIfInBounds_toArray, List.set_cons_zero, List.set_cons_succ]
  refine wpAnyH_take (i := 2) (oi := ⟨some _, _, _, _, _, _⟩) (v := ?_) rfl (by kernel_rfl) (by kernel_rfl) (by kernel_rfl) (fun _ _ _ h => h) (Or.inl ⟨by rfl, ?_⟩) HH.out ?_
  rotate_left
  · intro wS hSw
    try dsimp only at hSw
    go_simp
    all_goals (with_reducible rfl)
  simp only [Act.put, List.setIfInBounds_toArray, List.set_cons_zero, List.set_cons_succ]
  clear HH
  refine wpAnyH_ready (rs := [1]) (by kernel_rfl) (by simp) ?_
  refine AllReadyH.cons (o := ⟨some _, _, _, _, _, _⟩) rfl (fun Kq hKq => ?_) AllReadyH.nil
  go_simp
  refine (toGeneration sA fA).mono ?_
  rintro e w1 ⟨u1, rfl, r1, bl⟩
  have z1 := bl.size
  replace sA := GenerationI_below sA bl (by omega)
  replace sB := GenerationI_below sB bl (by omega)
  replace kA := kA.below bl (by omega)
  clear cA0 cA1
  have cA0 := kA.c0
  have cA1 := kA.c1
  replace kB := kB.below bl (by omega)
  clear cB0 cB1
  have cB0 := kB.c0
  have cB1 := kB.c1
  replace frm := frm.trans (bl.mono (by omega))
  clear bl
  obtain ⟨_, rfl, hw1, ad1, n1, cap1, us1, rfl, r1⟩ := r1
  replace r1 : GenerationO w1 _ _ (.agg #[.int .i64 WA, .slice ad1 n1 cap1]) (WA, MA) := ⟨_, rfl, hw1, _, _, _, _, rfl, r1⟩
  have HH := Lib.hid (show w1.cell? ⟨w.heap.size, 0, none⟩ = some (.int .i64 WA) ∧ w1.cell? ⟨w.heap.size, 1, none⟩ = some (.slice adA nA capA) ∧ w1.cell? ⟨w.heap.size + 1, 0, none⟩ = some (.int .i64 WB) ∧ w1.cell? ⟨w.heap.size + 1, 1, none⟩ = some (.slice adB nB capB) from ⟨cA0, cA1, cB0, cB1⟩)
  refine hKq.out _ _ HH.out (fun _ => ?_)
  clear hKq Kq
  clear HH
  refine wpAnyH_ready (rs := [3]) (by kernel_rfl) (by simp) ?_
  refine AllReadyH.cons (o := ⟨some _, _, _, _, _, _⟩) rfl (fun Kq hKq => ?_) AllReadyH.nil
  go_simp
  refine (toGeneration sB fB).mono ?_
  rintro e w2 ⟨u2, rfl, r2, bl⟩
  have z2 := bl.size
  replace sA := GenerationI_below sA bl (by omega)
  replace sB := GenerationI_below sB bl (by omega)
  replace r1 := GenerationO_below r1 bl (by omega)
  replace kA := kA.below bl (by omega)
  clear cA0 cA1
  have cA0 := kA.c0
  have cA1 := kA.c1
  replace kB := kB.below bl (by omega)
  clear cB0 cB1
  have cB0 := kB.c0
  have cB1 := kB.c1
  replace frm := frm.trans (bl.mono (by omega))
  clear bl
  obtain ⟨_, rfl, hw2, ad2, n2, cap2, us2, rfl, r2⟩ := r2
  replace r2 : GenerationO w2 _ _ (.agg #[.int .i64 WB, .slice ad2 n2 cap2]) (WB, MB) := ⟨_, rfl, hw2, _, _, _, _, rfl, r2⟩
  have HH := Lib.hid (show w2.cell? ⟨w.heap.size, 0, none⟩ = some (.int .i64 WA) ∧ w2.cell? ⟨w.heap.size, 1, none⟩ = some (.slice adA nA capA) ∧ w2.cell? ⟨w.heap.size + 1, 0, none⟩ = some (.int .i64 WB) ∧ w2.cell? ⟨w.heap.size + 1, 1, none⟩ = some (.slice adB nB capB) from ⟨cA0, cA1, cB0, cB1⟩)
  refine hKq.out _ _ HH.out (fun _ => ?_)
  clear hKq Kq
  clear HH
  refine wpAnyH_ready (rs := [4]) (by kernel_rfl) (by simp) ?_
  refine AllReadyH.cons (o := ⟨some _, _, _, _, _, _⟩) rfl (fun Kq hKq => ?_) AllReadyH.nil
  go_simp
  refine (HS.out _ _ _ _ (GenerationO_is r1) _ _ _ (GenerationO_is r2)).mono ?_
  rintro e w3 ⟨rfl, bl⟩
  have z3 := bl.size
  replace sA := GenerationI_below sA bl (by omega)
  replace sB := GenerationI_below sB bl (by omega)
  replace kA := kA.below bl (by omega)
  clear cA0 cA1
  have cA0 := kA.c0
  have cA1 := kA.c1
  replace kB := kB.below bl (by omega)
  clear cB0 cB1
  have cB0 := kB.c0
  have cB1 := kB.c1
  replace frm := frm.trans (bl.mono (by omega))
  clear bl
  have HH := Lib.hid (show w3.cell? ⟨w.heap.size, 0, none⟩ = some (.int .i64 WA) ∧ w3.cell? ⟨w.heap.size, 1, none⟩ = some (.slice adA nA capA) ∧ w3.cell? ⟨w.heap.size + 1, 0, none⟩ = some (.int .i64 WB) ∧ w3.cell? ⟨w.heap.size + 1, 1, none⟩ = some (.slice adB nB capB) from ⟨cA0, cA1, cB0, cB1⟩)
  refine hKq.out _ _ HH.out (fun _ => ?_)
  clear hKq Kq
  try simp only [Act.put, List.setIfInBounds_toArray, List.set_cons_zero, List.set_cons_succ]
  refine wpAnyH_take (i := 5) (oi := ⟨some _, _, _, _, _, _⟩) (v := ?_) rfl (by kernel_rfl) (by kernel_rfl) (by kernel_rfl) (fun _ _ _ h => h) (Or.inl ⟨by rfl, ?_⟩) HH.out ?_
  rotate_left
  · intro wS hSw
    try dsimp only at hSw
    go_simp
    all_goals (with_reducible rfl)
  simp only [Act.put, List.setIfInBounds_toArray, List.set_cons_zero, List.set_cons_succ]
  refine wpAnyH_done (by kernel_rfl) ?_ _
  clear HH
  clear r1
  clear r2
  go_wp2_with fail
  go_at_call 31
  refine (toGeneration sA fA).mono ?_
  rintro e w4 ⟨u4, rfl, r4, bl⟩
  have z4 := bl.size
  replace sA := GenerationI_below sA bl (by omega)
  replace sB := GenerationI_below sB bl (by omega)
  replace kA := kA.below bl (by omega)
  clear cA0 cA1
  have cA0 := kA.c0
  have cA1 := kA.c1
  replace kB := kB.below bl (by omega)
  clear cB0 cB1
  have cB0 := kB.c0
  have cB1 := kB.c1
  replace frm := frm.trans (bl.mono (by omega))
  clear bl
  obtain ⟨_, rfl, hw4, ad4, n4, cap4, us4, rfl, r4⟩ := r4
  replace r4 : GenerationO w4 _ _ (.agg #[.int .i64 WA, .slice ad4 n4 cap4]) (WA, MA) := ⟨_, rfl, hw4, _, _, _, _, rfl, r4⟩
  have kx0 := Blk.new w4 (.int .i64 WA) (.slice ad4 n4 cap4) 34
  have hb := below_box w4 (.cells #[.int .i64 WA, .slice ad4 n4 cap4] 34)
  have zb4 : (w4.alloc (.cells #[.int .i64 WA, .slice ad4 n4 cap4] 34)).heap.size = w4.heap.size + 1 := by simp
  replace sA := GenerationI_below sA hb (.inr (Nat.le_refl _))
  replace sB := GenerationI_below sB hb (.inr (Nat.le_refl _))
  replace r4 := GenerationO_below r4 hb (.inr (Nat.le_refl _))
  replace kA := kA.alloc (.cells #[.int .i64 WA, .slice ad4 n4 cap4] 34)
  clear cA0 cA1
  have cA0 := kA.c0
  have cA1 := kA.c1
  replace kB := kB.alloc (.cells #[.int .i64 WA, .slice ad4 n4 cap4] 34)
  clear cB0 cB1
  have cB0 := kB.c0
  have cB1 := kB.c1
  replace frm := frm.trans (hb.mono (by omega))
  clear hb
  have cx00 := kx0.c0
  have cx01 := kx0.c1
  go_wp2_with fail
  go_at_call 31
  generalize w4.alloc (.cells #[.int .i64 WA, .slice ad4 n4 cap4] 34) = y1 at *
  refine (toGeneration sB fB).mono ?_
  rintro e w5 ⟨u5, rfl, r5, bl⟩
  have z5 := bl.size
  replace sA := GenerationI_below sA bl (by omega)
  replace sB := GenerationI_below sB bl (by omega)
  replace r4 := GenerationO_below r4 bl (by omega)
  replace kA := kA.below bl (by omega)
  clear cA0 cA1
  have cA0 := kA.c0
  have cA1 := kA.c1
  replace kB := kB.below bl (by omega)
  clear cB0 cB1
  have cB0 := kB.c0
  have cB1 := kB.c1
  replace kx0 := kx0.below bl (by omega)
  clear cx00 cx01
  have cx00 := kx0.c0
  have cx01 := kx0.c1
  replace frm := frm.trans (bl.mono (by omega))
  clear bl
  obtain ⟨_, rfl, hw5, ad5, n5, cap5, us5, rfl, r5⟩ := r5
  replace r5 : GenerationO w5 _ _ (.agg #[.int .i64 WB, .slice ad5 n5 cap5]) (WB, MB) := ⟨_, rfl, hw5, _, _, _, _, rfl, r5⟩
  have kx1 := Blk.new w5 (.int .i64 WB) (.slice ad5 n5 cap5) 34
  have hb := below_box w5 (.cells #[.int .i64 WB, .slice ad5 n5 cap5] 34)
  have zb5 : (w5.alloc (.cells #[.int .i64 WB, .slice ad5 n5 cap5] 34)).heap.size = w5.heap.size + 1 := by simp
  replace sA := GenerationI_below sA hb (.inr (Nat.le_refl _))
  replace sB := GenerationI_below sB hb (.inr (Nat.le_refl _))
  replace r4 := GenerationO_below r4 hb (.inr (Nat.le_refl _))
  replace r5 := GenerationO_below r5 hb (.inr (Nat.le_refl _))
  replace kA := kA.alloc (.cells #[.int .i64 WB, .slice ad5 n5 cap5] 34)
  clear cA0 cA1
  have cA0 := kA.c0
  have cA1 := kA.c1
  replace kB := kB.alloc (.cells #[.int .i64 WB, .slice ad5 n5 cap5] 34)
  clear cB0 cB1
  have cB0 := kB.c0
  have cB1 := kB.c1
  replace kx0 := kx0.alloc (.cells #[.int .i64 WB, .slice ad5 n5 cap5] 34)
  clear cx00 cx01
  have cx00 := kx0.c0
  have cx01 := kx0.c1
  replace frm := frm.trans (hb.mono (by omega))
  clear hb
  have cx10 := kx1.c0
  have cx11 := kx1.c1
  go_wp2_with fail
  go_at_call 52
  generalize w5.alloc (.cells #[.int .i64 WB, .slice ad5 n5 cap5] 34) = y2 at *
  refine (HI.out _ _ _ _ (GenerationO_is r4) _ _ _ (GenerationO_is r5)).mono ?_
  rintro e w6 ⟨rfl, bl⟩
  have z6 := bl.size
  replace sA := GenerationI_below sA bl (by omega)
  replace sB := GenerationI_below sB bl (by omega)
  replace r4 := GenerationO_below r4 bl (by omega)
  replace r5 := GenerationO_below r5 bl (by omega)
  replace kA := kA.below bl (by omega)
  clear cA0 cA1
  have cA0 := kA.c0
  have cA1 := kA.c1
  replace kB := kB.below bl (by omega)
  clear cB0 cB1
  have cB0 := kB.c0
  have cB1 := kB.c1
  replace kx0 := kx0.below bl (by omega)
  clear cx00 cx01
  have cx00 := kx0.c0
  have cx01 := kx0.c1
  replace kx1 := kx1.below bl (by omega)
  clear cx10 cx11
  have cx10 := kx1.c0
  have cx11 := kx1.c1
  replace frm := frm.trans (bl.mono (by omega))
  clear bl
  go_wp2
  replace sA := GenerationI_mv sA (Mv.drew (Mv.refl w6 0 0)) (.inr (Nat.zero_le _))
  replace sB := GenerationI_mv sB (Mv.drew (Mv.refl w6 0 0)) (.inr (Nat.zero_le _))
  replace r4 := GenerationO_mv r4 (Mv.drew (Mv.refl w6 0 0)) (.inr (Nat.zero_le _))
  replace r5 := GenerationO_mv r5 (Mv.drew (Mv.refl w6 0 0)) (.inr (Nat.zero_le _))
  replace kA : Blk w6.drew (w.heap.size) _ (.int .i64 WA) (.slice adA nA capA) := ⟨kA.obj⟩
  clear cA0 cA1
  have cA0 := kA.c0
  have cA1 := kA.c1
  replace kB : Blk w6.drew (w.heap.size + 1) _ (.int .i64 WB) (.slice adB nB capB) := ⟨kB.obj⟩
  clear cB0 cB1
  have cB0 := kB.c0
  have cB1 := kB.c1
  replace kx0 : Blk w6.drew (w4.heap.size) _ (.int .i64 WA) (.slice ad4 n4 cap4) := ⟨kx0.obj⟩
  clear cx00 cx01
  have cx00 := kx0.c0
  have cx01 := kx0.c1
  replace kx1 : Blk w6.drew (w5.heap.size) _ (.int .i64 WB) (.slice ad5 n5 cap5) := ⟨kx1.obj⟩
  clear cx10 cx11
  have cx10 := kx1.c0
  have cx11 := kx1.c1
  replace frm := frm.drew
  have zd : w6.heap.size = w6.drew.heap.size := rfl
  refine wp_region_held (S := fun w' => w'.cell? ⟨w.heap.size, 0, none⟩ = some (.int .i64 WA) ∧ w'.cell? ⟨w.heap.size, 1, none⟩ = some (.slice adA nA capA) ∧ w'.cell? ⟨w.heap.size + 1, 0, none⟩ = some (.int .i64 WB) ∧ w'.cell? ⟨w.heap.size + 1, 1, none⟩ = some (.slice adB nB capB) ∧ w'.cell? ⟨w4.heap.size, 0, none⟩ = some (.int .i64 WA) ∧ w'.cell? ⟨w4.heap.size, 1, none⟩ = some (.slice ad4 n4 cap4) ∧ w'.cell? ⟨w5.heap.size, 0, none⟩ = some (.int .i64 WB) ∧ w'.cell? ⟨w5.heap.size, 1, none⟩ = some (.slice ad5 n5 cap5)) (by kernel_rfl) ?_
  change wpAnyH _ _ _ _ _ _ _ _ w6.drew
  generalize w6.drew = d0 at *
  have HH := Lib.hid (show d0.cell? ⟨w.heap.size, 0, none⟩ = some (.int .i64 WA) ∧ d0.cell? ⟨w.heap.size, 1, none⟩ = some (.slice adA nA capA) ∧ d0.cell? ⟨w.heap.size + 1, 0, none⟩ = some (.int .i64 WB) ∧ d0.cell? ⟨w.heap.size + 1, 1, none⟩ = some (.slice adB nB capB) ∧ d0.cell? ⟨w4.heap.size, 0, none⟩ = some (.int .i64 WA) ∧ d0.cell? ⟨w4.heap.size, 1, none⟩ = some (.slice ad4 n4 cap4) ∧ d0.cell? ⟨w5.heap.size, 0, none⟩ = some (.int .i64 WB) ∧ d0.cell? ⟨w5.heap.size, 1, none⟩ = some (.slice ad5 n5 cap5) from ⟨cA0, cA1, cB0, cB1, cx00, cx01, cx10, cx11⟩)
  refine wpAnyH_take (i := 0) (oi := ⟨some _, _, _, _, _, _⟩) (v := ?_) rfl (by kernel_rfl) (by kernel_rfl) (by kernel_rfl) (fun _ _ _ h => h) (Or.inl ⟨by rfl, ?_⟩) HH.out ?_
  rotate_left
  · intro wS hSw
    try dsimp only at hSw
    go_simp
    all_goals (with_reducible rfl)
  simp only [Act.put, List.setIfInBounds_toArray, List.set_cons_zero, List.set_cons_succ]
  refine wpAnyH_take (i := 1) (oi := ⟨some _, _, _, _, _, _⟩) (v := ?_) rfl (by kernel_rfl) (by kernel_rfl) (by kernel_rfl) (fun _ _ _ h => h) (Or.inl ⟨by rfl, ?_⟩) HH.out ?_
  rotate_left
  · intro wS hSw
    try dsimp only at hSw
    go_simp
    all_goals (with_reducible rfl)
  simp only [Act.put, List.setIfInBounds_toArray, List.set_cons_zero, List.set_cons_succ]
  clear HH
  refine wpAnyH_ready (rs := [2]) (by kernel_rfl) (by simp) ?_
  refine AllReadyH.cons (o := ⟨some _, _, _, _, _, _⟩) rfl (fun Kq hKq => ?_) AllReadyH.nil
  go_simp
  refine (toGeneration sA fA).mono ?_
  rintro e w7 ⟨u7, rfl, r7, bl⟩
  have z7 := bl.size
  replace sB := GenerationI_below sB bl (by omega)
  replace r4 := GenerationO_below r4 bl (by omega)
  replace r5 := GenerationO_below r5 bl (by omega)
  replace kA := kA.below bl (by omega)
  clear cA0 cA1
  have cA0 := kA.c0
  have cA1 := kA.c1
  replace kB := kB.below bl (by omega)
  clear cB0 cB1
  have cB0 := kB.c0
  have cB1 := kB.c1
  replace kx0 := kx0.below bl (by omega)
  clear cx00 cx01
  have cx00 := kx0.c0
  have cx01 := kx0.c1
  replace kx1 := kx1.below bl (by omega)
  clear cx10 cx11
  have cx10 := kx1.c0
  have cx11 := kx1.c1
  replace frm := frm.trans (bl.mono (by omega))
  clear bl
  obtain ⟨_, rfl, hw7, ad7, n7, cap7, us7, rfl, r7⟩ := r7
  replace r7 : GenerationO w7 _ _ (.agg #[.int .i64 WA, .slice ad7 n7 cap7]) (WA, MA) := ⟨_, rfl, hw7, _, _, _, _, rfl, r7⟩
  have HH := Lib.hid (show w7.cell? ⟨w.heap.size, 0, none⟩ = some (.int .i64 WA) ∧ w7.cell? ⟨w.heap.size, 1, none⟩ = some (.slice adA nA capA) ∧ w7.cell? ⟨w.heap.size + 1, 0, none⟩ = some (.int .i64 WB) ∧ w7.cell? ⟨w.heap.size + 1, 1, none⟩ = some (.slice adB nB capB) ∧ w7.cell? ⟨w4.heap.size, 0, none⟩ = some (.int .i64 WA) ∧ w7.cell? ⟨w4.heap.size, 1, none⟩ = some (.slice ad4 n4 cap4) ∧ w7.cell? ⟨w5.heap.size, 0, none⟩ = some (.int .i64 WB) ∧ w7.cell? ⟨w5.heap.size, 1, none⟩ = some (.slice ad5 n5 cap5) from ⟨cA0, cA1, cB0, cB1, cx00, cx01, cx10, cx11⟩)
  refine hKq.out _ _ HH.out (fun _ => ?_)
  clear hKq Kq
  clear HH
  refine wpAnyH_ready (rs := [3]) (by kernel_rfl) (by simp) ?_
  refine AllReadyH.cons (o := ⟨some _, _, _, _, _, _⟩) rfl (fun Kq hKq => ?_) AllReadyH.nil
  go_simp
  refine (eqGeneration (GenerationO_is r4) (GenerationO_is r7) fA rfl).mono ?_
  rintro e w8 ⟨rfl, bl⟩
  have z8 := bl.size
  replace sB := GenerationI_below sB bl (by omega)
  replace r5 := GenerationO_below r5 bl (by omega)
  replace kA := kA.below bl (by omega)
  clear cA0 cA1
  have cA0 := kA.c0
  have cA1 := kA.c1
  replace kB := kB.below bl (by omega)
  clear cB0 cB1
  have cB0 := kB.c0
  have cB1 := kB.c1
  replace kx0 := kx0.below bl (by omega)
  clear cx00 cx01
  have cx00 := kx0.c0
  have cx01 := kx0.c1
  replace kx1 := kx1.below bl (by omega)
  clear cx10 cx11
  have cx10 := kx1.c0
  have cx11 := kx1.c1
  replace frm := frm.trans (bl.mono (by omega))
  clear bl
  have HH := Lib.hid (show w8.cell? ⟨w.heap.size, 0, none⟩ = some (.int .i64 WA) ∧ w8.cell? ⟨w.heap.size, 1, none⟩ = some (.slice adA nA capA) ∧ w8.cell? ⟨w.heap.size + 1, 0, none⟩ = some (.int .i64 WB) ∧ w8.cell? ⟨w.heap.size + 1, 1, none⟩ = some (.slice adB nB capB) ∧ w8.cell? ⟨w4.heap.size, 0, none⟩ = some (.int .i64 WA) ∧ w8.cell? ⟨w4.heap.size, 1, none⟩ = some (.slice ad4 n4 cap4) ∧ w8.cell? ⟨w5.heap.size, 0, none⟩ = some (.int .i64 WB) ∧ w8.cell? ⟨w5.heap.size, 1, none⟩ = some (.slice ad5 n5 cap5) from ⟨cA0, cA1, cB0, cB1, cx00, cx01, cx10, cx11⟩)
  refine hKq.out _ _ HH.out (fun _ => ?_)
  clear hKq Kq
  try simp only [Act.put, List.setIfInBounds_toArray, List.set_cons_zero, List.set_cons_succ]
  refine wpAnyH_take (i := 4) (oi := ⟨some _, _, _, _, _, _⟩) (v := ?_) rfl (by kernel_rfl) (by kernel_rfl) (by kernel_rfl) (fun _ _ _ h => h) (Or.inl ⟨by rfl, ?_⟩) HH.out ?_
  rotate_left
  · intro wS hSw
    try dsimp only at hSw
    go_simp
    all_goals (with_reducible rfl)
  simp only [Act.put, List.setIfInBounds_toArray, List.set_cons_zero, List.set_cons_succ]
  refine wpAnyH_done (by kernel_rfl) ?_ _
  clear HH
  clear r4
  clear r7
  go_wp2
  replace sB := GenerationI_mv sB (Mv.drew (Mv.refl w8 0 0)) (.inr (Nat.zero_le _))
  replace r5 := GenerationO_mv r5 (Mv.drew (Mv.refl w8 0 0)) (.inr (Nat.zero_le _))
  replace kA : Blk w8.drew (w.heap.size) _ (.int .i64 WA) (.slice adA nA capA) := ⟨kA.obj⟩
  clear cA0 cA1
  have cA0 := kA.c0
  have cA1 := kA.c1
  replace kB : Blk w8.drew (w.heap.size + 1) _ (.int .i64 WB) (.slice adB nB capB) := ⟨kB.obj⟩
  clear cB0 cB1
  have cB0 := kB.c0
  have cB1 := kB.c1
  replace kx0 : Blk w8.drew (w4.heap.size) _ (.int .i64 WA) (.slice ad4 n4 cap4) := ⟨kx0.obj⟩
  clear cx00 cx01
  have cx00 := kx0.c0
  have cx01 := kx0.c1
  replace kx1 : Blk w8.drew (w5.heap.size) _ (.int .i64 WB) (.slice ad5 n5 cap5) := ⟨kx1.obj⟩
  clear cx10 cx11
  have cx10 := kx1.c0
  have cx11 := kx1.c1
  replace frm := frm.drew
  have zd : w8.heap.size = w8.drew.heap.size := rfl
  refine wp_region_held (S := fun w' => w'.cell? ⟨w.heap.size, 0, none⟩ = some (.int .i64 WA) ∧ w'.cell? ⟨w.heap.size, 1, none⟩ = some (.slice adA nA capA) ∧ w'.cell? ⟨w.heap.size + 1, 0, none⟩ = some (.int .i64 WB) ∧ w'.cell? ⟨w.heap.size + 1, 1, none⟩ = some (.slice adB nB capB) ∧ w'.cell? ⟨w4.heap.size, 0, none⟩ = some (.int .i64 WA) ∧ w'.cell? ⟨w4.heap.size, 1, none⟩ = some (.slice ad4 n4 cap4) ∧ w'.cell? ⟨w5.heap.size, 0, none⟩ = some (.int .i64 WB) ∧ w'.cell? ⟨w5.heap.size, 1, none⟩ = some (.slice ad5 n5 cap5)) (by kernel_rfl) ?_
  change wpAnyH _ _ _ _ _ _ _ _ w8.drew
  generalize w8.drew = d0 at *
  have HH := Lib.hid (show d0.cell? ⟨w.heap.size, 0, none⟩ = some (.int .i64 WA) ∧ d0.cell? ⟨w.heap.size, 1, none⟩ = some (.slice adA nA capA) ∧ d0.cell? ⟨w.heap.size + 1, 0, none⟩ = some (.int .i64 WB) ∧ d0.cell? ⟨w.heap.size + 1, 1, none⟩ = some (.slice adB nB capB) ∧ d0.cell? ⟨w4.heap.size, 0, none⟩ = some (.int .i64 WA) ∧ d0.cell? ⟨w4.heap.size, 1, none⟩ = some (.slice ad4 n4 cap4) ∧ d0.cell? ⟨w5.heap.size, 0, none⟩ = some (.int .i64 WB) ∧ d0.cell? ⟨w5.heap.size, 1, none⟩ = some (.slice ad5 n5 cap5) from ⟨cA0, cA1, cB0, cB1, cx00, cx01, cx10, cx11⟩)
  refine wpAnyH_take (i := 0) (oi := ⟨some _, _, _, _, _, _⟩) (v := ?_) rfl (by kernel_rfl) (by kernel_rfl) (by kernel_rfl) (fun _ _ _ h => h) (Or.inl ⟨by rfl, ?_⟩) HH.out ?_
  rotate_left
  · intro wS hSw
    try dsimp only at hSw
    go_simp
    all_goals (with_reducible rfl)
  simp only [Act.put, List.setIfInBounds_toArray, List.set_cons_zero, List.set_cons_succ]
  refine wpAnyH_take (i := 1) (oi := ⟨some _, _, _, _, _, _⟩) (v := ?_) rfl (by kernel_rfl) (by kernel_rfl) (by kernel_rfl) (fun _ _ _ h => h) (Or.inl ⟨by rfl, ?_⟩) HH.out ?_
  rotate_left
  · intro wS hSw
    try dsimp only at hSw
    go_simp
    all_goals (with_reducible rfl)
  simp only [Act.put, List.setIfInBounds_toArray, List.set_cons_zero, List.set_cons_succ]
  clear HH
  refine wpAnyH_ready (rs := [2]) (by kernel_rfl) (by simp) ?_
  refine AllReadyH.cons (o := ⟨some _, _, _, _, _, _⟩) rfl (fun Kq hKq => ?_) AllReadyH.nil
  go_simp
  refine (toGeneration sB fB).mono ?_
  rintro e w9 ⟨u9, rfl, r9, bl⟩
  have z9 := bl.size
  replace r5 := GenerationO_below r5 bl (by omega)
  replace kA := kA.below bl (by omega)
  clear cA0 cA1
  have cA0 := kA.c0
  have cA1 := kA.c1
  replace kB := kB.below bl (by omega)
  clear cB0 cB1
  have cB0 := kB.c0
  have cB1 := kB.c1
  replace kx0 := kx0.below bl (by omega)
  clear cx00 cx01
  have cx00 := kx0.c0
  have cx01 := kx0.c1
  replace kx1 := kx1.below bl (by omega)
  clear cx10 cx11
  have cx10 := kx1.c0
  have cx11 := kx1.c1
  replace frm := frm.trans (bl.mono (by omega))
  clear bl
  obtain ⟨_, rfl, hw9, ad9, n9, cap9, us9, rfl, r9⟩ := r9
  replace r9 : GenerationO w9 _ _ (.agg #[.int .i64 WB, .slice ad9 n9 cap9]) (WB, MB) := ⟨_, rfl, hw9, _, _, _, _, rfl, r9⟩
  have HH := Lib.hid (show w9.cell? ⟨w.heap.size, 0, none⟩ = some (.int .i64 WA) ∧ w9.cell? ⟨w.heap.size, 1, none⟩ = some (.slice adA nA capA) ∧ w9.cell? ⟨w.heap.size + 1, 0, none⟩ = some (.int .i64 WB) ∧ w9.cell? ⟨w.heap.size + 1, 1, none⟩ = some (.slice adB nB capB) ∧ w9.cell? ⟨w4.heap.size, 0, none⟩ = some (.int .i64 WA) ∧ w9.cell? ⟨w4.heap.size, 1, none⟩ = some (.slice ad4 n4 cap4) ∧ w9.cell? ⟨w5.heap.size, 0, none⟩ = some (.int .i64 WB) ∧ w9.cell? ⟨w5.heap.size, 1, none⟩ = some (.slice ad5 n5 cap5) from ⟨cA0, cA1, cB0, cB1, cx00, cx01, cx10, cx11⟩)
  refine hKq.out _ _ HH.out (fun _ => ?_)
  clear hKq Kq
  clear HH
  refine wpAnyH_ready (rs := [3]) (by kernel_rfl) (by simp) ?_
  refine AllReadyH.cons (o := ⟨some _, _, _, _, _, _⟩) rfl (fun Kq hKq => ?_) AllReadyH.nil
  go_simp
  refine (eqGeneration (GenerationO_is r5) (GenerationO_is r9) fB rfl).mono ?_
  rintro e w10 ⟨rfl, bl⟩
  have z10 := bl.size
  replace kA := kA.below bl (by omega)
  clear cA0 cA1
  have cA0 := kA.c0
  have cA1 := kA.c1
  replace kB := kB.below bl (by omega)
  clear cB0 cB1
  have cB0 := kB.c0
  have cB1 := kB.c1
  replace kx0 := kx0.below bl (by omega)
  clear cx00 cx01
  have cx00 := kx0.c0
  have cx01 := kx0.c1
  replace kx1 := kx1.below bl (by omega)
  clear cx10 cx11
  have cx10 := kx1.c0
  have cx11 := kx1.c1
  replace frm := frm.trans (bl.mono (by omega))
  clear bl
  have HH := Lib.hid (show w10.cell? ⟨w.heap.size, 0, none⟩ = some (.int .i64 WA) ∧ w10.cell? ⟨w.heap.size, 1, none⟩ = some (.slice adA nA capA) ∧ w10.cell? ⟨w.heap.size + 1, 0, none⟩ = some (.int .i64 WB) ∧ w10.cell? ⟨w.heap.size + 1, 1, none⟩ = some (.slice adB nB capB) ∧ w10.cell? ⟨w4.heap.size, 0, none⟩ = some (.int .i64 WA) ∧ w10.cell? ⟨w4.heap.size, 1, none⟩ = some (.slice ad4 n4 cap4) ∧ w10.cell? ⟨w5.heap.size, 0, none⟩ = some (.int .i64 WB) ∧ w10.cell? ⟨w5.heap.size, 1, none⟩ = some (.slice ad5 n5 cap5) from ⟨cA0, cA1, cB0, cB1, cx00, cx01, cx10, cx11⟩)
  refine hKq.out _ _ HH.out (fun _ => ?_)
  clear hKq Kq
  try simp only [Act.put, List.setIfInBounds_toArray, List.set_cons_zero, List.set_cons_succ]
  refine wpAnyH_take (i := 4) (oi := ⟨some _, _, _, _, _, _⟩) (v := ?_) rfl (by kernel_rfl) (by kernel_rfl) (by kernel_rfl) (fun _ _ _ h => h) (Or.inl ⟨by rfl, ?_⟩) HH.out ?_
  rotate_left
  · intro wS hSw
    try dsimp only at hSw
    go_simp
    all_goals (with_reducible rfl)
  simp only [Act.put, List.setIfInBounds_toArray, List.set_cons_zero, List.set_cons_succ]
  refine wpAnyH_done (by kernel_rfl) ?_ _
  clear HH
  clear r5
  clear r9
  go_wp2
  go_ret
  exact ⟨rfl, frm⟩

end Go.Proofs.Ytkppkbafoeblhaa.LawGenEx
