/-
  FnBases: the law's own text walked, over the contracts of what it calls.
  FnSubspaces, FnOrthogonality, FnCoordinates: the laws' own text walked, over the contracts of what they call.
  The laws of chapter 9, the program's contracts filled in.
-/
import Derived.Test.YtefcfeikooknmaaGreatGM
import Derived.Test.YtefcfeikooknmaaGreatGH
import Derived.Test.YtefcfeikooknmaaGreatGC
import Derived.Test.YtefcfeikooknmaaGreatGP
import Derived.Test.YtefcfeikooknmaaGreatGQ
import Derived.Test.YtefcfeikooknmaaGreatGN
namespace Go.Proofs.YtefcfeikooknmaaGreat.LawBas
open Go.ChangeShapes Go.WideShapes Go.ChangeAt Go.RowKit
open Go.Proofs.YtefcfeikooknmaaGreat.MatP Go.Proofs.YtefcfeikooknmaaGreat.Rref Go.Proofs.YtefcfeikooknmaaGreat.Kit Go.Proofs.YtefcfeikooknmaaGreat.Seq Go.Proofs.YtefcfeikooknmaaGreat.Help Go.Proofs.YtefcfeikooknmaaGreat.Draw Go.Proofs.YtefcfeikooknmaaGreat.DrawInt Go.Proofs.YtefcfeikooknmaaGreat.DrawBas Go.Proofs.YtefcfeikooknmaaGreat.Drawn Go.Proofs.YtefcfeikooknmaaGreat.Field Go.Proofs.YtefcfeikooknmaaGreat.FieldW Go.Proofs.YtefcfeikooknmaaGreat.Vec Go.Proofs.YtefcfeikooknmaaGreat.VecW Go.Proofs.YtefcfeikooknmaaGreat.VecOps Go.Proofs.YtefcfeikooknmaaGreat.Mat Go.Proofs.YtefcfeikooknmaaGreat.RedW Go.Proofs.YtefcfeikooknmaaGreat.Shape Go.Proofs.YtefcfeikooknmaaGreat.Bas Go.Proofs.YtefcfeikooknmaaGreat.BasW

theorem bytes_at {w : World} {v : Value} {ad : Option Addr} {n cap : Nat} (h : IntsAt .u8 w v ad n cap) : BytesAt w v ad n cap :=
  ⟨h.val, Nat.le_trans h.len h.cap, fun j hj => by
    obtain ⟨a, x, e, f, hx⟩ := h.cells j hj
    obtain ⟨h0, h1⟩ := fits_u8.1 f
    exact ⟨a, x, e, h0, h1, hx⟩⟩
theorem sameB_self (W : Int) (rows : List (List Int)) : sameB W rows W rows = true := by unfold sameB MatW.sameM; simp
theorem small_insert {W : Int} {rows : List (List Int)} (v : List Int) (h : Tiny 41 rows) : Small (insertV W rows v) := by
  unfold insertV
  cases inserted W rows v
  · exact h.small (by omega)
  · have := few_rref (rows ++ [v])
    exact ⟨by show (rref (rows ++ [v])).length ≤ 1048576; omega, fun xs hx => by have := this.2 xs hx; omega⟩
theorem dim_le {W : Int} {rows : List (List Int)} (h : Tiny 41 rows) : 0 ≤ dimOf W rows ∧ dimOf W rows ≤ 41 := by
  unfold dimOf
  have := h.1
  cases isBas W rows
  · exact ⟨Int.le_refl _, by show (0 : Int) ≤ 41; omega⟩
  · exact ⟨by show (0 : Int) ≤ (rows.length : Int); omega, by show (rows.length : Int) ≤ 41; omega⟩
end Go.Proofs.YtefcfeikooknmaaGreat.LawBas
namespace Go.Proofs.YtefcfeikooknmaaGreat.LawSub
open Go.ChangeShapes Go.WideShapes Go.ChangeAt Go.RowKit
open Go.Proofs.YtefcfeikooknmaaGreat.MatP Go.Proofs.YtefcfeikooknmaaGreat.Lin Go.Proofs.YtefcfeikooknmaaGreat.Rref Go.Proofs.YtefcfeikooknmaaGreat.Kit Go.Proofs.YtefcfeikooknmaaGreat.Seq Go.Proofs.YtefcfeikooknmaaGreat.Help Go.Proofs.YtefcfeikooknmaaGreat.Draw Go.Proofs.YtefcfeikooknmaaGreat.DrawInt Go.Proofs.YtefcfeikooknmaaGreat.DrawBas Go.Proofs.YtefcfeikooknmaaGreat.Drawn Go.Proofs.YtefcfeikooknmaaGreat.Field Go.Proofs.YtefcfeikooknmaaGreat.FieldW Go.Proofs.YtefcfeikooknmaaGreat.Vec Go.Proofs.YtefcfeikooknmaaGreat.VecW Go.Proofs.YtefcfeikooknmaaGreat.VecOps Go.Proofs.YtefcfeikooknmaaGreat.Mat Go.Proofs.YtefcfeikooknmaaGreat.RedW Go.Proofs.YtefcfeikooknmaaGreat.Shape Go.Proofs.YtefcfeikooknmaaGreat.Bas Go.Proofs.YtefcfeikooknmaaGreat.BasW Go.Proofs.YtefcfeikooknmaaGreat.SubW

theorem form_of {k : Nat} {r : List (List Int)} (h : isBas (k : Int) r = true) : ∃ n R p, Bas.Form (k : Int) r k n R p := by
  obtain ⟨w, n, R, p, hf⟩ := bas_form h
  have e : (k : Int) = (w : Int) := hf.width
  obtain rfl : k = w := by omega
  exact ⟨n, R, p, hf⟩
set_option maxRecDepth 100000 in
set_option maxHeartbeats 6400000 in
theorem subspaces (cM : SumOp) (cI : InterOp) (cD : DimOp) (cU : SubOp) (cE : EqOp) (cN : InnovOp) (w : World) (v : Value) (ad : Option Addr) (n cap : Nat) (ia : IntsAt .u8 w v ad n cap) :
    Calls Tryz.prog 3 #[v] w fun e w' => e = .returned (.bool true) ∧ Below w.heap.size w w' := by
  have hv := LawBas.bytes_at ia
  obtain ⟨ds, rfl, sc⟩ := of_ints ia
  rcases Nat.lt_or_ge 1048576 n with big | big
  · go_enter Tryz.func3, Tryz.ntmps3
    go_wp2_with (go_at_call 6; refine (Same.big_yes _ _ _ _ big).mono ?_; rintro e w' ⟨rfl, rfl⟩)
    go_ret
    exact ⟨rfl, Below.refl _ _⟩
  have HM := Lib.hid cM
  have HI := Lib.hid cI
  have HD := Lib.hid cD
  have HU := Lib.hid cU
  have HE := Lib.hid cE
  have HN := Lib.hid cN
  clear cM cI cD cU cE cN
  go_enter Tryz.func3, Tryz.ntmps3
  go_wp2_with fail
  go_at_call 6
  refine (Same.big_no _ _ _ _ big).mono ?_
  rintro e w' ⟨rfl, rfl⟩
  go_wp2_with fail
  go_at_call 7
  refine (drawSpaces w _ ad n cap big hv).mono ?_
  rintro e w1 ⟨k, r1, r2, ad1, ad2, n1, cap1, n2, cap2, rfl, hk1, hk5, ⟨hT1, hV1⟩, ⟨hT2, hV2⟩, s1, s2, frm⟩
  have z1 := frm.size
  clear hv sc
  obtain ⟨na, RA, pa, fa⟩ := form_of hV1
  obtain ⟨nb, RB, pb, fb⟩ := form_of hV2
  obtain ⟨l1, l2, l3, l4, l5, l6, l7, l8⟩ := sub_law fa fb
  have hF1 : BasisF (k, r1) := hT1.small (by omega)
  have hF2 : BasisF (k, r2) := hT2.small (by omega)
  have hFS : BasisF (sumOf (k, r1) (k, r2)) := fit_sum hF1
  have hFI : BasisF (interOf (k, r1) (k, r2)) := fit_inter
  have hkb : -9223372036854775808 ≤ (k : Int) ∧ (k : Int) ≤ 9223372036854775807 := ⟨by omega, by omega⟩
  have dA := dim_in (W := k) hF1
  have dB := dim_in (W := k) hF2
  have dS := dim_in (W := (sumOf (k, r1) (k, r2)).1) hFS
  have dI := dim_in (W := (interOf (k, r1) (k, r2)).1) hFI
  -- what the calls answer
  have KM := Lib.hid (fun w' l h l' h' u u' (s : BasisI w' l h u (k, r1)) (s' : BasisI w' l' h' u' (k, r2)) => HM.out w' s hF1 s' hF2)
  have KM2 := Lib.hid (fun w' l h l' h' u u' (s : BasisI w' l h u (k, r2)) (s' : BasisI w' l' h' u' (k, r1)) => HM.out w' s hF2 s' hF1)
  have KI := Lib.hid (fun w' l h l' h' u u' (s : BasisI w' l h u (k, r1)) (s' : BasisI w' l' h' u' (k, r2)) => HI.out w' s hF1 s' hF2)
  have KDA := Lib.hid (fun w' l h u (s : BasisI w' l h u (k, r1)) => HD.out w' s hF1)
  have KDB := Lib.hid (fun w' l h u (s : BasisI w' l h u (k, r2)) => HD.out w' s hF2)
  have KDS := Lib.hid (fun w' l h u (s : BasisI w' l h u (sumOf (k, r1) (k, r2))) => HD.out w' s hFS)
  have KDI := Lib.hid (fun w' l h u (s : BasisI w' l h u (interOf (k, r1) (k, r2))) => HD.out w' s hFI)
  have KUAS := Lib.hid (fun w' l h l' h' u u' (s : BasisI w' l h u (k, r1)) (s' : BasisI w' l' h' u' (sumOf (k, r1) (k, r2))) => HU.out w' s hF1 s' hFS)
  have KUBS := Lib.hid (fun w' l h l' h' u u' (s : BasisI w' l h u (k, r2)) (s' : BasisI w' l' h' u' (sumOf (k, r1) (k, r2))) => HU.out w' s hF2 s' hFS)
  have KUIA := Lib.hid (fun w' l h l' h' u u' (s : BasisI w' l h u (interOf (k, r1) (k, r2))) (s' : BasisI w' l' h' u' (k, r1)) => HU.out w' s hFI s' hF1)
  have KUIB := Lib.hid (fun w' l h l' h' u u' (s : BasisI w' l h u (interOf (k, r1) (k, r2))) (s' : BasisI w' l' h' u' (k, r2)) => HU.out w' s hFI s' hF2)
  have KUAB := Lib.hid (fun w' l h l' h' u u' (s : BasisI w' l h u (k, r1)) (s' : BasisI w' l' h' u' (k, r2)) => HU.out w' s hF1 s' hF2)
  have KE := Lib.hid (fun w' l h l' h' u u' (s : BasisI w' l h u (sumOf (k, r1) (k, r2))) (s' : BasisI w' l' h' u' (sumOf (k, r1) (k, r2))) => HE.out w' s hFS s' hFS)
  have KNAB := Lib.hid (fun w' l h l' h' u u' (s : BasisI w' l h u (k, r1)) (s' : BasisI w' l' h' u' (k, r2)) => HN.out w' s hF1 s' hF2)
  have KNBA := Lib.hid (fun w' l h l' h' u u' (s : BasisI w' l h u (k, r2)) (s' : BasisI w' l' h' u' (k, r1)) => HN.out w' s hF2 s' hF1)
  have hse := LawBas.sameB_self (sumOf (k, r1) (k, r2)).1 (sumOf (k, r1) (k, r2)).2
  rw [← l6] at KM2
  rw [l2] at KUAS
  rw [l3] at KUBS
  rw [l4] at KUIA
  rw [l5] at KUIB
  rw [hse] at KE
  rw [l7] at KNAB
  clear l2 l3 l4 l5 l6 l7 hse fa fb hV1 hV2 HM HI HD HU HE HN hF1 hF2 hFS hFI hT1 hT2
  dsimp only at KDA KDB
  have l9 : (innovOf (k, r2) (k, r1) == 0) = subOf (k, r1) (k, r2) := by
    rw [Bool.eq_iff_iff, beq_iff_eq]; exact l8.symm
  clear l8
  generalize sumOf (k, r1) (k, r2) = BS at *
  generalize interOf (k, r1) (k, r2) = BI at *
  obtain ⟨WS, RS⟩ := BS
  obtain ⟨WI, RI⟩ := BI
  dsimp only at l1 dS dI KDS KDI KNAB
  generalize dimOf WS RS = vS at *
  generalize dimOf WI RI = vI at *
  generalize dimOf k r1 = vA at *
  generalize dimOf k r2 = vB at *
  generalize subOf (k, r1) (k, r2) = qU at *
  generalize innovOf (k, r2) (k, r1) = vN at *
  have q1 : IntKind.i64.wrap (vS + vI) = vS + vI := by rw [IntKind.wrap_i64]; omega
  have q2 : IntKind.i64.wrap (vA + vB) = vA + vB := by rw [IntKind.wrap_i64]; omega
  have q3 : IntKind.i64.wrap (vS - vA) = vS - vA := by rw [IntKind.wrap_i64]; omega
  have q4 : (vS + vI == vA + vB) = true := by simp [l1]
  clear l1
  have kA := (Blk.new w1 (.int .i64 k) (.slice ad1 n1 cap1) 26).alloc (.cells #[.int .i64 k, .slice ad2 n2 cap2] 26)
  have kB := Blk.new (w1.alloc (.cells #[.int .i64 k, .slice ad1 n1 cap1] 26)) (.int .i64 k) (.slice ad2 n2 cap2) 26
  have hb := (below_box w1 (.cells #[.int .i64 k, .slice ad1 n1 cap1] 26)).alloc (by simp) (.cells #[.int .i64 k, .slice ad2 n2 cap2] 26)
  have zb : ((w1.alloc (.cells #[.int .i64 k, .slice ad1 n1 cap1] 26)).alloc (.cells #[.int .i64 k, .slice ad2 n2 cap2] 26)).heap.size = w1.heap.size + 2 := by simp
  simp only [World.size_alloc] at kB
  replace s1 : BasisI _ w.heap.size w1.heap.size (.agg #[.int .i64 k, .slice ad1 n1 cap1]) (k, r1) := ⟨_, rfl, hkb, _, _, _, rfl, s1.below hb (.inr (Nat.le_refl _))⟩
  replace s2 : BasisI _ w.heap.size w1.heap.size (.agg #[.int .i64 k, .slice ad2 n2 cap2]) (k, r2) := ⟨_, rfl, hkb, _, _, _, rfl, s2.below hb (.inr (Nat.le_refl _))⟩
  replace frm := frm.trans (hb.mono z1)
  clear hb
  have a0 := kA.c0
  have a1 := kA.c1
  have b0 := kB.c0
  have b1 := kB.c1
  obtain ⟨PA, hPA⟩ : ∃ P, P = w1.heap.size := ⟨_, rfl⟩
  go_wp2_with fail
  go_at_call 8
  rw [← hPA] at kA kB a0 a1 b0 b1 s1 s2 z1 zb ⊢
  clear hPA
  have zb2 : PA + 2 ≤ ((w1.alloc (.cells #[.int .i64 k, .slice ad1 n1 cap1] 26)).alloc (.cells #[.int .i64 k, .slice ad2 n2 cap2] 26)).heap.size := by omega
  clear zb
  generalize (w1.alloc (.cells #[.int .i64 k, .slice ad1 n1 cap1] 26)).alloc (.cells #[.int .i64 k, .slice ad2 n2 cap2] 26) = X1 at *
  refine (KM.out _ _ _ _ _ _ _ s1 s2).mono ?_
  rintro e w2 ⟨_, rfl, sS, bl⟩
  replace sS := BasisO_is sS
  obtain ⟨_, rfl, hwS, ad3, n3, cap3, rfl, tS⟩ := sS
  dsimp only at hwS tS
  have z2 := bl.size
  have bb := below_box w2 (.cells #[.int .i64 WS, .slice ad3 n3 cap3] 26)
  have zs : (w2.alloc (.cells #[.int .i64 WS, .slice ad3 n3 cap3] 26)).heap.size = w2.heap.size + 1 := by simp
  have kS := Blk.new w2 (.int .i64 WS) (.slice ad3 n3 cap3) 26
  have bl2 := bl.trans (bb.mono z2)
  replace kA := kA.below bl2 (by omega)
  replace kB := kB.below bl2 (by omega)
  replace s1 := BasisI_below s1 bl2 (.inr (Nat.le_refl _))
  replace s2 := BasisI_below s2 bl2 (.inr (Nat.le_refl _))
  have sS : BasisI _ X1.heap.size w2.heap.size (.agg #[.int .i64 WS, .slice ad3 n3 cap3]) (WS, RS) := ⟨_, rfl, hwS, _, _, _, rfl, tS.below bb (.inr (Nat.le_refl _))⟩
  replace frm := frm.trans (bl2.mono (by omega))
  clear bl bb bl2 a0 a1 b0 b1 tS
  have a0 := kA.c0
  have a1 := kA.c1
  have b0 := kB.c0
  have b1 := kB.c1
  obtain ⟨PS, hPS⟩ : ∃ P, P = w2.heap.size := ⟨_, rfl⟩
  go_wp2_with fail
  go_at_call 9
  rw [← hPS] at kS sS z2 zs ⊢
  clear hPS
  have zs2 : PS + 1 ≤ (w2.alloc (.cells #[.int .i64 WS, .slice ad3 n3 cap3] 26)).heap.size := by omega
  clear zs
  generalize w2.alloc (.cells #[.int .i64 WS, .slice ad3 n3 cap3] 26) = X2 at *
  refine (KI.out _ _ _ _ _ _ _ s1 s2).mono ?_
  rintro e w3 ⟨_, rfl, sI, bl⟩
  replace sI := BasisO_is sI
  obtain ⟨_, rfl, hwI, ad4, n4, cap4, rfl, tI⟩ := sI
  dsimp only at hwI tI
  have z3 := bl.size
  have bb := below_box w3 (.cells #[.int .i64 WI, .slice ad4 n4 cap4] 26)
  have zi : (w3.alloc (.cells #[.int .i64 WI, .slice ad4 n4 cap4] 26)).heap.size = w3.heap.size + 1 := by simp
  have kI := Blk.new w3 (.int .i64 WI) (.slice ad4 n4 cap4) 26
  have bl2 := bl.trans (bb.mono z3)
  replace kA := kA.below bl2 (by omega)
  replace kB := kB.below bl2 (by omega)
  replace kS := kS.below bl2 (by omega)
  replace s1 := BasisI_below s1 bl2 (.inr (Nat.le_refl _))
  replace s2 := BasisI_below s2 bl2 (.inr (Nat.le_refl _))
  replace sS := BasisI_below sS bl2 (.inr (Nat.le_refl _))
  have sI : BasisI _ X2.heap.size w3.heap.size (.agg #[.int .i64 WI, .slice ad4 n4 cap4]) (WI, RI) := ⟨_, rfl, hwI, _, _, _, rfl, tI.below bb (.inr (Nat.le_refl _))⟩
  replace frm := frm.trans (bl2.mono (by omega))
  clear bl bb bl2 a0 a1 b0 b1 tI
  obtain ⟨PI, hPI⟩ : ∃ P, P = w3.heap.size := ⟨_, rfl⟩
  go_wp2
  rw [← hPI] at kI sI z3 zi ⊢
  clear hPI
  have zi2 : PI + 1 ≤ (w3.alloc (.cells #[.int .i64 WI, .slice ad4 n4 cap4] 26)).heap.size := by omega
  clear zi
  generalize w3.alloc (.cells #[.int .i64 WI, .slice ad4 n4 cap4] 26) = X3 at *
  replace kA : Blk X3.drew PA 26 _ _ := ⟨kA.obj⟩
  replace kB : Blk X3.drew (PA + 1) 26 _ _ := ⟨kB.obj⟩
  replace kS : Blk X3.drew PS 26 _ _ := ⟨kS.obj⟩
  replace kI : Blk X3.drew PI 26 _ _ := ⟨kI.obj⟩
  replace s1 := BasisI_mv s1 (Mv.drew (Mv.refl X3 0 0)) (.inr (Nat.zero_le _))
  replace s2 := BasisI_mv s2 (Mv.drew (Mv.refl X3 0 0)) (.inr (Nat.zero_le _))
  replace sS := BasisI_mv sS (Mv.drew (Mv.refl X3 0 0)) (.inr (Nat.zero_le _))
  replace sI := BasisI_mv sI (Mv.drew (Mv.refl X3 0 0)) (.inr (Nat.zero_le _))
  replace frm := frm.drew
  have zD : X3.heap.size ≤ X3.drew.heap.size := Nat.le_refl _
  refine wp_region_held (S := fun w' => w'.cell? ⟨PA, 0, none⟩ = some (.int .i64 k) ∧ w'.cell? ⟨PA, 1, none⟩ = some (.slice ad1 n1 cap1) ∧ w'.cell? ⟨PA + 1, 0, none⟩ = some (.int .i64 k) ∧ w'.cell? ⟨PA + 1, 1, none⟩ = some (.slice ad2 n2 cap2) ∧ w'.cell? ⟨PS, 0, none⟩ = some (.int .i64 WS) ∧ w'.cell? ⟨PS, 1, none⟩ = some (.slice ad3 n3 cap3) ∧ w'.cell? ⟨PI, 0, none⟩ = some (.int .i64 WI) ∧ w'.cell? ⟨PI, 1, none⟩ = some (.slice ad4 n4 cap4)) (by kernel_rfl) ?_
  change wpAnyH _ _ _ _ _ _ _ _ X3.drew
  generalize X3.drew = D0 at *
  have HH := Lib.hid (show D0.cell? ⟨PA, 0, none⟩ = some (.int .i64 k) ∧ D0.cell? ⟨PA, 1, none⟩ = some (.slice ad1 n1 cap1) ∧ D0.cell? ⟨PA + 1, 0, none⟩ = some (.int .i64 k) ∧ D0.cell? ⟨PA + 1, 1, none⟩ = some (.slice ad2 n2 cap2) ∧ D0.cell? ⟨PS, 0, none⟩ = some (.int .i64 WS) ∧ D0.cell? ⟨PS, 1, none⟩ = some (.slice ad3 n3 cap3) ∧ D0.cell? ⟨PI, 0, none⟩ = some (.int .i64 WI) ∧ D0.cell? ⟨PI, 1, none⟩ = some (.slice ad4 n4 cap4) from ⟨kA.c0, kA.c1, kB.c0, kB.c1, kS.c0, kS.c1, kI.c0, kI.c1⟩)
  refine wpAnyH_take (i := 0) (oi := ⟨some _, _, _, _, _, _⟩) (v := ?_) rfl (by kernel_rfl) (by kernel_rfl) (by kernel_rfl) (fun _ _ _ h => h) (Or.inl ⟨by rfl, ?_⟩) HH.out ?_
  rotate_left
  · intro wS hSw
    try dsimp only at hSw
    go_simp
    all_goals (with_reducible rfl)
  simp only [Act.put, List.setIfInBounds_toArray, List.set_cons_zero, List.set_cons_succ]
  refine wpAnyH_take (i := 2) (oi := ⟨some _, _, _, _, _, _⟩) (v := ?_) rfl (by kernel_rfl) (by kernel_rfl) (by kernel_rfl) (fun _ _ _ h => h) (Or.inl ⟨by rfl, ?_⟩) HH.out ?_
  rotate_left
  · intro wS hSw
    try dsimp only at hSw
    go_simp
    all_goals (with_reducible rfl)
  simp only [Act.put, List.setIfInBounds_toArray, List.set_cons_zero, List.set_cons_succ]
  refine wpAnyH_take (i := 5) (oi := ⟨some _, _, _, _, _, _⟩) (v := ?_) rfl (by kernel_rfl) (by kernel_rfl) (by kernel_rfl) (fun _ _ _ h => h) (Or.inl ⟨by rfl, ?_⟩) HH.out ?_
  rotate_left
  · intro wS hSw
    try dsimp only at hSw
    go_simp
    all_goals (with_reducible rfl)
  simp only [Act.put, List.setIfInBounds_toArray, List.set_cons_zero, List.set_cons_succ]
  refine wpAnyH_take (i := 7) (oi := ⟨some _, _, _, _, _, _⟩) (v := ?_) rfl (by kernel_rfl) (by kernel_rfl) (by kernel_rfl) (fun _ _ _ h => h) (Or.inl ⟨by rfl, ?_⟩) HH.out ?_
  rotate_left
  · intro wS hSw
    try dsimp only at hSw
    go_simp
    all_goals (with_reducible rfl)
  simp only [Act.put, List.setIfInBounds_toArray, List.set_cons_zero, List.set_cons_succ]
  refine wpAnyH_ready (rs := [1]) (by kernel_rfl) (by simp) ?_
  refine AllReadyH.cons (o := ⟨some _, _, _, _, _, _⟩) rfl (fun Kq hKq => ?_) AllReadyH.nil
  go_simp
  refine (KDS.out _ _ _ _ sS).mono ?_
  rintro e y1 ⟨rfl, bl⟩
  have zy1 := bl.size
  replace kA := kA.below bl (by omega)
  replace kB := kB.below bl (by omega)
  replace kS := kS.below bl (by omega)
  replace kI := kI.below bl (by omega)
  replace s1 := BasisI_below s1 bl (.inr (Nat.le_refl _))
  replace s2 := BasisI_below s2 bl (.inr (Nat.le_refl _))
  replace sS := BasisI_below sS bl (.inr (Nat.le_refl _))
  replace sI := BasisI_below sI bl (.inr (Nat.le_refl _))
  replace frm := frm.trans (bl.mono (by omega))
  clear bl HH
  have HH := Lib.hid (show y1.cell? ⟨PA, 0, none⟩ = some (.int .i64 k) ∧ y1.cell? ⟨PA, 1, none⟩ = some (.slice ad1 n1 cap1) ∧ y1.cell? ⟨PA + 1, 0, none⟩ = some (.int .i64 k) ∧ y1.cell? ⟨PA + 1, 1, none⟩ = some (.slice ad2 n2 cap2) ∧ y1.cell? ⟨PS, 0, none⟩ = some (.int .i64 WS) ∧ y1.cell? ⟨PS, 1, none⟩ = some (.slice ad3 n3 cap3) ∧ y1.cell? ⟨PI, 0, none⟩ = some (.int .i64 WI) ∧ y1.cell? ⟨PI, 1, none⟩ = some (.slice ad4 n4 cap4) from ⟨kA.c0, kA.c1, kB.c0, kB.c1, kS.c0, kS.c1, kI.c0, kI.c1⟩)
  refine hKq.out _ _ HH.out (fun _ => ?_)
  clear hKq Kq
  refine wpAnyH_ready (rs := [3]) (by kernel_rfl) (by simp) ?_
  refine AllReadyH.cons (o := ⟨some _, _, _, _, _, _⟩) rfl (fun Kq hKq => ?_) AllReadyH.nil
  go_simp
  refine (KDI.out _ _ _ _ sI).mono ?_
  rintro e y2 ⟨rfl, bl⟩
  have zy2 := bl.size
  replace kA := kA.below bl (by omega)
  replace kB := kB.below bl (by omega)
  replace kS := kS.below bl (by omega)
  replace kI := kI.below bl (by omega)
  replace s1 := BasisI_below s1 bl (.inr (Nat.le_refl _))
  replace s2 := BasisI_below s2 bl (.inr (Nat.le_refl _))
  replace sS := BasisI_below sS bl (.inr (Nat.le_refl _))
  replace sI := BasisI_below sI bl (.inr (Nat.le_refl _))
  replace frm := frm.trans (bl.mono (by omega))
  clear bl HH
  have HH := Lib.hid (show y2.cell? ⟨PA, 0, none⟩ = some (.int .i64 k) ∧ y2.cell? ⟨PA, 1, none⟩ = some (.slice ad1 n1 cap1) ∧ y2.cell? ⟨PA + 1, 0, none⟩ = some (.int .i64 k) ∧ y2.cell? ⟨PA + 1, 1, none⟩ = some (.slice ad2 n2 cap2) ∧ y2.cell? ⟨PS, 0, none⟩ = some (.int .i64 WS) ∧ y2.cell? ⟨PS, 1, none⟩ = some (.slice ad3 n3 cap3) ∧ y2.cell? ⟨PI, 0, none⟩ = some (.int .i64 WI) ∧ y2.cell? ⟨PI, 1, none⟩ = some (.slice ad4 n4 cap4) from ⟨kA.c0, kA.c1, kB.c0, kB.c1, kS.c0, kS.c1, kI.c0, kI.c1⟩)
  refine hKq.out _ _ HH.out (fun _ => ?_)
  clear hKq Kq
  refine wpAnyH_take (i := 4) (oi := ⟨some _, _, _, _, _, _⟩) (v := ?_) rfl (by kernel_rfl) (by kernel_rfl) (by kernel_rfl) (fun _ _ _ h => h) (Or.inl ⟨by rfl, ?_⟩) HH.out ?_
  rotate_left
  · intro wS hSw
    try dsimp only at hSw
    go_simp
    all_goals (with_reducible rfl)
  simp only [Act.put, List.setIfInBounds_toArray, List.set_cons_zero, List.set_cons_succ]
  refine wpAnyH_ready (rs := [6]) (by kernel_rfl) (by simp) ?_
  refine AllReadyH.cons (o := ⟨some _, _, _, _, _, _⟩) rfl (fun Kq hKq => ?_) AllReadyH.nil
  go_simp
  refine (KDA.out _ _ _ _ s1).mono ?_
  rintro e y3 ⟨rfl, bl⟩
  have zy3 := bl.size
  replace kA := kA.below bl (by omega)
  replace kB := kB.below bl (by omega)
  replace kS := kS.below bl (by omega)
  replace kI := kI.below bl (by omega)
  replace s1 := BasisI_below s1 bl (.inr (Nat.le_refl _))
  replace s2 := BasisI_below s2 bl (.inr (Nat.le_refl _))
  replace sS := BasisI_below sS bl (.inr (Nat.le_refl _))
  replace sI := BasisI_below sI bl (.inr (Nat.le_refl _))
  replace frm := frm.trans (bl.mono (by omega))
  clear bl HH
  have HH := Lib.hid (show y3.cell? ⟨PA, 0, none⟩ = some (.int .i64 k) ∧ y3.cell? ⟨PA, 1, none⟩ = some (.slice ad1 n1 cap1) ∧ y3.cell? ⟨PA + 1, 0, none⟩ = some (.int .i64 k) ∧ y3.cell? ⟨PA + 1, 1, none⟩ = some (.slice ad2 n2 cap2) ∧ y3.cell? ⟨PS, 0, none⟩ = some (.int .i64 WS) ∧ y3.cell? ⟨PS, 1, none⟩ = some (.slice ad3 n3 cap3) ∧ y3.cell? ⟨PI, 0, none⟩ = some (.int .i64 WI) ∧ y3.cell? ⟨PI, 1, none⟩ = some (.slice ad4 n4 cap4) from ⟨kA.c0, kA.c1, kB.c0, kB.c1, kS.c0, kS.c1, kI.c0, kI.c1⟩)
  refine hKq.out _ _ HH.out (fun _ => ?_)
  clear hKq Kq
  refine wpAnyH_ready (rs := [8]) (by kernel_rfl) (by simp) ?_
  refine AllReadyH.cons (o := ⟨some _, _, _, _, _, _⟩) rfl (fun Kq hKq => ?_) AllReadyH.nil
  go_simp
  refine (KDB.out _ _ _ _ s2).mono ?_
  rintro e y4 ⟨rfl, bl⟩
  have zy4 := bl.size
  replace kA := kA.below bl (by omega)
  replace kB := kB.below bl (by omega)
  replace kS := kS.below bl (by omega)
  replace kI := kI.below bl (by omega)
  replace s1 := BasisI_below s1 bl (.inr (Nat.le_refl _))
  replace s2 := BasisI_below s2 bl (.inr (Nat.le_refl _))
  replace sS := BasisI_below sS bl (.inr (Nat.le_refl _))
  replace sI := BasisI_below sI bl (.inr (Nat.le_refl _))
  replace frm := frm.trans (bl.mono (by omega))
  clear bl HH
  have HH := Lib.hid (show y4.cell? ⟨PA, 0, none⟩ = some (.int .i64 k) ∧ y4.cell? ⟨PA, 1, none⟩ = some (.slice ad1 n1 cap1) ∧ y4.cell? ⟨PA + 1, 0, none⟩ = some (.int .i64 k) ∧ y4.cell? ⟨PA + 1, 1, none⟩ = some (.slice ad2 n2 cap2) ∧ y4.cell? ⟨PS, 0, none⟩ = some (.int .i64 WS) ∧ y4.cell? ⟨PS, 1, none⟩ = some (.slice ad3 n3 cap3) ∧ y4.cell? ⟨PI, 0, none⟩ = some (.int .i64 WI) ∧ y4.cell? ⟨PI, 1, none⟩ = some (.slice ad4 n4 cap4) from ⟨kA.c0, kA.c1, kB.c0, kB.c1, kS.c0, kS.c1, kI.c0, kI.c1⟩)
  refine hKq.out _ _ HH.out (fun _ => ?_)
  clear hKq Kq
  refine wpAnyH_take (i := 9) (oi := ⟨some _, _, _, _, _, _⟩) (v := ?_) rfl (by kernel_rfl) (by kernel_rfl) (by kernel_rfl) (fun _ _ _ h => h) (Or.inl ⟨by rfl, ?_⟩) HH.out ?_
  rotate_left
  · intro wS hSw
    try dsimp only at hSw
    go_simp
    all_goals (with_reducible rfl)
  simp only [Act.put, List.setIfInBounds_toArray, List.set_cons_zero, List.set_cons_succ]
  refine wpAnyH_take (i := 10) (oi := ⟨some _, _, _, _, _, _⟩) (v := ?_) rfl (by kernel_rfl) (by kernel_rfl) (by kernel_rfl) (fun _ _ _ h => h) (Or.inl ⟨by rfl, ?_⟩) HH.out ?_
  rotate_left
  · intro wS hSw
    try dsimp only at hSw
    go_simp
    all_goals (with_reducible rfl)
  simp only [Act.put, List.setIfInBounds_toArray, List.set_cons_zero, List.set_cons_succ]
  refine wpAnyH_take (i := 11) (oi := ⟨some _, _, _, _, _, _⟩) (v := ?_) rfl (by kernel_rfl) (by kernel_rfl) (by kernel_rfl) (fun _ _ _ h => h) (Or.inl ⟨by rfl, ?_⟩) HH.out ?_
  rotate_left
  · intro wS hSw
    try dsimp only at hSw
    go_simp
    all_goals (with_reducible rfl)
  simp only [Act.put, List.setIfInBounds_toArray, List.set_cons_zero, List.set_cons_succ]
  refine wpAnyH_take (i := 12) (oi := ⟨some _, _, _, _, _, _⟩) (v := ?_) rfl (by kernel_rfl) (by kernel_rfl) (by kernel_rfl) (fun _ _ _ h => h) (Or.inl ⟨by rfl, ?_⟩) HH.out ?_
  rotate_left
  · intro wS hSw
    try dsimp only at hSw
    go_simp
    all_goals (with_reducible rfl)
  simp only [Act.put, List.setIfInBounds_toArray, List.set_cons_zero, List.set_cons_succ]
  refine wpAnyH_take (i := 13) (oi := ⟨some _, _, _, _, _, _⟩) (v := ?_) rfl (by kernel_rfl) (by kernel_rfl) (by kernel_rfl) (fun _ _ _ h => h) (Or.inl ⟨by rfl, ?_⟩) HH.out ?_
  rotate_left
  · intro wS hSw
    try dsimp only at hSw
    go_simp
    all_goals (with_reducible rfl)
  simp only [Act.put, List.setIfInBounds_toArray, List.set_cons_zero, List.set_cons_succ]
  refine wpAnyH_ready (rs := [14]) (by kernel_rfl) (by simp) ?_
  refine AllReadyH.cons (o := ⟨some _, _, _, _, _, _⟩) rfl (fun Kq hKq => ?_) AllReadyH.nil
  go_simp
  refine (KUAS.out _ _ _ _ _ _ _ s1 sS).mono ?_
  rintro e y5 ⟨rfl, bl⟩
  have zy5 := bl.size
  replace kA := kA.below bl (by omega)
  replace kB := kB.below bl (by omega)
  replace kS := kS.below bl (by omega)
  replace kI := kI.below bl (by omega)
  replace s1 := BasisI_below s1 bl (.inr (Nat.le_refl _))
  replace s2 := BasisI_below s2 bl (.inr (Nat.le_refl _))
  replace sS := BasisI_below sS bl (.inr (Nat.le_refl _))
  replace sI := BasisI_below sI bl (.inr (Nat.le_refl _))
  replace frm := frm.trans (bl.mono (by omega))
  clear bl HH
  have HH := Lib.hid (show y5.cell? ⟨PA, 0, none⟩ = some (.int .i64 k) ∧ y5.cell? ⟨PA, 1, none⟩ = some (.slice ad1 n1 cap1) ∧ y5.cell? ⟨PA + 1, 0, none⟩ = some (.int .i64 k) ∧ y5.cell? ⟨PA + 1, 1, none⟩ = some (.slice ad2 n2 cap2) ∧ y5.cell? ⟨PS, 0, none⟩ = some (.int .i64 WS) ∧ y5.cell? ⟨PS, 1, none⟩ = some (.slice ad3 n3 cap3) ∧ y5.cell? ⟨PI, 0, none⟩ = some (.int .i64 WI) ∧ y5.cell? ⟨PI, 1, none⟩ = some (.slice ad4 n4 cap4) from ⟨kA.c0, kA.c1, kB.c0, kB.c1, kS.c0, kS.c1, kI.c0, kI.c1⟩)
  refine hKq.out _ _ HH.out (fun _ => ?_)
  clear hKq Kq
  refine wpAnyH_take (i := 15) (oi := ⟨some _, _, _, _, _, _⟩) (v := ?_) rfl (by kernel_rfl) (by kernel_rfl) (by kernel_rfl) (fun _ _ _ h => h) (Or.inl ⟨by rfl, ?_⟩) HH.out ?_
  rotate_left
  · intro wS hSw
    try dsimp only at hSw
    go_simp
    all_goals (with_reducible rfl)
  simp only [Act.put, List.setIfInBounds_toArray, List.set_cons_zero, List.set_cons_succ]
  refine wpAnyH_take (i := 16) (oi := ⟨some _, _, _, _, _, _⟩) (v := ?_) rfl (by kernel_rfl) (by kernel_rfl) (by kernel_rfl) (fun _ _ _ h => h) (Or.inl ⟨by rfl, ?_⟩) HH.out ?_
  rotate_left
  · intro wS hSw
    try dsimp only at hSw
    go_simp
    all_goals (with_reducible rfl)
  simp only [Act.put, List.setIfInBounds_toArray, List.set_cons_zero, List.set_cons_succ]
  refine wpAnyH_take (i := 17) (oi := ⟨some _, _, _, _, _, _⟩) (v := ?_) rfl (by kernel_rfl) (by kernel_rfl) (by kernel_rfl) (fun _ _ _ h => h) (Or.inl ⟨by rfl, ?_⟩) HH.out ?_
  rotate_left
  · intro wS hSw
    try dsimp only at hSw
    go_simp
    all_goals (with_reducible rfl)
  simp only [Act.put, List.setIfInBounds_toArray, List.set_cons_zero, List.set_cons_succ]
  refine wpAnyH_take (i := 18) (oi := ⟨some _, _, _, _, _, _⟩) (v := ?_) rfl (by kernel_rfl) (by kernel_rfl) (by kernel_rfl) (fun _ _ _ h => h) (Or.inl ⟨by rfl, ?_⟩) HH.out ?_
  rotate_left
  · intro wS hSw
    try dsimp only at hSw
    go_simp
    all_goals (with_reducible rfl)
  simp only [Act.put, List.setIfInBounds_toArray, List.set_cons_zero, List.set_cons_succ]
  refine wpAnyH_ready (rs := [19]) (by kernel_rfl) (by simp) ?_
  refine AllReadyH.cons (o := ⟨some _, _, _, _, _, _⟩) rfl (fun Kq hKq => ?_) AllReadyH.nil
  go_simp
  refine (KUBS.out _ _ _ _ _ _ _ s2 sS).mono ?_
  rintro e y6 ⟨rfl, bl⟩
  have zy6 := bl.size
  replace kA := kA.below bl (by omega)
  replace kB := kB.below bl (by omega)
  replace kS := kS.below bl (by omega)
  replace kI := kI.below bl (by omega)
  replace s1 := BasisI_below s1 bl (.inr (Nat.le_refl _))
  replace s2 := BasisI_below s2 bl (.inr (Nat.le_refl _))
  replace sS := BasisI_below sS bl (.inr (Nat.le_refl _))
  replace sI := BasisI_below sI bl (.inr (Nat.le_refl _))
  replace frm := frm.trans (bl.mono (by omega))
  clear bl HH
  have HH := Lib.hid (show y6.cell? ⟨PA, 0, none⟩ = some (.int .i64 k) ∧ y6.cell? ⟨PA, 1, none⟩ = some (.slice ad1 n1 cap1) ∧ y6.cell? ⟨PA + 1, 0, none⟩ = some (.int .i64 k) ∧ y6.cell? ⟨PA + 1, 1, none⟩ = some (.slice ad2 n2 cap2) ∧ y6.cell? ⟨PS, 0, none⟩ = some (.int .i64 WS) ∧ y6.cell? ⟨PS, 1, none⟩ = some (.slice ad3 n3 cap3) ∧ y6.cell? ⟨PI, 0, none⟩ = some (.int .i64 WI) ∧ y6.cell? ⟨PI, 1, none⟩ = some (.slice ad4 n4 cap4) from ⟨kA.c0, kA.c1, kB.c0, kB.c1, kS.c0, kS.c1, kI.c0, kI.c1⟩)
  refine hKq.out _ _ HH.out (fun _ => ?_)
  clear hKq Kq
  refine wpAnyH_take (i := 20) (oi := ⟨some _, _, _, _, _, _⟩) (v := ?_) rfl (by kernel_rfl) (by kernel_rfl) (by kernel_rfl) (fun _ _ _ h => h) (Or.inl ⟨by rfl, ?_⟩) HH.out ?_
  rotate_left
  · intro wS hSw
    try dsimp only at hSw
    go_simp
    all_goals (with_reducible rfl)
  simp only [Act.put, List.setIfInBounds_toArray, List.set_cons_zero, List.set_cons_succ]
  refine wpAnyH_take (i := 21) (oi := ⟨some _, _, _, _, _, _⟩) (v := ?_) rfl (by kernel_rfl) (by kernel_rfl) (by kernel_rfl) (fun _ _ _ h => h) (Or.inl ⟨by rfl, ?_⟩) HH.out ?_
  rotate_left
  · intro wS hSw
    try dsimp only at hSw
    go_simp
    all_goals (with_reducible rfl)
  simp only [Act.put, List.setIfInBounds_toArray, List.set_cons_zero, List.set_cons_succ]
  refine wpAnyH_take (i := 22) (oi := ⟨some _, _, _, _, _, _⟩) (v := ?_) rfl (by kernel_rfl) (by kernel_rfl) (by kernel_rfl) (fun _ _ _ h => h) (Or.inl ⟨by rfl, ?_⟩) HH.out ?_
  rotate_left
  · intro wS hSw
    try dsimp only at hSw
    go_simp
    all_goals (with_reducible rfl)
  simp only [Act.put, List.setIfInBounds_toArray, List.set_cons_zero, List.set_cons_succ]
  refine wpAnyH_take (i := 23) (oi := ⟨some _, _, _, _, _, _⟩) (v := ?_) rfl (by kernel_rfl) (by kernel_rfl) (by kernel_rfl) (fun _ _ _ h => h) (Or.inl ⟨by rfl, ?_⟩) HH.out ?_
  rotate_left
  · intro wS hSw
    try dsimp only at hSw
    go_simp
    all_goals (with_reducible rfl)
  simp only [Act.put, List.setIfInBounds_toArray, List.set_cons_zero, List.set_cons_succ]
  refine wpAnyH_ready (rs := [24]) (by kernel_rfl) (by simp) ?_
  refine AllReadyH.cons (o := ⟨some _, _, _, _, _, _⟩) rfl (fun Kq hKq => ?_) AllReadyH.nil
  go_simp
  refine (KUIA.out _ _ _ _ _ _ _ sI s1).mono ?_
  rintro e y7 ⟨rfl, bl⟩
  have zy7 := bl.size
  replace kA := kA.below bl (by omega)
  replace kB := kB.below bl (by omega)
  replace kS := kS.below bl (by omega)
  replace kI := kI.below bl (by omega)
  replace s1 := BasisI_below s1 bl (.inr (Nat.le_refl _))
  replace s2 := BasisI_below s2 bl (.inr (Nat.le_refl _))
  replace sS := BasisI_below sS bl (.inr (Nat.le_refl _))
  replace sI := BasisI_below sI bl (.inr (Nat.le_refl _))
  replace frm := frm.trans (bl.mono (by omega))
  clear bl HH
  have HH := Lib.hid (show y7.cell? ⟨PA, 0, none⟩ = some (.int .i64 k) ∧ y7.cell? ⟨PA, 1, none⟩ = some (.slice ad1 n1 cap1) ∧ y7.cell? ⟨PA + 1, 0, none⟩ = some (.int .i64 k) ∧ y7.cell? ⟨PA + 1, 1, none⟩ = some (.slice ad2 n2 cap2) ∧ y7.cell? ⟨PS, 0, none⟩ = some (.int .i64 WS) ∧ y7.cell? ⟨PS, 1, none⟩ = some (.slice ad3 n3 cap3) ∧ y7.cell? ⟨PI, 0, none⟩ = some (.int .i64 WI) ∧ y7.cell? ⟨PI, 1, none⟩ = some (.slice ad4 n4 cap4) from ⟨kA.c0, kA.c1, kB.c0, kB.c1, kS.c0, kS.c1, kI.c0, kI.c1⟩)
  refine hKq.out _ _ HH.out (fun _ => ?_)
  clear hKq Kq
  refine wpAnyH_take (i := 25) (oi := ⟨some _, _, _, _, _, _⟩) (v := ?_) rfl (by kernel_rfl) (by kernel_rfl) (by kernel_rfl) (fun _ _ _ h => h) (Or.inl ⟨by rfl, ?_⟩) HH.out ?_
  rotate_left
  · intro wS hSw
    try dsimp only at hSw
    go_simp
    all_goals (with_reducible rfl)
  simp only [Act.put, List.setIfInBounds_toArray, List.set_cons_zero, List.set_cons_succ]
  refine wpAnyH_take (i := 26) (oi := ⟨some _, _, _, _, _, _⟩) (v := ?_) rfl (by kernel_rfl) (by kernel_rfl) (by kernel_rfl) (fun _ _ _ h => h) (Or.inl ⟨by rfl, ?_⟩) HH.out ?_
  rotate_left
  · intro wS hSw
    try dsimp only at hSw
    go_simp
    all_goals (with_reducible rfl)
  simp only [Act.put, List.setIfInBounds_toArray, List.set_cons_zero, List.set_cons_succ]
  refine wpAnyH_take (i := 27) (oi := ⟨some _, _, _, _, _, _⟩) (v := ?_) rfl (by kernel_rfl) (by kernel_rfl) (by kernel_rfl) (fun _ _ _ h => h) (Or.inl ⟨by rfl, ?_⟩) HH.out ?_
  rotate_left
  · intro wS hSw
    try dsimp only at hSw
    go_simp
    all_goals (with_reducible rfl)
  simp only [Act.put, List.setIfInBounds_toArray, List.set_cons_zero, List.set_cons_succ]
  refine wpAnyH_take (i := 28) (oi := ⟨some _, _, _, _, _, _⟩) (v := ?_) rfl (by kernel_rfl) (by kernel_rfl) (by kernel_rfl) (fun _ _ _ h => h) (Or.inl ⟨by rfl, ?_⟩) HH.out ?_
  rotate_left
  · intro wS hSw
    try dsimp only at hSw
    go_simp
    all_goals (with_reducible rfl)
  simp only [Act.put, List.setIfInBounds_toArray, List.set_cons_zero, List.set_cons_succ]
  refine wpAnyH_ready (rs := [29]) (by kernel_rfl) (by simp) ?_
  refine AllReadyH.cons (o := ⟨some _, _, _, _, _, _⟩) rfl (fun Kq hKq => ?_) AllReadyH.nil
  go_simp
  refine (KUIB.out _ _ _ _ _ _ _ sI s2).mono ?_
  rintro e y8 ⟨rfl, bl⟩
  have zy8 := bl.size
  replace kA := kA.below bl (by omega)
  replace kB := kB.below bl (by omega)
  replace kS := kS.below bl (by omega)
  replace kI := kI.below bl (by omega)
  replace s1 := BasisI_below s1 bl (.inr (Nat.le_refl _))
  replace s2 := BasisI_below s2 bl (.inr (Nat.le_refl _))
  replace sS := BasisI_below sS bl (.inr (Nat.le_refl _))
  replace sI := BasisI_below sI bl (.inr (Nat.le_refl _))
  replace frm := frm.trans (bl.mono (by omega))
  clear bl HH
  have HH := Lib.hid (show y8.cell? ⟨PA, 0, none⟩ = some (.int .i64 k) ∧ y8.cell? ⟨PA, 1, none⟩ = some (.slice ad1 n1 cap1) ∧ y8.cell? ⟨PA + 1, 0, none⟩ = some (.int .i64 k) ∧ y8.cell? ⟨PA + 1, 1, none⟩ = some (.slice ad2 n2 cap2) ∧ y8.cell? ⟨PS, 0, none⟩ = some (.int .i64 WS) ∧ y8.cell? ⟨PS, 1, none⟩ = some (.slice ad3 n3 cap3) ∧ y8.cell? ⟨PI, 0, none⟩ = some (.int .i64 WI) ∧ y8.cell? ⟨PI, 1, none⟩ = some (.slice ad4 n4 cap4) from ⟨kA.c0, kA.c1, kB.c0, kB.c1, kS.c0, kS.c1, kI.c0, kI.c1⟩)
  refine hKq.out _ _ HH.out (fun _ => ?_)
  clear hKq Kq
  refine wpAnyH_take (i := 30) (oi := ⟨some _, _, _, _, _, _⟩) (v := ?_) rfl (by kernel_rfl) (by kernel_rfl) (by kernel_rfl) (fun _ _ _ h => h) (Or.inl ⟨by rfl, ?_⟩) HH.out ?_
  rotate_left
  · intro wS hSw
    try dsimp only at hSw
    go_simp
    all_goals (with_reducible rfl)
  simp only [Act.put, List.setIfInBounds_toArray, List.set_cons_zero, List.set_cons_succ]
  refine wpAnyH_take (i := 31) (oi := ⟨some _, _, _, _, _, _⟩) (v := ?_) rfl (by kernel_rfl) (by kernel_rfl) (by kernel_rfl) (fun _ _ _ h => h) (Or.inl ⟨by rfl, ?_⟩) HH.out ?_
  rotate_left
  · intro wS hSw
    try dsimp only at hSw
    go_simp
    all_goals (with_reducible rfl)
  simp only [Act.put, List.setIfInBounds_toArray, List.set_cons_zero, List.set_cons_succ]
  refine wpAnyH_take (i := 32) (oi := ⟨some _, _, _, _, _, _⟩) (v := ?_) rfl (by kernel_rfl) (by kernel_rfl) (by kernel_rfl) (fun _ _ _ h => h) (Or.inl ⟨by rfl, ?_⟩) HH.out ?_
  rotate_left
  · intro wS hSw
    try dsimp only at hSw
    go_simp
    all_goals (with_reducible rfl)
  simp only [Act.put, List.setIfInBounds_toArray, List.set_cons_zero, List.set_cons_succ]
  refine wpAnyH_take (i := 33) (oi := ⟨some _, _, _, _, _, _⟩) (v := ?_) rfl (by kernel_rfl) (by kernel_rfl) (by kernel_rfl) (fun _ _ _ h => h) (Or.inl ⟨by rfl, ?_⟩) HH.out ?_
  rotate_left
  · intro wS hSw
    try dsimp only at hSw
    go_simp
    all_goals (with_reducible rfl)
  simp only [Act.put, List.setIfInBounds_toArray, List.set_cons_zero, List.set_cons_succ]
  refine wpAnyH_take (i := 34) (oi := ⟨some _, _, _, _, _, _⟩) (v := ?_) rfl (by kernel_rfl) (by kernel_rfl) (by kernel_rfl) (fun _ _ _ h => h) (Or.inl ⟨by rfl, ?_⟩) HH.out ?_
  rotate_left
  · intro wS hSw
    try dsimp only at hSw
    go_simp
    all_goals (with_reducible rfl)
  simp only [Act.put, List.setIfInBounds_toArray, List.set_cons_zero, List.set_cons_succ]
  refine wpAnyH_ready (rs := [35]) (by kernel_rfl) (by simp) ?_
  refine AllReadyH.cons (o := ⟨some _, _, _, _, _, _⟩) rfl (fun Kq hKq => ?_) AllReadyH.nil
  go_simp
  refine (KM2.out _ _ _ _ _ _ _ s2 s1).mono ?_
  rintro e y9 ⟨_, rfl, sX, bl⟩
  have zy9 := bl.size
  replace kA := kA.below bl (by omega)
  replace kB := kB.below bl (by omega)
  replace kS := kS.below bl (by omega)
  replace kI := kI.below bl (by omega)
  replace s1 := BasisI_below s1 bl (.inr (Nat.le_refl _))
  replace s2 := BasisI_below s2 bl (.inr (Nat.le_refl _))
  replace sS := BasisI_below sS bl (.inr (Nat.le_refl _))
  replace sI := BasisI_below sI bl (.inr (Nat.le_refl _))
  replace frm := frm.trans (bl.mono (by omega))
  clear bl HH
  replace sX := BasisO_is sX
  have HH := Lib.hid (show y9.cell? ⟨PA, 0, none⟩ = some (.int .i64 k) ∧ y9.cell? ⟨PA, 1, none⟩ = some (.slice ad1 n1 cap1) ∧ y9.cell? ⟨PA + 1, 0, none⟩ = some (.int .i64 k) ∧ y9.cell? ⟨PA + 1, 1, none⟩ = some (.slice ad2 n2 cap2) ∧ y9.cell? ⟨PS, 0, none⟩ = some (.int .i64 WS) ∧ y9.cell? ⟨PS, 1, none⟩ = some (.slice ad3 n3 cap3) ∧ y9.cell? ⟨PI, 0, none⟩ = some (.int .i64 WI) ∧ y9.cell? ⟨PI, 1, none⟩ = some (.slice ad4 n4 cap4) from ⟨kA.c0, kA.c1, kB.c0, kB.c1, kS.c0, kS.c1, kI.c0, kI.c1⟩)
  refine hKq.out _ _ HH.out (fun _ => ?_)
  clear hKq Kq
  refine wpAnyH_ready (rs := [36]) (by kernel_rfl) (by simp) ?_
  refine AllReadyH.cons (o := ⟨some _, _, _, _, _, _⟩) rfl (fun Kq hKq => ?_) AllReadyH.nil
  go_simp
  refine (KE.out _ _ _ _ _ _ _ sS sX).mono ?_
  rintro e y10 ⟨rfl, bl⟩
  have zy10 := bl.size
  replace kA := kA.below bl (by omega)
  replace kB := kB.below bl (by omega)
  replace kS := kS.below bl (by omega)
  replace kI := kI.below bl (by omega)
  replace s1 := BasisI_below s1 bl (.inr (Nat.le_refl _))
  replace s2 := BasisI_below s2 bl (.inr (Nat.le_refl _))
  replace sS := BasisI_below sS bl (.inr (Nat.le_refl _))
  replace sI := BasisI_below sI bl (.inr (Nat.le_refl _))
  replace frm := frm.trans (bl.mono (by omega))
  clear bl HH
  clear sX
  have HH := Lib.hid (show y10.cell? ⟨PA, 0, none⟩ = some (.int .i64 k) ∧ y10.cell? ⟨PA, 1, none⟩ = some (.slice ad1 n1 cap1) ∧ y10.cell? ⟨PA + 1, 0, none⟩ = some (.int .i64 k) ∧ y10.cell? ⟨PA + 1, 1, none⟩ = some (.slice ad2 n2 cap2) ∧ y10.cell? ⟨PS, 0, none⟩ = some (.int .i64 WS) ∧ y10.cell? ⟨PS, 1, none⟩ = some (.slice ad3 n3 cap3) ∧ y10.cell? ⟨PI, 0, none⟩ = some (.int .i64 WI) ∧ y10.cell? ⟨PI, 1, none⟩ = some (.slice ad4 n4 cap4) from ⟨kA.c0, kA.c1, kB.c0, kB.c1, kS.c0, kS.c1, kI.c0, kI.c1⟩)
  refine hKq.out _ _ HH.out (fun _ => ?_)
  clear hKq Kq
  refine wpAnyH_take (i := 37) (oi := ⟨some _, _, _, _, _, _⟩) (v := ?_) rfl (by kernel_rfl) (by kernel_rfl) (by kernel_rfl) (fun _ _ _ h => h) (Or.inl ⟨by rfl, ?_⟩) HH.out ?_
  rotate_left
  · intro wS hSw
    try dsimp only at hSw
    go_simp
    all_goals (with_reducible rfl)
  simp only [Act.put, List.setIfInBounds_toArray, List.set_cons_zero, List.set_cons_succ]
  refine wpAnyH_take (i := 38) (oi := ⟨some _, _, _, _, _, _⟩) (v := ?_) rfl (by kernel_rfl) (by kernel_rfl) (by kernel_rfl) (fun _ _ _ h => h) (Or.inl ⟨by rfl, ?_⟩) HH.out ?_
  rotate_left
  · intro wS hSw
    try dsimp only at hSw
    go_simp
    all_goals (with_reducible rfl)
  simp only [Act.put, List.setIfInBounds_toArray, List.set_cons_zero, List.set_cons_succ]
  refine wpAnyH_take (i := 39) (oi := ⟨some _, _, _, _, _, _⟩) (v := ?_) rfl (by kernel_rfl) (by kernel_rfl) (by kernel_rfl) (fun _ _ _ h => h) (Or.inl ⟨by rfl, ?_⟩) HH.out ?_
  rotate_left
  · intro wS hSw
    try dsimp only at hSw
    go_simp
    all_goals (with_reducible rfl)
  simp only [Act.put, List.setIfInBounds_toArray, List.set_cons_zero, List.set_cons_succ]
  refine wpAnyH_take (i := 40) (oi := ⟨some _, _, _, _, _, _⟩) (v := ?_) rfl (by kernel_rfl) (by kernel_rfl) (by kernel_rfl) (fun _ _ _ h => h) (Or.inl ⟨by rfl, ?_⟩) HH.out ?_
  rotate_left
  · intro wS hSw
    try dsimp only at hSw
    go_simp
    all_goals (with_reducible rfl)
  simp only [Act.put, List.setIfInBounds_toArray, List.set_cons_zero, List.set_cons_succ]
  refine wpAnyH_take (i := 42) (oi := ⟨some _, _, _, _, _, _⟩) (v := ?_) rfl (by kernel_rfl) (by kernel_rfl) (by kernel_rfl) (fun _ _ _ h => h) (Or.inl ⟨by rfl, ?_⟩) HH.out ?_
  rotate_left
  · intro wS hSw
    try dsimp only at hSw
    go_simp
    all_goals (with_reducible rfl)
  simp only [Act.put, List.setIfInBounds_toArray, List.set_cons_zero, List.set_cons_succ]
  refine wpAnyH_take (i := 44) (oi := ⟨some _, _, _, _, _, _⟩) (v := ?_) rfl (by kernel_rfl) (by kernel_rfl) (by kernel_rfl) (fun _ _ _ h => h) (Or.inl ⟨by rfl, ?_⟩) HH.out ?_
  rotate_left
  · intro wS hSw
    try dsimp only at hSw
    go_simp
    all_goals (with_reducible rfl)
  simp only [Act.put, List.setIfInBounds_toArray, List.set_cons_zero, List.set_cons_succ]
  refine wpAnyH_ready (rs := [41]) (by kernel_rfl) (by simp) ?_
  refine AllReadyH.cons (o := ⟨some _, _, _, _, _, _⟩) rfl (fun Kq hKq => ?_) AllReadyH.nil
  go_simp
  refine (KNAB.out _ _ _ _ _ _ _ s1 s2).mono ?_
  rintro e y11 ⟨rfl, bl⟩
  have zy11 := bl.size
  replace kA := kA.below bl (by omega)
  replace kB := kB.below bl (by omega)
  replace kS := kS.below bl (by omega)
  replace kI := kI.below bl (by omega)
  replace s1 := BasisI_below s1 bl (.inr (Nat.le_refl _))
  replace s2 := BasisI_below s2 bl (.inr (Nat.le_refl _))
  replace sS := BasisI_below sS bl (.inr (Nat.le_refl _))
  replace sI := BasisI_below sI bl (.inr (Nat.le_refl _))
  replace frm := frm.trans (bl.mono (by omega))
  clear bl HH
  have HH := Lib.hid (show y11.cell? ⟨PA, 0, none⟩ = some (.int .i64 k) ∧ y11.cell? ⟨PA, 1, none⟩ = some (.slice ad1 n1 cap1) ∧ y11.cell? ⟨PA + 1, 0, none⟩ = some (.int .i64 k) ∧ y11.cell? ⟨PA + 1, 1, none⟩ = some (.slice ad2 n2 cap2) ∧ y11.cell? ⟨PS, 0, none⟩ = some (.int .i64 WS) ∧ y11.cell? ⟨PS, 1, none⟩ = some (.slice ad3 n3 cap3) ∧ y11.cell? ⟨PI, 0, none⟩ = some (.int .i64 WI) ∧ y11.cell? ⟨PI, 1, none⟩ = some (.slice ad4 n4 cap4) from ⟨kA.c0, kA.c1, kB.c0, kB.c1, kS.c0, kS.c1, kI.c0, kI.c1⟩)
  refine hKq.out _ _ HH.out (fun _ => ?_)
  clear hKq Kq
  refine wpAnyH_ready (rs := [43]) (by kernel_rfl) (by simp) ?_
  refine AllReadyH.cons (o := ⟨some _, _, _, _, _, _⟩) rfl (fun Kq hKq => ?_) AllReadyH.nil
  go_simp
  refine (KDS.out _ _ _ _ sS).mono ?_
  rintro e y12 ⟨rfl, bl⟩
  have zy12 := bl.size
  replace kA := kA.below bl (by omega)
  replace kB := kB.below bl (by omega)
  replace kS := kS.below bl (by omega)
  replace kI := kI.below bl (by omega)
  replace s1 := BasisI_below s1 bl (.inr (Nat.le_refl _))
  replace s2 := BasisI_below s2 bl (.inr (Nat.le_refl _))
  replace sS := BasisI_below sS bl (.inr (Nat.le_refl _))
  replace sI := BasisI_below sI bl (.inr (Nat.le_refl _))
  replace frm := frm.trans (bl.mono (by omega))
  clear bl HH
  have HH := Lib.hid (show y12.cell? ⟨PA, 0, none⟩ = some (.int .i64 k) ∧ y12.cell? ⟨PA, 1, none⟩ = some (.slice ad1 n1 cap1) ∧ y12.cell? ⟨PA + 1, 0, none⟩ = some (.int .i64 k) ∧ y12.cell? ⟨PA + 1, 1, none⟩ = some (.slice ad2 n2 cap2) ∧ y12.cell? ⟨PS, 0, none⟩ = some (.int .i64 WS) ∧ y12.cell? ⟨PS, 1, none⟩ = some (.slice ad3 n3 cap3) ∧ y12.cell? ⟨PI, 0, none⟩ = some (.int .i64 WI) ∧ y12.cell? ⟨PI, 1, none⟩ = some (.slice ad4 n4 cap4) from ⟨kA.c0, kA.c1, kB.c0, kB.c1, kS.c0, kS.c1, kI.c0, kI.c1⟩)
  refine hKq.out _ _ HH.out (fun _ => ?_)
  clear hKq Kq
  refine wpAnyH_ready (rs := [45]) (by kernel_rfl) (by simp) ?_
  refine AllReadyH.cons (o := ⟨some _, _, _, _, _, _⟩) rfl (fun Kq hKq => ?_) AllReadyH.nil
  go_simp
  refine (KDA.out _ _ _ _ s1).mono ?_
  rintro e y13 ⟨rfl, bl⟩
  have zy13 := bl.size
  replace kA := kA.below bl (by omega)
  replace kB := kB.below bl (by omega)
  replace kS := kS.below bl (by omega)
  replace kI := kI.below bl (by omega)
  replace s1 := BasisI_below s1 bl (.inr (Nat.le_refl _))
  replace s2 := BasisI_below s2 bl (.inr (Nat.le_refl _))
  replace sS := BasisI_below sS bl (.inr (Nat.le_refl _))
  replace sI := BasisI_below sI bl (.inr (Nat.le_refl _))
  replace frm := frm.trans (bl.mono (by omega))
  clear bl HH
  have HH := Lib.hid (show y13.cell? ⟨PA, 0, none⟩ = some (.int .i64 k) ∧ y13.cell? ⟨PA, 1, none⟩ = some (.slice ad1 n1 cap1) ∧ y13.cell? ⟨PA + 1, 0, none⟩ = some (.int .i64 k) ∧ y13.cell? ⟨PA + 1, 1, none⟩ = some (.slice ad2 n2 cap2) ∧ y13.cell? ⟨PS, 0, none⟩ = some (.int .i64 WS) ∧ y13.cell? ⟨PS, 1, none⟩ = some (.slice ad3 n3 cap3) ∧ y13.cell? ⟨PI, 0, none⟩ = some (.int .i64 WI) ∧ y13.cell? ⟨PI, 1, none⟩ = some (.slice ad4 n4 cap4) from ⟨kA.c0, kA.c1, kB.c0, kB.c1, kS.c0, kS.c1, kI.c0, kI.c1⟩)
  refine hKq.out _ _ HH.out (fun _ => ?_)
  clear hKq Kq
  refine wpAnyH_take (i := 46) (oi := ⟨some _, _, _, _, _, _⟩) (v := ?_) rfl (by kernel_rfl) (by kernel_rfl) (by kernel_rfl) (fun _ _ _ h => h) (Or.inl ⟨by rfl, ?_⟩) HH.out ?_
  rotate_left
  · intro wS hSw
    try dsimp only at hSw
    go_simp
    all_goals (with_reducible rfl)
  simp only [Act.put, List.setIfInBounds_toArray, List.set_cons_zero, List.set_cons_succ]
  refine wpAnyH_take (i := 47) (oi := ⟨some _, _, _, _, _, _⟩) (v := ?_) rfl (by kernel_rfl) (by kernel_rfl) (by kernel_rfl) (fun _ _ _ h => h) (Or.inl ⟨by rfl, ?_⟩) HH.out ?_
  rotate_left
  · intro wS hSw
    try dsimp only at hSw
    go_simp
    all_goals (with_reducible rfl)
  simp only [Act.put, List.setIfInBounds_toArray, List.set_cons_zero, List.set_cons_succ]
  refine wpAnyH_take (i := 48) (oi := ⟨some _, _, _, _, _, _⟩) (v := ?_) rfl (by kernel_rfl) (by kernel_rfl) (by kernel_rfl) (fun _ _ _ h => h) (Or.inl ⟨by rfl, ?_⟩) HH.out ?_
  rotate_left
  · intro wS hSw
    try dsimp only at hSw
    go_simp
    all_goals (with_reducible rfl)
  simp only [Act.put, List.setIfInBounds_toArray, List.set_cons_zero, List.set_cons_succ]
  refine wpAnyH_take (i := 49) (oi := ⟨some _, _, _, _, _, _⟩) (v := ?_) rfl (by kernel_rfl) (by kernel_rfl) (by kernel_rfl) (fun _ _ _ h => h) (Or.inl ⟨by rfl, ?_⟩) HH.out ?_
  rotate_left
  · intro wS hSw
    try dsimp only at hSw
    go_simp
    all_goals (with_reducible rfl)
  simp only [Act.put, List.setIfInBounds_toArray, List.set_cons_zero, List.set_cons_succ]
  refine wpAnyH_take (i := 50) (oi := ⟨some _, _, _, _, _, _⟩) (v := ?_) rfl (by kernel_rfl) (by kernel_rfl) (by kernel_rfl) (fun _ _ _ h => h) (Or.inl ⟨by rfl, ?_⟩) HH.out ?_
  rotate_left
  · intro wS hSw
    try dsimp only at hSw
    go_simp
    all_goals (with_reducible rfl)
  simp only [Act.put, List.setIfInBounds_toArray, List.set_cons_zero, List.set_cons_succ]
  refine wpAnyH_take (i := 51) (oi := ⟨some _, _, _, _, _, _⟩) (v := ?_) rfl (by kernel_rfl) (by kernel_rfl) (by kernel_rfl) (fun _ _ _ h => h) (Or.inl ⟨by rfl, ?_⟩) HH.out ?_
  rotate_left
  · intro wS hSw
    try dsimp only at hSw
    go_simp
    all_goals (with_reducible rfl)
  simp only [Act.put, List.setIfInBounds_toArray, List.set_cons_zero, List.set_cons_succ]
  refine wpAnyH_take (i := 53) (oi := ⟨some _, _, _, _, _, _⟩) (v := ?_) rfl (by kernel_rfl) (by kernel_rfl) (by kernel_rfl) (fun _ _ _ h => h) (Or.inl ⟨by rfl, ?_⟩) HH.out ?_
  rotate_left
  · intro wS hSw
    try dsimp only at hSw
    go_simp
    all_goals (with_reducible rfl)
  simp only [Act.put, List.setIfInBounds_toArray, List.set_cons_zero, List.set_cons_succ]
  refine wpAnyH_take (i := 54) (oi := ⟨some _, _, _, _, _, _⟩) (v := ?_) rfl (by kernel_rfl) (by kernel_rfl) (by kernel_rfl) (fun _ _ _ h => h) (Or.inl ⟨by rfl, ?_⟩) HH.out ?_
  rotate_left
  · intro wS hSw
    try dsimp only at hSw
    go_simp
    all_goals (with_reducible rfl)
  simp only [Act.put, List.setIfInBounds_toArray, List.set_cons_zero, List.set_cons_succ]
  refine wpAnyH_ready (rs := [52]) (by kernel_rfl) (by simp) ?_
  refine AllReadyH.cons (o := ⟨some _, _, _, _, _, _⟩) rfl (fun Kq hKq => ?_) AllReadyH.nil
  go_simp
  refine (KUAB.out _ _ _ _ _ _ _ s1 s2).mono ?_
  rintro e y14 ⟨rfl, bl⟩
  have zy14 := bl.size
  replace kA := kA.below bl (by omega)
  replace kB := kB.below bl (by omega)
  replace kS := kS.below bl (by omega)
  replace kI := kI.below bl (by omega)
  replace s1 := BasisI_below s1 bl (.inr (Nat.le_refl _))
  replace s2 := BasisI_below s2 bl (.inr (Nat.le_refl _))
  replace sS := BasisI_below sS bl (.inr (Nat.le_refl _))
  replace sI := BasisI_below sI bl (.inr (Nat.le_refl _))
  replace frm := frm.trans (bl.mono (by omega))
  clear bl HH
  have HH := Lib.hid (show y14.cell? ⟨PA, 0, none⟩ = some (.int .i64 k) ∧ y14.cell? ⟨PA, 1, none⟩ = some (.slice ad1 n1 cap1) ∧ y14.cell? ⟨PA + 1, 0, none⟩ = some (.int .i64 k) ∧ y14.cell? ⟨PA + 1, 1, none⟩ = some (.slice ad2 n2 cap2) ∧ y14.cell? ⟨PS, 0, none⟩ = some (.int .i64 WS) ∧ y14.cell? ⟨PS, 1, none⟩ = some (.slice ad3 n3 cap3) ∧ y14.cell? ⟨PI, 0, none⟩ = some (.int .i64 WI) ∧ y14.cell? ⟨PI, 1, none⟩ = some (.slice ad4 n4 cap4) from ⟨kA.c0, kA.c1, kB.c0, kB.c1, kS.c0, kS.c1, kI.c0, kI.c1⟩)
  refine hKq.out _ _ HH.out (fun _ => ?_)
  clear hKq Kq
  refine wpAnyH_ready (rs := [55]) (by kernel_rfl) (by simp) ?_
  refine AllReadyH.cons (o := ⟨some _, _, _, _, _, _⟩) rfl (fun Kq hKq => ?_) AllReadyH.nil
  go_simp
  refine (KNBA.out _ _ _ _ _ _ _ s2 s1).mono ?_
  rintro e y15 ⟨rfl, bl⟩
  have zy15 := bl.size
  replace kA := kA.below bl (by omega)
  replace kB := kB.below bl (by omega)
  replace kS := kS.below bl (by omega)
  replace kI := kI.below bl (by omega)
  replace s1 := BasisI_below s1 bl (.inr (Nat.le_refl _))
  replace s2 := BasisI_below s2 bl (.inr (Nat.le_refl _))
  replace sS := BasisI_below sS bl (.inr (Nat.le_refl _))
  replace sI := BasisI_below sI bl (.inr (Nat.le_refl _))
  replace frm := frm.trans (bl.mono (by omega))
  clear bl HH
  have HH := Lib.hid (show y15.cell? ⟨PA, 0, none⟩ = some (.int .i64 k) ∧ y15.cell? ⟨PA, 1, none⟩ = some (.slice ad1 n1 cap1) ∧ y15.cell? ⟨PA + 1, 0, none⟩ = some (.int .i64 k) ∧ y15.cell? ⟨PA + 1, 1, none⟩ = some (.slice ad2 n2 cap2) ∧ y15.cell? ⟨PS, 0, none⟩ = some (.int .i64 WS) ∧ y15.cell? ⟨PS, 1, none⟩ = some (.slice ad3 n3 cap3) ∧ y15.cell? ⟨PI, 0, none⟩ = some (.int .i64 WI) ∧ y15.cell? ⟨PI, 1, none⟩ = some (.slice ad4 n4 cap4) from ⟨kA.c0, kA.c1, kB.c0, kB.c1, kS.c0, kS.c1, kI.c0, kI.c1⟩)
  refine hKq.out _ _ HH.out (fun _ => ?_)
  clear hKq Kq
  refine wpAnyH_take (i := 56) (oi := ⟨some _, _, _, _, _, _⟩) (v := ?_) rfl (by kernel_rfl) (by kernel_rfl) (by kernel_rfl) (fun _ _ _ h => h) (Or.inl ⟨by rfl, ?_⟩) HH.out ?_
  rotate_left
  · intro wS hSw
    try dsimp only at hSw
    go_simp
    all_goals (with_reducible rfl)
  simp only [Act.put, List.setIfInBounds_toArray, List.set_cons_zero, List.set_cons_succ]
  refine wpAnyH_take (i := 57) (oi := ⟨some _, _, _, _, _, _⟩) (v := ?_) rfl (by kernel_rfl) (by kernel_rfl) (by kernel_rfl) (fun _ _ _ h => h) (Or.inl ⟨by rfl, ?_⟩) HH.out ?_
  rotate_left
  · intro wS hSw
    try dsimp only at hSw
    go_simp
    all_goals (with_reducible rfl)
  simp only [Act.put, List.setIfInBounds_toArray, List.set_cons_zero, List.set_cons_succ]
  refine wpAnyH_take (i := 58) (oi := ⟨some _, _, _, _, _, _⟩) (v := ?_) rfl (by kernel_rfl) (by kernel_rfl) (by kernel_rfl) (fun _ _ _ h => h) (Or.inl ⟨by rfl, ?_⟩) HH.out ?_
  rotate_left
  · intro wS hSw
    try dsimp only at hSw
    go_simp
    all_goals (with_reducible rfl)
  simp only [Act.put, List.setIfInBounds_toArray, List.set_cons_zero, List.set_cons_succ]
  refine wpAnyH_take (i := 59) (oi := ⟨some _, _, _, _, _, _⟩) (v := ?_) rfl (by kernel_rfl) (by kernel_rfl) (by kernel_rfl) (fun _ _ _ h => h) (Or.inl ⟨by rfl, ?_⟩) HH.out ?_
  rotate_left
  · intro wS hSw
    try dsimp only at hSw
    go_simp
    all_goals (with_reducible rfl)
  simp only [Act.put, List.setIfInBounds_toArray, List.set_cons_zero, List.set_cons_succ]
  refine wpAnyH_done (by kernel_rfl) ?_ _
  go_wp2
  go_ret
  exact ⟨by simp, frm⟩
end Go.Proofs.YtefcfeikooknmaaGreat.LawSub
namespace Go.Proofs.YtefcfeikooknmaaGreat.LawSubEnd
open Go.ChangeShapes Go.WideShapes Go.ChangeAt Go.RowKit
open Go.Proofs.YtefcfeikooknmaaGreat.Seq Go.Proofs.YtefcfeikooknmaaGreat.Help
theorem subspaces (w : World) (v : Value) (ad : Option Addr) (n cap : Nat) (ia : Kit.IntsAt .u8 w v ad n cap) :
    Calls Tryz.prog 3 #[v] w fun e w' => e = .returned (.bool true) ∧ Below w.heap.size w w' := LawSub.subspaces SubI.sum SubI.inter BasI.dim SubI.sub BasI.eq SubI.innov w v ad n cap ia
end Go.Proofs.YtefcfeikooknmaaGreat.LawSubEnd
