/-
  The contracts of chapter 8 as the exact laws take them.
  Exact laws walked, over the contracts of what they call.
-/
import Derived.Test.YtaieadpbfonkiaaGM
import Derived.Test.YtaieadpbfonkiaaGN
import Derived.Test.YtaieadpbfonkiaaGA
namespace Go.Proofs.Ytaieadpbfonkiaa.BasEx
open Go.ChangeShapes Go.WideShapes Go.ChangeAt Go.RowKit
open Go.Proofs.Ytaieadpbfonkiaa.Seq Go.Proofs.Ytaieadpbfonkiaa.Help Go.Proofs.Ytaieadpbfonkiaa.Vec Go.Proofs.Ytaieadpbfonkiaa.Rref Go.Proofs.Ytaieadpbfonkiaa.RedW Go.Proofs.Ytaieadpbfonkiaa.Shape Go.Proofs.Ytaieadpbfonkiaa.Bas Go.Proofs.Ytaieadpbfonkiaa.BasW
variable {l h l2 h2 : Nat} {v v2 : Value} {b b2 : Bs} {xs : List Int}
noncomputable def insR (W : Int) (rows : List (List Int)) (v : List Int) : Bs × Bool := ((W, insertV W rows v), inserted W rows v)
theorem fit_ins {W : Int} {rows : List (List Int)} (v : List Int) (h : Small rows) : BasisF (insR W rows v).1 := by
  show Small (insertV W rows v)
  unfold insertV
  cases inserted W rows v
  · exact h
  · have := few_rref (rows ++ [v])
    exact ⟨by show (rref (rows ++ [v])).length ≤ 1048576; omega, fun xs hx => by have := this.2 xs hx; omega⟩
theorem fit_new (W : Int) : BasisF (newB W) := by
  unfold newB
  exact ⟨Nat.zero_le _, by simp⟩
theorem fit_red {W : Int} {rows : List (List Int)} {v : List Int} (h : IntSF v) : IntSF (reduceV W rows v) := Nat.le_trans (reduceV_le v) h
theorem fit_free (W : Int) (rows : List (List Int)) : IntSF (freeOf W rows) := Nat.le_trans (freeOf_le W rows) (by omega)
theorem newS (w : World) (W : Int) (h0 : -9223372036854775808 ≤ W) (h1 : W ≤ 9223372036854775807) : Calls Try.prog 26 #[.int .i64 W] w (Ret (fun w l h u => BasisI w l h u (newB W)) w) :=
  (spec_new w W h0 h1).mono fun _ _ ⟨u, e, r, b⟩ => ⟨u, e, BasisO_is r.own, b⟩
theorem validS (w : World) (s : BasisI w l h v b) (_ : BasisF b) : Calls Try.prog 15 #[v] w (Says (.bool (isBas b.1 b.2)) w) := spec_isBas w s
theorem dimS (w : World) (s : BasisI w l h v b) (_ : BasisF b) : Calls Try.prog 40 #[v] w (Says (.int .i64 (dimOf b.1 b.2)) w) := spec_dim w s
theorem freeS (w : World) (s : BasisI w l h v b) (_ : BasisF b) : Calls Try.prog 41 #[v] w (Ret (fun w l h u => IntSO w l h u (freeOf b.1 b.2)) w) := spec_free w s
theorem eqS (w : World) (s : BasisI w l h v b) (f : BasisF b) (s2 : BasisI w l2 h2 v2 b2) (_ : BasisF b2) : Calls Try.prog 42 #[v, v2] w (Says (.bool (sameB b.1 b.2 b2.1 b2.2)) w) := spec_eqB w s s2 f.rows
theorem redS (w : World) (s : BasisI w l h v b) (_ : BasisF b) (s2 : IntSI w l2 h2 v2 xs) (_ : IntSF xs) : Calls Try.prog 33 #[v, v2] w (Ret (fun w l h u => IntSO w l h u (reduceV b.1 b.2 xs)) w) := by
  obtain ⟨_, _, _, rfl, s2⟩ := s2
  exact spec_redv w s s2
theorem red (c : RedOp) (w : World) (s : BasisI w l h v b) (f : BasisF b) (s2 : IntSI w l2 h2 v2 xs) (f2 : IntSF xs) : Calls Try.prog 19 #[v, v2] w (Ret (fun w l h u => IntSO w l h u (reduceV b.1 b.2 xs)) w) := by
  obtain ⟨_, _, _, rfl, s2⟩ := s2
  exact c w s f s2 f2
theorem hasS (w : World) (s : BasisI w l h v b) (_ : BasisF b) (s2 : IntSI w l2 h2 v2 xs) (_ : IntSF xs) : Calls Try.prog 38 #[v, v2] w (Says (.bool (contains b.1 b.2 xs)) w) := by
  obtain ⟨_, _, _, rfl, s2⟩ := s2
  exact spec_contains w s s2
theorem has (c : HasOp) (w : World) (s : BasisI w l h v b) (f : BasisF b) (s2 : IntSI w l2 h2 v2 xs) (f2 : IntSF xs) : Calls Try.prog 18 #[v, v2] w (Says (.bool (contains b.1 b.2 xs)) w) := by
  obtain ⟨_, _, _, rfl, s2⟩ := s2
  exact c w s f s2 f2
theorem insS (w : World) (s : BasisI w l h v b) (f : BasisF b) (s2 : IntSI w l2 h2 v2 xs) (_ : IntSF xs) : Calls Try.prog 39 #[v, v2] w (RetB (fun w l h u => BasisI w l h u (insR b.1 b.2 xs).1) (insR b.1 b.2 xs).2 w) := by
  obtain ⟨_, _, _, rfl, s2⟩ := s2
  exact (spec_insert w s f s2).mono fun _ _ ⟨u, e, r, b⟩ => ⟨u, e, r.reads, b⟩
theorem ins (c : InsOp) (w : World) (s : BasisI w l h v b) (f : BasisF b) (s2 : IntSI w l2 h2 v2 xs) (f2 : IntSF xs) : Calls Try.prog 14 #[v, v2] w (RetB (fun w l h u => BasisO w l h u (insR b.1 b.2 xs).1) (insR b.1 b.2 xs).2 w) := by
  obtain ⟨_, _, _, rfl, s2⟩ := s2
  exact c w s f s2 f2
end Go.Proofs.Ytaieadpbfonkiaa.BasEx
namespace Go.Proofs.Ytaieadpbfonkiaa.LawBasEx
open Go.ChangeShapes Go.WideShapes Go.ChangeAt Go.RowKit
open Go.Proofs.Ytaieadpbfonkiaa.Drawn Go.Proofs.Ytaieadpbfonkiaa.Seq Go.Proofs.Ytaieadpbfonkiaa.Help Go.Proofs.Ytaieadpbfonkiaa.Shape

set_option maxRecDepth 100000 in
set_option maxHeartbeats 1600000 in
theorem exactNewBasis (w : World) (aWidth : Int) (wfWidth : (Lit.int .i64 aWidth).wf = true) :
    Calls Try.prog 4 #[.int .i64 aWidth] w fun e w' => e = .returned (.bool true) ∧ Below w.heap.size w w' := by
  obtain ⟨loWidth, hiWidth⟩ := fits_i64.1 wfWidth
  clear wfWidth
  have frm := Below.refl w.heap.size w
  have cS := fun (w' : World) => BasEx.newS w' aWidth loWidth hiWidth
  have cI := fun (w' : World) => BasI.new w' aWidth loWidth hiWidth
  try dsimp only at cS cI
  have hfit : BasisF ((BasW.newB aWidth)) := by exact BasEx.fit_new aWidth
  generalize hR : (BasW.newB aWidth) = R at cS cI hfit
  clear hR
  obtain ⟨WR, MR⟩ := R
  have HS := Lib.hid cS
  have HI := Lib.hid cI
  clear cS cI
  have hcnt := BasisC_le hfit
  go_enter Try.func4, Try.ntmps4
  go_wp2_with fail
  go_at_call 26
  refine (HS.out _).mono ?_
  rintro e w1 ⟨u1, rfl, r1, bl⟩
  have z1 := bl.size
  replace frm := frm.trans (bl.mono (by omega))
  clear bl
  obtain ⟨_, rfl, hw1, ad1, n1, cap1, rfl, r1⟩ := r1
  replace r1 : BasisI w1 _ _ (.agg #[.int .i64 WR, .slice ad1 n1 cap1]) (WR, MR) := ⟨_, rfl, hw1, _, _, _, rfl, r1⟩
  have kw0 := Blk.new w1 (.int .i64 WR) (.slice ad1 n1 cap1) 26
  have hb := below_box w1 (.cells #[.int .i64 WR, .slice ad1 n1 cap1] 26)
  have zb1 : (w1.alloc (.cells #[.int .i64 WR, .slice ad1 n1 cap1] 26)).heap.size = w1.heap.size + 1 := by simp
  replace r1 := BasisI_below r1 hb (.inr (Nat.le_refl _))
  replace frm := frm.trans (hb.mono (by omega))
  clear hb
  have cw00 := kw0.c0
  have cw01 := kw0.c1
  go_wp2_with fail
  go_at_call 27
  generalize w1.alloc (.cells #[.int .i64 WR, .slice ad1 n1 cap1] 26) = y0 at *
  refine (HI.out _).mono ?_
  rintro e w2 ⟨u2, rfl, r2, bl⟩
  have z2 := bl.size
  replace r1 := BasisI_below r1 bl (by omega)
  replace kw0 := kw0.below bl (by omega)
  clear cw00 cw01
  have cw00 := kw0.c0
  have cw01 := kw0.c1
  replace frm := frm.trans (bl.mono (by omega))
  clear bl
  obtain ⟨_, rfl, hw2, ad2, n2, cap2, us2, rfl, r2⟩ := r2
  replace r2 : BasisO w2 _ _ (.agg #[.int .i64 WR, .slice ad2 n2 cap2]) (WR, MR) := ⟨_, rfl, hw2, _, _, _, _, rfl, r2⟩
  have kg0 := Blk.new w2 (.int .i64 WR) (.slice ad2 n2 cap2) 26
  have hb := below_box w2 (.cells #[.int .i64 WR, .slice ad2 n2 cap2] 26)
  have zb2 : (w2.alloc (.cells #[.int .i64 WR, .slice ad2 n2 cap2] 26)).heap.size = w2.heap.size + 1 := by simp
  replace r1 := BasisI_below r1 hb (.inr (Nat.le_refl _))
  replace r2 := BasisO_below r2 hb (.inr (Nat.le_refl _))
  replace kw0 := kw0.alloc (.cells #[.int .i64 WR, .slice ad2 n2 cap2] 26)
  clear cw00 cw01
  have cw00 := kw0.c0
  have cw01 := kw0.c1
  replace frm := frm.trans (hb.mono (by omega))
  clear hb
  have cg00 := kg0.c0
  have cg01 := kg0.c1
  go_wp2_with fail
  go_at_call 28
  generalize w2.alloc (.cells #[.int .i64 WR, .slice ad2 n2 cap2] 26) = y1 at *
  refine (eqBasis (BasisO_is r2) r1 hfit rfl).mono ?_
  rintro e w3 ⟨rfl, bl⟩
  have z3 := bl.size
  replace r1 := BasisI_below r1 bl (by omega)
  replace r2 := BasisO_below r2 bl (by omega)
  replace kw0 := kw0.below bl (by omega)
  clear cw00 cw01
  have cw00 := kw0.c0
  have cw01 := kw0.c1
  replace kg0 := kg0.below bl (by omega)
  clear cg00 cg01
  have cg00 := kg0.c0
  have cg01 := kg0.c1
  replace frm := frm.trans (bl.mono (by omega))
  clear bl
  go_wp2_with fail
  go_at_call 29
  refine (markBasis r2 hfit (1) (by omega) (by omega)).mono ?_
  rintro e w4 ⟨rfl, new, mv⟩
  have z4 := mv.size
  replace r1 := BasisI_mv r1 mv (by omega)
  replace kw0 := kw0.mv mv (by omega)
  clear cw00 cw01
  have cw00 := kw0.c0
  have cw01 := kw0.c1
  replace kg0 := kg0.mv mv (by omega)
  clear cg00 cg01
  have cg00 := kg0.c0
  have cg01 := kg0.c1
  replace frm := frm.trans (mv.below (by omega) (by omega))
  have r2m := new
  clear new mv
  go_wp2_with fail
  go_at_call 30
  refine (heldBasis (1) (BasisO_is r2m) hfit (by omega) (by omega)).mono ?_
  rintro e w5 ⟨rfl, bl⟩
  have z5 := bl.size
  replace r1 := BasisI_below r1 bl (by omega)
  replace r2m := BasisO_below r2m bl (by omega)
  replace kw0 := kw0.below bl (by omega)
  clear cw00 cw01
  have cw00 := kw0.c0
  have cw01 := kw0.c1
  replace kg0 := kg0.below bl (by omega)
  clear cg00 cg01
  have cg00 := kg0.c0
  have cg01 := kg0.c1
  replace frm := frm.trans (bl.mono (by omega))
  clear bl
  go_wp2_with fail
  go_at_call 27
  refine (HI.out _).mono ?_
  rintro e w6 ⟨u6, rfl, r6, bl⟩
  have z6 := bl.size
  replace r1 := BasisI_below r1 bl (by omega)
  replace r2m := BasisO_below r2m bl (by omega)
  replace kw0 := kw0.below bl (by omega)
  clear cw00 cw01
  have cw00 := kw0.c0
  have cw01 := kw0.c1
  replace kg0 := kg0.below bl (by omega)
  clear cg00 cg01
  have cg00 := kg0.c0
  have cg01 := kg0.c1
  replace frm := frm.trans (bl.mono (by omega))
  clear bl
  obtain ⟨_, rfl, hw6, ad6, n6, cap6, us6, rfl, r6⟩ := r6
  replace r6 : BasisO w6 _ _ (.agg #[.int .i64 WR, .slice ad6 n6 cap6]) (WR, MR) := ⟨_, rfl, hw6, _, _, _, _, rfl, r6⟩
  have kh0 := Blk.new w6 (.int .i64 WR) (.slice ad6 n6 cap6) 26
  have hb := below_box w6 (.cells #[.int .i64 WR, .slice ad6 n6 cap6] 26)
  have zb6 : (w6.alloc (.cells #[.int .i64 WR, .slice ad6 n6 cap6] 26)).heap.size = w6.heap.size + 1 := by simp
  replace r1 := BasisI_below r1 hb (.inr (Nat.le_refl _))
  replace r2m := BasisO_below r2m hb (.inr (Nat.le_refl _))
  replace r6 := BasisO_below r6 hb (.inr (Nat.le_refl _))
  replace kw0 := kw0.alloc (.cells #[.int .i64 WR, .slice ad6 n6 cap6] 26)
  clear cw00 cw01
  have cw00 := kw0.c0
  have cw01 := kw0.c1
  replace kg0 := kg0.alloc (.cells #[.int .i64 WR, .slice ad6 n6 cap6] 26)
  clear cg00 cg01
  have cg00 := kg0.c0
  have cg01 := kg0.c1
  replace frm := frm.trans (hb.mono (by omega))
  clear hb
  have ch00 := kh0.c0
  have ch01 := kh0.c1
  go_wp2_with fail
  go_at_call 28
  generalize w6.alloc (.cells #[.int .i64 WR, .slice ad6 n6 cap6] 26) = y2 at *
  refine (eqBasis (BasisO_is r6) r1 hfit rfl).mono ?_
  rintro e w7 ⟨rfl, bl⟩
  have z7 := bl.size
  replace r2m := BasisO_below r2m bl (by omega)
  replace kw0 := kw0.below bl (by omega)
  clear cw00 cw01
  have cw00 := kw0.c0
  have cw01 := kw0.c1
  replace kg0 := kg0.below bl (by omega)
  clear cg00 cg01
  have cg00 := kg0.c0
  have cg01 := kg0.c1
  replace kh0 := kh0.below bl (by omega)
  clear ch00 ch01
  have ch00 := kh0.c0
  have ch01 := kh0.c1
  replace frm := frm.trans (bl.mono (by omega))
  clear bl
  clear r6
  go_wp2_with fail
  go_at_call 30
  refine (heldBasis (1) (BasisO_is r2m) hfit (by omega) (by omega)).mono ?_
  rintro e w8 ⟨rfl, bl⟩
  have z8 := bl.size
  replace kw0 := kw0.below bl (by omega)
  clear cw00 cw01
  have cw00 := kw0.c0
  have cw01 := kw0.c1
  replace kg0 := kg0.below bl (by omega)
  clear cg00 cg01
  have cg00 := kg0.c0
  have cg01 := kg0.c1
  replace kh0 := kh0.below bl (by omega)
  clear ch00 ch01
  have ch00 := kh0.c0
  have ch01 := kh0.c1
  replace frm := frm.trans (bl.mono (by omega))
  clear bl
  clear r2m
  go_wp2
  go_ret
  exact ⟨rfl, frm⟩

set_option maxRecDepth 100000 in
set_option maxHeartbeats 1600000 in
theorem exactIsValidBasis (w : World) (vB : Value) (iaB : ∃ x, BasisI w 0 w.heap.size vB x) :
    Calls Try.prog 5 #[vB] w fun e w' => e = .returned (.bool true) ∧ Below w.heap.size w w' := by
  obtain ⟨⟨WB, MB⟩, _, rfl, hwB, adB, nB, capB, rfl, sB⟩ := iaB
  replace sB : BasisI w 0 w.heap.size (.agg #[.int .i64 WB, .slice adB nB capB]) (WB, MB) := ⟨_, rfl, hwB, _, _, _, rfl, sB⟩
  have frm := Below.refl w.heap.size w
  have kB := Blk.new w (.int .i64 WB) (.slice adB nB capB) 44
  replace frm := frm.alloc (by first | exact Nat.le_refl _ | (simp; done) | (simp; omega)) (.cells #[.int .i64 WB, .slice adB nB capB] 44)
  replace sB := BasisI_below sB frm (.inr (Nat.le_refl _))
  have cB0 := kB.c0
  have cB1 := kB.c1
  have zw : (w.alloc (.cells #[.int .i64 WB, .slice adB nB capB] 44)).heap.size = w.heap.size + 1 := by simp
  go_enter Try.func5, Try.ntmps5
  go_wp2_with fail
  go_at_call 31
  generalize w.alloc (.cells #[.int .i64 WB, .slice adB nB capB] 44) = y0 at *
  refine (szBasis sB 1048576 (by omega) (by omega)).mono ?_
  rintro e wsB ⟨leftB, rfl, leB, riB, fB, bl⟩
  have zsB := bl.size
  replace sB := BasisI_below sB bl (by omega)
  replace kB := kB.below bl (by omega)
  clear cB0 cB1
  have cB0 := kB.c0
  have cB1 := kB.c1
  replace frm := frm.trans (bl.mono (by omega))
  clear bl
  by_cases hlB : 0 ≤ leftB
  case neg =>
    clear fB
    go_wp2
    go_ret
    exact ⟨rfl, frm⟩
  replace fB := fB hlB
  have cS := fun (w' : World) (lB hB : Nat) (uB : Value) (sB : BasisI w' lB hB uB (WB, MB)) => BasEx.validS w' sB fB
  have cI := fun (w' : World) (lB hB : Nat) (uB : Value) (sB : BasisI w' lB hB uB (WB, MB)) => BasI.valid w' sB fB
  try dsimp only at cS cI
  generalize hR : (Bas.isBas WB MB) = R at cS cI
  clear hR
  have HS := Lib.hid cS
  have HI := Lib.hid cI
  clear cS cI
  have hkB := BasisC_le fB
  go_wp2_with fail
  go_at_call 32
  refine (toBasis sB fB).mono ?_
  rintro e w1 ⟨u1, rfl, r1, bl⟩
  have z1 := bl.size
  replace sB := BasisI_below sB bl (by omega)
  replace kB := kB.below bl (by omega)
  clear cB0 cB1
  have cB0 := kB.c0
  have cB1 := kB.c1
  replace frm := frm.trans (bl.mono (by omega))
  clear bl
  obtain ⟨_, rfl, hw1, ad1, n1, cap1, us1, rfl, r1⟩ := r1
  replace r1 : BasisO w1 _ _ (.agg #[.int .i64 WB, .slice ad1 n1 cap1]) (WB, MB) := ⟨_, rfl, hw1, _, _, _, _, rfl, r1⟩
  go_wp2_with fail
  go_at_call 15
  refine (HS.out _ _ _ _ (BasisO_is r1)).mono ?_
  rintro e w2 ⟨rfl, bl⟩
  have z2 := bl.size
  replace sB := BasisI_below sB bl (by omega)
  replace kB := kB.below bl (by omega)
  clear cB0 cB1
  have cB0 := kB.c0
  have cB1 := kB.c1
  replace frm := frm.trans (bl.mono (by omega))
  clear bl
  clear r1
  go_wp2_with fail
  go_at_call 32
  refine (toBasis sB fB).mono ?_
  rintro e w3 ⟨u3, rfl, r3, bl⟩
  have z3 := bl.size
  replace sB := BasisI_below sB bl (by omega)
  replace kB := kB.below bl (by omega)
  clear cB0 cB1
  have cB0 := kB.c0
  have cB1 := kB.c1
  replace frm := frm.trans (bl.mono (by omega))
  clear bl
  obtain ⟨_, rfl, hw3, ad3, n3, cap3, us3, rfl, r3⟩ := r3
  replace r3 : BasisO w3 _ _ (.agg #[.int .i64 WB, .slice ad3 n3 cap3]) (WB, MB) := ⟨_, rfl, hw3, _, _, _, _, rfl, r3⟩
  have kx0 := Blk.new w3 (.int .i64 WB) (.slice ad3 n3 cap3) 26
  have hb := below_box w3 (.cells #[.int .i64 WB, .slice ad3 n3 cap3] 26)
  have zb3 : (w3.alloc (.cells #[.int .i64 WB, .slice ad3 n3 cap3] 26)).heap.size = w3.heap.size + 1 := by simp
  replace sB := BasisI_below sB hb (.inr (Nat.le_refl _))
  replace r3 := BasisO_below r3 hb (.inr (Nat.le_refl _))
  replace kB := kB.alloc (.cells #[.int .i64 WB, .slice ad3 n3 cap3] 26)
  clear cB0 cB1
  have cB0 := kB.c0
  have cB1 := kB.c1
  replace frm := frm.trans (hb.mono (by omega))
  clear hb
  have cx00 := kx0.c0
  have cx01 := kx0.c1
  go_wp2_with fail
  go_at_call 20
  generalize w3.alloc (.cells #[.int .i64 WB, .slice ad3 n3 cap3] 26) = y1 at *
  refine (HI.out _ _ _ _ (BasisO_is r3)).mono ?_
  rintro e w4 ⟨rfl, bl⟩
  have z4 := bl.size
  replace sB := BasisI_below sB bl (by omega)
  replace r3 := BasisO_below r3 bl (by omega)
  replace kB := kB.below bl (by omega)
  clear cB0 cB1
  have cB0 := kB.c0
  have cB1 := kB.c1
  replace kx0 := kx0.below bl (by omega)
  clear cx00 cx01
  have cx00 := kx0.c0
  have cx01 := kx0.c1
  replace frm := frm.trans (bl.mono (by omega))
  clear bl
  go_wp2
  replace sB := BasisI_mv sB (Mv.drew (Mv.refl w4 0 0)) (.inr (Nat.zero_le _))
  replace r3 := BasisO_mv r3 (Mv.drew (Mv.refl w4 0 0)) (.inr (Nat.zero_le _))
  replace kB : Blk w4.drew (w.heap.size) _ (.int .i64 WB) (.slice adB nB capB) := ⟨kB.obj⟩
  clear cB0 cB1
  have cB0 := kB.c0
  have cB1 := kB.c1
  replace kx0 : Blk w4.drew (w3.heap.size) _ (.int .i64 WB) (.slice ad3 n3 cap3) := ⟨kx0.obj⟩
  clear cx00 cx01
  have cx00 := kx0.c0
  have cx01 := kx0.c1
  replace frm := frm.drew
  have zd : w4.heap.size = w4.drew.heap.size := rfl
  refine wp_region_held (S := fun w' => w'.cell? ⟨w.heap.size, 0, none⟩ = some (.int .i64 WB) ∧ w'.cell? ⟨w.heap.size, 1, none⟩ = some (.slice adB nB capB) ∧ w'.cell? ⟨w3.heap.size, 0, none⟩ = some (.int .i64 WB) ∧ w'.cell? ⟨w3.heap.size, 1, none⟩ = some (.slice ad3 n3 cap3)) (by kernel_rfl) ?_
  change wpAnyH _ _ _ _ _ _ _ _ w4.drew
  generalize w4.drew = d0 at *
  have HH := Lib.hid (show d0.cell? ⟨w.heap.size, 0, none⟩ = some (.int .i64 WB) ∧ d0.cell? ⟨w.heap.size, 1, none⟩ = some (.slice adB nB capB) ∧ d0.cell? ⟨w3.heap.size, 0, none⟩ = some (.int .i64 WB) ∧ d0.cell? ⟨w3.heap.size, 1, none⟩ = some (.slice ad3 n3 cap3) from ⟨cB0, cB1, cx00, cx01⟩)
  refine wpAnyH_take (i := 0) (oi := ⟨some _, _, _, _, _, _⟩) (v := ?_) rfl (by kernel_rfl) (by kernel_rfl) (by kernel_rfl) (fun _ _ _ h => h) (Or.inl ⟨by rfl, ?_⟩) HH.out ?_
  rotate_left
  · intro wS hSw
    try dsimp only at hSw
    go_simp
    all_goals (with_reducible rfl)
  simp only [Act.put, List.setIfInBounds_toArray, List.set_cons_zero, List.set_cons_succ]
  refine wpAnyH_take (i := 1) (oi := ⟨some _, _, _, _, _, _⟩) (v := ?_) rfl (by kernel_rfl) (by kernel_rfl) (by kernel_rfl) (fun _ _ _ h => h) (Or.inl ⟨by rfl, ?_⟩) HH.out ?_
  rotate_left
  · intro wS hSw
    try dsimp only at hSw
    go_simp
    all_goals (with_reducible rfl)
  simp only [Act.put, List.setIfInBounds_toArray, List.set_cons_zero, List.set_cons_succ]
  clear HH
  refine wpAnyH_ready (rs := [2]) (by kernel_rfl) (by simp) ?_
  refine AllReadyH.cons (o := ⟨some _, _, _, _, _, _⟩) rfl (fun Kq hKq => ?_) AllReadyH.nil
  go_simp
  refine (toBasis sB fB).mono ?_
  rintro e w5 ⟨u5, rfl, r5, bl⟩
  have z5 := bl.size
  replace r3 := BasisO_below r3 bl (by omega)
  replace kB := kB.below bl (by omega)
  clear cB0 cB1
  have cB0 := kB.c0
  have cB1 := kB.c1
  replace kx0 := kx0.below bl (by omega)
  clear cx00 cx01
  have cx00 := kx0.c0
  have cx01 := kx0.c1
  replace frm := frm.trans (bl.mono (by omega))
  clear bl
  obtain ⟨_, rfl, hw5, ad5, n5, cap5, us5, rfl, r5⟩ := r5
  replace r5 : BasisO w5 _ _ (.agg #[.int .i64 WB, .slice ad5 n5 cap5]) (WB, MB) := ⟨_, rfl, hw5, _, _, _, _, rfl, r5⟩
  have HH := Lib.hid (show w5.cell? ⟨w.heap.size, 0, none⟩ = some (.int .i64 WB) ∧ w5.cell? ⟨w.heap.size, 1, none⟩ = some (.slice adB nB capB) ∧ w5.cell? ⟨w3.heap.size, 0, none⟩ = some (.int .i64 WB) ∧ w5.cell? ⟨w3.heap.size, 1, none⟩ = some (.slice ad3 n3 cap3) from ⟨cB0, cB1, cx00, cx01⟩)
  refine hKq.out _ _ HH.out (fun _ => ?_)
  clear hKq Kq
  clear HH
  refine wpAnyH_ready (rs := [3]) (by kernel_rfl) (by simp) ?_
  refine AllReadyH.cons (o := ⟨some _, _, _, _, _, _⟩) rfl (fun Kq hKq => ?_) AllReadyH.nil
  go_simp
  refine (eqBasis (BasisO_is r3) (BasisO_is r5) fB rfl).mono ?_
  rintro e w6 ⟨rfl, bl⟩
  have z6 := bl.size
  replace kB := kB.below bl (by omega)
  clear cB0 cB1
  have cB0 := kB.c0
  have cB1 := kB.c1
  replace kx0 := kx0.below bl (by omega)
  clear cx00 cx01
  have cx00 := kx0.c0
  have cx01 := kx0.c1
  replace frm := frm.trans (bl.mono (by omega))
  clear bl
  have HH := Lib.hid (show w6.cell? ⟨w.heap.size, 0, none⟩ = some (.int .i64 WB) ∧ w6.cell? ⟨w.heap.size, 1, none⟩ = some (.slice adB nB capB) ∧ w6.cell? ⟨w3.heap.size, 0, none⟩ = some (.int .i64 WB) ∧ w6.cell? ⟨w3.heap.size, 1, none⟩ = some (.slice ad3 n3 cap3) from ⟨cB0, cB1, cx00, cx01⟩)
  refine hKq.out _ _ HH.out (fun _ => ?_)
  clear hKq Kq
  try simp only [Act.put, List.setIfInBounds_toArray, List.set_cons_zero, List.set_cons_succ]
  refine wpAnyH_take (i := 4) (oi := ⟨some _, _, _, _, _, _⟩) (v := ?_) rfl (by kernel_rfl) (by kernel_rfl) (by kernel_rfl) (fun _ _ _ h => h) (Or.inl ⟨by rfl, ?_⟩) HH.out ?_
  rotate_left
  · intro wS hSw
    try dsimp only at hSw
    go_simp
    all_goals (with_reducible rfl)
  simp only [Act.put, List.setIfInBounds_toArray, List.set_cons_zero, List.set_cons_succ]
  refine wpAnyH_done (by kernel_rfl) ?_ _
  clear HH
  clear r3
  clear r5
  go_wp2
  go_ret
  exact ⟨rfl, frm⟩

set_option maxRecDepth 100000 in
set_option maxHeartbeats 1600000 in
theorem exactReduceVector (w : World) (vB : Value) (iaB : ∃ x, BasisI w 0 w.heap.size vB x) (vV : Value) (iaV : ∃ x, IntSI w 0 w.heap.size vV x) :
    Calls Try.prog 6 #[vB, vV] w fun e w' => e = .returned (.bool true) ∧ Below w.heap.size w w' := by
  obtain ⟨⟨WB, MB⟩, _, rfl, hwB, adB, nB, capB, rfl, sB⟩ := iaB
  replace sB : BasisI w 0 w.heap.size (.agg #[.int .i64 WB, .slice adB nB capB]) (WB, MB) := ⟨_, rfl, hwB, _, _, _, rfl, sB⟩
  obtain ⟨xV, adV, nV, capV, rfl, sV⟩ := iaV
  have frm := Below.refl w.heap.size w
  have kB := Blk.new w (.int .i64 WB) (.slice adB nB capB) 44
  replace frm := frm.alloc (by first | exact Nat.le_refl _ | (simp; done) | (simp; omega)) (.cells #[.int .i64 WB, .slice adB nB capB] 44)
  replace sB := BasisI_below sB frm (.inr (Nat.le_refl _))
  replace sV := sV.below frm (.inr (Nat.le_refl _))
  have cB0 := kB.c0
  have cB1 := kB.c1
  have zw : (w.alloc (.cells #[.int .i64 WB, .slice adB nB capB] 44)).heap.size = w.heap.size + 1 := by simp
  rcases Nat.lt_or_ge 1048576 nV with bigV | bigV
  · have hbV := sV.big
    have hcV := sV.le
    unfold maxLen at hbV
    go_enter Try.func6, Try.ntmps6
    go_wp2
    go_ret
    exact ⟨rfl, frm⟩
  have fV : IntSF xV := by have := sV.len; show xV.length ≤ 1048576; omega
  have hbV := sV.big
  have hcV := sV.le
  unfold maxLen at hbV
  replace sV : IntSI _ 0 w.heap.size (.slice adV nV capV) xV := ⟨_, _, _, rfl, sV⟩
  go_enter Try.func6, Try.ntmps6
  go_wp2_with fail
  go_at_call 31
  generalize w.alloc (.cells #[.int .i64 WB, .slice adB nB capB] 44) = y0 at *
  refine (szBasis sB 1048576 (by omega) (by omega)).mono ?_
  rintro e wsB ⟨leftB, rfl, leB, riB, fB, bl⟩
  have zsB := bl.size
  replace sB := BasisI_below sB bl (by omega)
  replace sV := IntSI_below sV bl (by omega)
  replace kB := kB.below bl (by omega)
  clear cB0 cB1
  have cB0 := kB.c0
  have cB1 := kB.c1
  replace frm := frm.trans (bl.mono (by omega))
  clear bl
  by_cases hlB : 0 ≤ leftB
  case neg =>
    clear fB
    go_wp2
    go_ret
    exact ⟨rfl, frm⟩
  replace fB := fB hlB
  have cS := fun (w' : World) (lB hB : Nat) (uB : Value) (sB : BasisI w' lB hB uB (WB, MB)) (lV hV : Nat) (uV : Value) (sV : IntSI w' lV hV uV xV) => BasEx.redS w' sB fB sV fV
  have cI := fun (w' : World) (lB hB : Nat) (uB : Value) (sB : BasisI w' lB hB uB (WB, MB)) (lV hV : Nat) (uV : Value) (sV : IntSI w' lV hV uV xV) => BasEx.red BasI.red w' sB fB sV fV
  try dsimp only at cS cI
  have hfit : IntSF ((Bas.reduceV WB MB xV)) := by exact BasEx.fit_red fV
  generalize hR : (Bas.reduceV WB MB xV) = R at cS cI hfit
  clear hR
  have HS := Lib.hid cS
  have HI := Lib.hid cI
  clear cS cI
  have hcnt := IntSC_le hfit
  have hkB := BasisC_le fB
  have hkV := IntSC_le fV
  go_wp2_with fail
  go_at_call 32
  refine (toBasis sB fB).mono ?_
  rintro e w1 ⟨u1, rfl, r1, bl⟩
  have z1 := bl.size
  replace sB := BasisI_below sB bl (by omega)
  replace sV := IntSI_below sV bl (by omega)
  replace kB := kB.below bl (by omega)
  clear cB0 cB1
  have cB0 := kB.c0
  have cB1 := kB.c1
  replace frm := frm.trans (bl.mono (by omega))
  clear bl
  obtain ⟨_, rfl, hw1, ad1, n1, cap1, us1, rfl, r1⟩ := r1
  replace r1 : BasisO w1 _ _ (.agg #[.int .i64 WB, .slice ad1 n1 cap1]) (WB, MB) := ⟨_, rfl, hw1, _, _, _, _, rfl, r1⟩
  go_wp2_with fail
  go_at_call 34
  refine (toIntS sV fV).mono ?_
  rintro e w2 ⟨u2, rfl, r2, bl⟩
  have z2 := bl.size
  replace sB := BasisI_below sB bl (by omega)
  replace sV := IntSI_below sV bl (by omega)
  replace r1 := BasisO_below r1 bl (by omega)
  replace kB := kB.below bl (by omega)
  clear cB0 cB1
  have cB0 := kB.c0
  have cB1 := kB.c1
  replace frm := frm.trans (bl.mono (by omega))
  clear bl
  go_wp2_with fail
  go_at_call 33
  refine (HS.out _ _ _ _ (BasisO_is r1) _ _ _ (IntSO_is r2)).mono ?_
  rintro e w3 ⟨u3, rfl, r3, bl⟩
  have z3 := bl.size
  replace sB := BasisI_below sB bl (by omega)
  replace sV := IntSI_below sV bl (by omega)
  replace kB := kB.below bl (by omega)
  clear cB0 cB1
  have cB0 := kB.c0
  have cB1 := kB.c1
  replace frm := frm.trans (bl.mono (by omega))
  clear bl
  clear r1
  clear r2
  go_wp2_with fail
  go_at_call 32
  refine (toBasis sB fB).mono ?_
  rintro e w4 ⟨u4, rfl, r4, bl⟩
  have z4 := bl.size
  replace sB := BasisI_below sB bl (by omega)
  replace sV := IntSI_below sV bl (by omega)
  replace r3 := IntSO_below r3 bl (by omega)
  replace kB := kB.below bl (by omega)
  clear cB0 cB1
  have cB0 := kB.c0
  have cB1 := kB.c1
  replace frm := frm.trans (bl.mono (by omega))
  clear bl
  obtain ⟨_, rfl, hw4, ad4, n4, cap4, us4, rfl, r4⟩ := r4
  replace r4 : BasisO w4 _ _ (.agg #[.int .i64 WB, .slice ad4 n4 cap4]) (WB, MB) := ⟨_, rfl, hw4, _, _, _, _, rfl, r4⟩
  have kx0 := Blk.new w4 (.int .i64 WB) (.slice ad4 n4 cap4) 26
  have hb := below_box w4 (.cells #[.int .i64 WB, .slice ad4 n4 cap4] 26)
  have zb4 : (w4.alloc (.cells #[.int .i64 WB, .slice ad4 n4 cap4] 26)).heap.size = w4.heap.size + 1 := by simp
  replace sB := BasisI_below sB hb (.inr (Nat.le_refl _))
  replace sV := IntSI_below sV hb (.inr (Nat.le_refl _))
  replace r3 := IntSO_below r3 hb (.inr (Nat.le_refl _))
  replace r4 := BasisO_below r4 hb (.inr (Nat.le_refl _))
  replace kB := kB.alloc (.cells #[.int .i64 WB, .slice ad4 n4 cap4] 26)
  clear cB0 cB1
  have cB0 := kB.c0
  have cB1 := kB.c1
  replace frm := frm.trans (hb.mono (by omega))
  clear hb
  have cx00 := kx0.c0
  have cx01 := kx0.c1
  go_wp2_with fail
  go_at_call 34
  generalize w4.alloc (.cells #[.int .i64 WB, .slice ad4 n4 cap4] 26) = y1 at *
  refine (toIntS sV fV).mono ?_
  rintro e w5 ⟨u5, rfl, r5, bl⟩
  have z5 := bl.size
  replace sB := BasisI_below sB bl (by omega)
  replace sV := IntSI_below sV bl (by omega)
  replace r3 := IntSO_below r3 bl (by omega)
  replace r4 := BasisO_below r4 bl (by omega)
  replace kB := kB.below bl (by omega)
  clear cB0 cB1
  have cB0 := kB.c0
  have cB1 := kB.c1
  replace kx0 := kx0.below bl (by omega)
  clear cx00 cx01
  have cx00 := kx0.c0
  have cx01 := kx0.c1
  replace frm := frm.trans (bl.mono (by omega))
  clear bl
  go_wp2_with fail
  go_at_call 19
  refine (HI.out _ _ _ _ (BasisO_is r4) _ _ _ (IntSO_is r5)).mono ?_
  rintro e w6 ⟨u6, rfl, r6, bl⟩
  have z6 := bl.size
  replace sB := BasisI_below sB bl (by omega)
  replace sV := IntSI_below sV bl (by omega)
  replace r3 := IntSO_below r3 bl (by omega)
  replace r4 := BasisO_below r4 bl (by omega)
  replace r5 := IntSO_below r5 bl (by omega)
  replace kB := kB.below bl (by omega)
  clear cB0 cB1
  have cB0 := kB.c0
  have cB1 := kB.c1
  replace kx0 := kx0.below bl (by omega)
  clear cx00 cx01
  have cx00 := kx0.c0
  have cx01 := kx0.c1
  replace frm := frm.trans (bl.mono (by omega))
  clear bl
  go_wp2_with fail
  go_at_call 35
  refine (eqIntS (IntSO_is r6) (IntSO_is r3) hfit rfl).mono ?_
  rintro e w7 ⟨rfl, bl⟩
  have z7 := bl.size
  replace sB := BasisI_below sB bl (by omega)
  replace sV := IntSI_below sV bl (by omega)
  replace r3 := IntSO_below r3 bl (by omega)
  replace r4 := BasisO_below r4 bl (by omega)
  replace r5 := IntSO_below r5 bl (by omega)
  replace r6 := IntSO_below r6 bl (by omega)
  replace kB := kB.below bl (by omega)
  clear cB0 cB1
  have cB0 := kB.c0
  have cB1 := kB.c1
  replace kx0 := kx0.below bl (by omega)
  clear cx00 cx01
  have cx00 := kx0.c0
  have cx01 := kx0.c1
  replace frm := frm.trans (bl.mono (by omega))
  clear bl
  go_wp2
  replace sB := BasisI_mv sB (Mv.drew (Mv.refl w7 0 0)) (.inr (Nat.zero_le _))
  replace sV := IntSI_mv sV (Mv.drew (Mv.refl w7 0 0)) (.inr (Nat.zero_le _))
  replace r3 := IntSO_mv r3 (Mv.drew (Mv.refl w7 0 0)) (.inr (Nat.zero_le _))
  replace r4 := BasisO_mv r4 (Mv.drew (Mv.refl w7 0 0)) (.inr (Nat.zero_le _))
  replace r5 := IntSO_mv r5 (Mv.drew (Mv.refl w7 0 0)) (.inr (Nat.zero_le _))
  replace r6 := IntSO_mv r6 (Mv.drew (Mv.refl w7 0 0)) (.inr (Nat.zero_le _))
  replace kB : Blk w7.drew (w.heap.size) _ (.int .i64 WB) (.slice adB nB capB) := ⟨kB.obj⟩
  clear cB0 cB1
  have cB0 := kB.c0
  have cB1 := kB.c1
  replace kx0 : Blk w7.drew (w4.heap.size) _ (.int .i64 WB) (.slice ad4 n4 cap4) := ⟨kx0.obj⟩
  clear cx00 cx01
  have cx00 := kx0.c0
  have cx01 := kx0.c1
  replace frm := frm.drew
  have zd : w7.heap.size = w7.drew.heap.size := rfl
  refine wp_region_held (S := fun w' => w'.cell? ⟨w.heap.size, 0, none⟩ = some (.int .i64 WB) ∧ w'.cell? ⟨w.heap.size, 1, none⟩ = some (.slice adB nB capB) ∧ w'.cell? ⟨w4.heap.size, 0, none⟩ = some (.int .i64 WB) ∧ w'.cell? ⟨w4.heap.size, 1, none⟩ = some (.slice ad4 n4 cap4)) (by kernel_rfl) ?_
  change wpAnyH _ _ _ _ _ _ _ _ w7.drew
  generalize w7.drew = d0 at *
  have HH := Lib.hid (show d0.cell? ⟨w.heap.size, 0, none⟩ = some (.int .i64 WB) ∧ d0.cell? ⟨w.heap.size, 1, none⟩ = some (.slice adB nB capB) ∧ d0.cell? ⟨w4.heap.size, 0, none⟩ = some (.int .i64 WB) ∧ d0.cell? ⟨w4.heap.size, 1, none⟩ = some (.slice ad4 n4 cap4) from ⟨cB0, cB1, cx00, cx01⟩)
  refine wpAnyH_take (i := 0) (oi := ⟨some _, _, _, _, _, _⟩) (v := ?_) rfl (by kernel_rfl) (by kernel_rfl) (by kernel_rfl) (fun _ _ _ h => h) (Or.inl ⟨by rfl, ?_⟩) HH.out ?_
  rotate_left
  · intro wS hSw
    try dsimp only at hSw
    go_simp
    all_goals (with_reducible rfl)
  simp only [Act.put, List.setIfInBounds_toArray, List.set_cons_zero, List.set_cons_succ]
  refine wpAnyH_take (i := 1) (oi := ⟨some _, _, _, _, _, _⟩) (v := ?_) rfl (by kernel_rfl) (by kernel_rfl) (by kernel_rfl) (fun _ _ _ h => h) (Or.inl ⟨by rfl, ?_⟩) HH.out ?_
  rotate_left
  · intro wS hSw
    try dsimp only at hSw
    go_simp
    all_goals (with_reducible rfl)
  simp only [Act.put, List.setIfInBounds_toArray, List.set_cons_zero, List.set_cons_succ]
  clear HH
  refine wpAnyH_ready (rs := [2]) (by kernel_rfl) (by simp) ?_
  refine AllReadyH.cons (o := ⟨some _, _, _, _, _, _⟩) rfl (fun Kq hKq => ?_) AllReadyH.nil
  go_simp
  refine (toBasis sB fB).mono ?_
  rintro e w8 ⟨u8, rfl, r8, bl⟩
  have z8 := bl.size
  replace sB := BasisI_below sB bl (by omega)
  replace sV := IntSI_below sV bl (by omega)
  replace r3 := IntSO_below r3 bl (by omega)
  replace r4 := BasisO_below r4 bl (by omega)
  replace r5 := IntSO_below r5 bl (by omega)
  replace r6 := IntSO_below r6 bl (by omega)
  replace kB := kB.below bl (by omega)
  clear cB0 cB1
  have cB0 := kB.c0
  have cB1 := kB.c1
  replace kx0 := kx0.below bl (by omega)
  clear cx00 cx01
  have cx00 := kx0.c0
  have cx01 := kx0.c1
  replace frm := frm.trans (bl.mono (by omega))
  clear bl
  obtain ⟨_, rfl, hw8, ad8, n8, cap8, us8, rfl, r8⟩ := r8
  replace r8 : BasisO w8 _ _ (.agg #[.int .i64 WB, .slice ad8 n8 cap8]) (WB, MB) := ⟨_, rfl, hw8, _, _, _, _, rfl, r8⟩
  have HH := Lib.hid (show w8.cell? ⟨w.heap.size, 0, none⟩ = some (.int .i64 WB) ∧ w8.cell? ⟨w.heap.size, 1, none⟩ = some (.slice adB nB capB) ∧ w8.cell? ⟨w4.heap.size, 0, none⟩ = some (.int .i64 WB) ∧ w8.cell? ⟨w4.heap.size, 1, none⟩ = some (.slice ad4 n4 cap4) from ⟨cB0, cB1, cx00, cx01⟩)
  refine hKq.out _ _ HH.out (fun _ => ?_)
  clear hKq Kq
  clear HH
  refine wpAnyH_ready (rs := [3]) (by kernel_rfl) (by simp) ?_
  refine AllReadyH.cons (o := ⟨some _, _, _, _, _, _⟩) rfl (fun Kq hKq => ?_) AllReadyH.nil
  go_simp
  refine (eqBasis (BasisO_is r4) (BasisO_is r8) fB rfl).mono ?_
  rintro e w9 ⟨rfl, bl⟩
  have z9 := bl.size
  replace sB := BasisI_below sB bl (by omega)
  replace sV := IntSI_below sV bl (by omega)
  replace r3 := IntSO_below r3 bl (by omega)
  replace r4 := BasisO_below r4 bl (by omega)
  replace r5 := IntSO_below r5 bl (by omega)
  replace r6 := IntSO_below r6 bl (by omega)
  replace kB := kB.below bl (by omega)
  clear cB0 cB1
  have cB0 := kB.c0
  have cB1 := kB.c1
  replace kx0 := kx0.below bl (by omega)
  clear cx00 cx01
  have cx00 := kx0.c0
  have cx01 := kx0.c1
  replace frm := frm.trans (bl.mono (by omega))
  clear bl
  have HH := Lib.hid (show w9.cell? ⟨w.heap.size, 0, none⟩ = some (.int .i64 WB) ∧ w9.cell? ⟨w.heap.size, 1, none⟩ = some (.slice adB nB capB) ∧ w9.cell? ⟨w4.heap.size, 0, none⟩ = some (.int .i64 WB) ∧ w9.cell? ⟨w4.heap.size, 1, none⟩ = some (.slice ad4 n4 cap4) from ⟨cB0, cB1, cx00, cx01⟩)
  refine hKq.out _ _ HH.out (fun _ => ?_)
  clear hKq Kq
  try simp only [Act.put, List.setIfInBounds_toArray, List.set_cons_zero, List.set_cons_succ]
  refine wpAnyH_take (i := 4) (oi := ⟨some _, _, _, _, _, _⟩) (v := ?_) rfl (by kernel_rfl) (by kernel_rfl) (by kernel_rfl) (fun _ _ _ h => h) (Or.inl ⟨by rfl, ?_⟩) HH.out ?_
  rotate_left
  · intro wS hSw
    try dsimp only at hSw
    go_simp
    all_goals (with_reducible rfl)
  simp only [Act.put, List.setIfInBounds_toArray, List.set_cons_zero, List.set_cons_succ]
  refine wpAnyH_done (by kernel_rfl) ?_ _
  clear HH
  clear r8
  go_wp2_with fail
  go_at_call 34
  refine (toIntS sV fV).mono ?_
  rintro e w10 ⟨u10, rfl, r10, bl⟩
  have z10 := bl.size
  replace sB := BasisI_below sB bl (by omega)
  replace sV := IntSI_below sV bl (by omega)
  replace r3 := IntSO_below r3 bl (by omega)
  replace r4 := BasisO_below r4 bl (by omega)
  replace r5 := IntSO_below r5 bl (by omega)
  replace r6 := IntSO_below r6 bl (by omega)
  replace kB := kB.below bl (by omega)
  clear cB0 cB1
  have cB0 := kB.c0
  have cB1 := kB.c1
  replace kx0 := kx0.below bl (by omega)
  clear cx00 cx01
  have cx00 := kx0.c0
  have cx01 := kx0.c1
  replace frm := frm.trans (bl.mono (by omega))
  clear bl
  go_wp2_with fail
  go_at_call 35
  refine (eqIntS (IntSO_is r5) (IntSO_is r10) fV rfl).mono ?_
  rintro e w11 ⟨rfl, bl⟩
  have z11 := bl.size
  replace sB := BasisI_below sB bl (by omega)
  replace sV := IntSI_below sV bl (by omega)
  replace r3 := IntSO_below r3 bl (by omega)
  replace r4 := BasisO_below r4 bl (by omega)
  replace r5 := IntSO_below r5 bl (by omega)
  replace r6 := IntSO_below r6 bl (by omega)
  replace kB := kB.below bl (by omega)
  clear cB0 cB1
  have cB0 := kB.c0
  have cB1 := kB.c1
  replace kx0 := kx0.below bl (by omega)
  clear cx00 cx01
  have cx00 := kx0.c0
  have cx01 := kx0.c1
  replace frm := frm.trans (bl.mono (by omega))
  clear bl
  clear r10
  go_wp2_with fail
  go_at_call 29
  refine (markBasis r4 fB (1) (by omega) (by omega)).mono ?_
  rintro e w12 ⟨rfl, new, mv⟩
  have z12 := mv.size
  replace sB := BasisI_mv sB mv (by omega)
  replace sV := IntSI_mv sV mv (by omega)
  replace r3 := IntSO_mv r3 mv (by omega)
  replace r5 := IntSO_mv r5 mv (by omega)
  replace r6 := IntSO_mv r6 mv (by omega)
  replace kB := kB.mv mv (by omega)
  clear cB0 cB1
  have cB0 := kB.c0
  have cB1 := kB.c1
  replace kx0 := kx0.mv mv (by omega)
  clear cx00 cx01
  have cx00 := kx0.c0
  have cx01 := kx0.c1
  replace frm := frm.trans (mv.below (by omega) (by omega))
  clear new mv
  clear r4
  go_wp2_with fail
  go_at_call 36
  refine (markIntS r5 fV (1 + (BasisC (WB, MB) : Int)) (by omega) (by omega)).mono ?_
  rintro e w13 ⟨rfl, new, mv⟩
  have z13 := mv.size
  replace sB := BasisI_mv sB mv (by omega)
  replace sV := IntSI_mv sV mv (by omega)
  replace r3 := IntSO_mv r3 mv (by omega)
  replace r6 := IntSO_mv r6 mv (by omega)
  replace kB := kB.mv mv (by omega)
  clear cB0 cB1
  have cB0 := kB.c0
  have cB1 := kB.c1
  replace kx0 := kx0.mv mv (by omega)
  clear cx00 cx01
  have cx00 := kx0.c0
  have cx01 := kx0.c1
  replace frm := frm.trans (mv.below (by omega) (by omega))
  clear new mv
  clear r5
  go_wp2_with fail
  go_at_call 35
  refine (eqIntS (IntSO_is r6) (IntSO_is r3) hfit rfl).mono ?_
  rintro e w14 ⟨rfl, bl⟩
  have z14 := bl.size
  replace sB := BasisI_below sB bl (by omega)
  replace sV := IntSI_below sV bl (by omega)
  replace r3 := IntSO_below r3 bl (by omega)
  replace r6 := IntSO_below r6 bl (by omega)
  replace kB := kB.below bl (by omega)
  clear cB0 cB1
  have cB0 := kB.c0
  have cB1 := kB.c1
  replace kx0 := kx0.below bl (by omega)
  clear cx00 cx01
  have cx00 := kx0.c0
  have cx01 := kx0.c1
  replace frm := frm.trans (bl.mono (by omega))
  clear bl
  go_wp2_with fail
  go_at_call 36
  refine (markIntS r6 hfit (1) (by omega) (by omega)).mono ?_
  rintro e w15 ⟨rfl, new, mv⟩
  have z15 := mv.size
  replace sB := BasisI_mv sB mv (by omega)
  replace sV := IntSI_mv sV mv (by omega)
  replace r3 := IntSO_mv r3 mv (by omega)
  replace kB := kB.mv mv (by omega)
  clear cB0 cB1
  have cB0 := kB.c0
  have cB1 := kB.c1
  replace kx0 := kx0.mv mv (by omega)
  clear cx00 cx01
  have cx00 := kx0.c0
  have cx01 := kx0.c1
  replace frm := frm.trans (mv.below (by omega) (by omega))
  have r6m := new
  clear new mv
  go_wp2_with fail
  go_at_call 37
  refine (heldIntS (1) (IntSO_is r6m) hfit (by omega) (by omega)).mono ?_
  rintro e w16 ⟨rfl, bl⟩
  have z16 := bl.size
  replace sB := BasisI_below sB bl (by omega)
  replace sV := IntSI_below sV bl (by omega)
  replace r3 := IntSO_below r3 bl (by omega)
  replace r6m := IntSO_below r6m bl (by omega)
  replace kB := kB.below bl (by omega)
  clear cB0 cB1
  have cB0 := kB.c0
  have cB1 := kB.c1
  replace kx0 := kx0.below bl (by omega)
  clear cx00 cx01
  have cx00 := kx0.c0
  have cx01 := kx0.c1
  replace frm := frm.trans (bl.mono (by omega))
  clear bl
  go_wp2_with fail
  go_at_call 32
  refine (toBasis sB fB).mono ?_
  rintro e w17 ⟨u17, rfl, r17, bl⟩
  have z17 := bl.size
  replace sV := IntSI_below sV bl (by omega)
  replace r3 := IntSO_below r3 bl (by omega)
  replace r6m := IntSO_below r6m bl (by omega)
  replace kB := kB.below bl (by omega)
  clear cB0 cB1
  have cB0 := kB.c0
  have cB1 := kB.c1
  replace kx0 := kx0.below bl (by omega)
  clear cx00 cx01
  have cx00 := kx0.c0
  have cx01 := kx0.c1
  replace frm := frm.trans (bl.mono (by omega))
  clear bl
  obtain ⟨_, rfl, hw17, ad17, n17, cap17, us17, rfl, r17⟩ := r17
  replace r17 : BasisO w17 _ _ (.agg #[.int .i64 WB, .slice ad17 n17 cap17]) (WB, MB) := ⟨_, rfl, hw17, _, _, _, _, rfl, r17⟩
  go_wp2_with fail
  go_at_call 34
  refine (toIntS sV fV).mono ?_
  rintro e w18 ⟨u18, rfl, r18, bl⟩
  have z18 := bl.size
  replace r3 := IntSO_below r3 bl (by omega)
  replace r6m := IntSO_below r6m bl (by omega)
  replace r17 := BasisO_below r17 bl (by omega)
  replace kB := kB.below bl (by omega)
  clear cB0 cB1
  have cB0 := kB.c0
  have cB1 := kB.c1
  replace kx0 := kx0.below bl (by omega)
  clear cx00 cx01
  have cx00 := kx0.c0
  have cx01 := kx0.c1
  replace frm := frm.trans (bl.mono (by omega))
  clear bl
  go_wp2_with fail
  go_at_call 19
  refine (HI.out _ _ _ _ (BasisO_is r17) _ _ _ (IntSO_is r18)).mono ?_
  rintro e w19 ⟨u19, rfl, r19, bl⟩
  have z19 := bl.size
  replace r3 := IntSO_below r3 bl (by omega)
  replace r6m := IntSO_below r6m bl (by omega)
  replace kB := kB.below bl (by omega)
  clear cB0 cB1
  have cB0 := kB.c0
  have cB1 := kB.c1
  replace kx0 := kx0.below bl (by omega)
  clear cx00 cx01
  have cx00 := kx0.c0
  have cx01 := kx0.c1
  replace frm := frm.trans (bl.mono (by omega))
  clear bl
  clear r17
  clear r18
  go_wp2_with fail
  go_at_call 35
  refine (eqIntS (IntSO_is r19) (IntSO_is r3) hfit rfl).mono ?_
  rintro e w20 ⟨rfl, bl⟩
  have z20 := bl.size
  replace r6m := IntSO_below r6m bl (by omega)
  replace kB := kB.below bl (by omega)
  clear cB0 cB1
  have cB0 := kB.c0
  have cB1 := kB.c1
  replace kx0 := kx0.below bl (by omega)
  clear cx00 cx01
  have cx00 := kx0.c0
  have cx01 := kx0.c1
  replace frm := frm.trans (bl.mono (by omega))
  clear bl
  clear r3
  clear r19
  go_wp2_with fail
  go_at_call 37
  refine (heldIntS (1) (IntSO_is r6m) hfit (by omega) (by omega)).mono ?_
  rintro e w21 ⟨rfl, bl⟩
  have z21 := bl.size
  replace kB := kB.below bl (by omega)
  clear cB0 cB1
  have cB0 := kB.c0
  have cB1 := kB.c1
  replace kx0 := kx0.below bl (by omega)
  clear cx00 cx01
  have cx00 := kx0.c0
  have cx01 := kx0.c1
  replace frm := frm.trans (bl.mono (by omega))
  clear bl
  clear r6m
  go_wp2
  go_ret
  exact ⟨rfl, frm⟩

set_option maxRecDepth 100000 in
set_option maxHeartbeats 1600000 in
theorem exactContainsVector (w : World) (vB : Value) (iaB : ∃ x, BasisI w 0 w.heap.size vB x) (vV : Value) (iaV : ∃ x, IntSI w 0 w.heap.size vV x) :
    Calls Try.prog 7 #[vB, vV] w fun e w' => e = .returned (.bool true) ∧ Below w.heap.size w w' := by
  obtain ⟨⟨WB, MB⟩, _, rfl, hwB, adB, nB, capB, rfl, sB⟩ := iaB
  replace sB : BasisI w 0 w.heap.size (.agg #[.int .i64 WB, .slice adB nB capB]) (WB, MB) := ⟨_, rfl, hwB, _, _, _, rfl, sB⟩
  obtain ⟨xV, adV, nV, capV, rfl, sV⟩ := iaV
  have frm := Below.refl w.heap.size w
  have kB := Blk.new w (.int .i64 WB) (.slice adB nB capB) 44
  replace frm := frm.alloc (by first | exact Nat.le_refl _ | (simp; done) | (simp; omega)) (.cells #[.int .i64 WB, .slice adB nB capB] 44)
  replace sB := BasisI_below sB frm (.inr (Nat.le_refl _))
  replace sV := sV.below frm (.inr (Nat.le_refl _))
  have cB0 := kB.c0
  have cB1 := kB.c1
  have zw : (w.alloc (.cells #[.int .i64 WB, .slice adB nB capB] 44)).heap.size = w.heap.size + 1 := by simp
  rcases Nat.lt_or_ge 1048576 nV with bigV | bigV
  · have hbV := sV.big
    have hcV := sV.le
    unfold maxLen at hbV
    go_enter Try.func7, Try.ntmps7
    go_wp2
    go_ret
    exact ⟨rfl, frm⟩
  have fV : IntSF xV := by have := sV.len; show xV.length ≤ 1048576; omega
  have hbV := sV.big
  have hcV := sV.le
  unfold maxLen at hbV
  replace sV : IntSI _ 0 w.heap.size (.slice adV nV capV) xV := ⟨_, _, _, rfl, sV⟩
  go_enter Try.func7, Try.ntmps7
  go_wp2_with fail
  go_at_call 31
  generalize w.alloc (.cells #[.int .i64 WB, .slice adB nB capB] 44) = y0 at *
  refine (szBasis sB 1048576 (by omega) (by omega)).mono ?_
  rintro e wsB ⟨leftB, rfl, leB, riB, fB, bl⟩
  have zsB := bl.size
  replace sB := BasisI_below sB bl (by omega)
  replace sV := IntSI_below sV bl (by omega)
  replace kB := kB.below bl (by omega)
  clear cB0 cB1
  have cB0 := kB.c0
  have cB1 := kB.c1
  replace frm := frm.trans (bl.mono (by omega))
  clear bl
  by_cases hlB : 0 ≤ leftB
  case neg =>
    clear fB
    go_wp2
    go_ret
    exact ⟨rfl, frm⟩
  replace fB := fB hlB
  have cS := fun (w' : World) (lB hB : Nat) (uB : Value) (sB : BasisI w' lB hB uB (WB, MB)) (lV hV : Nat) (uV : Value) (sV : IntSI w' lV hV uV xV) => BasEx.hasS w' sB fB sV fV
  have cI := fun (w' : World) (lB hB : Nat) (uB : Value) (sB : BasisI w' lB hB uB (WB, MB)) (lV hV : Nat) (uV : Value) (sV : IntSI w' lV hV uV xV) => BasEx.has BasI.has w' sB fB sV fV
  try dsimp only at cS cI
  generalize hR : (Bas.contains WB MB xV) = R at cS cI
  clear hR
  have HS := Lib.hid cS
  have HI := Lib.hid cI
  clear cS cI
  have hkB := BasisC_le fB
  have hkV := IntSC_le fV
  go_wp2_with fail
  go_at_call 32
  refine (toBasis sB fB).mono ?_
  rintro e w1 ⟨u1, rfl, r1, bl⟩
  have z1 := bl.size
  replace sB := BasisI_below sB bl (by omega)
  replace sV := IntSI_below sV bl (by omega)
  replace kB := kB.below bl (by omega)
  clear cB0 cB1
  have cB0 := kB.c0
  have cB1 := kB.c1
  replace frm := frm.trans (bl.mono (by omega))
  clear bl
  obtain ⟨_, rfl, hw1, ad1, n1, cap1, us1, rfl, r1⟩ := r1
  replace r1 : BasisO w1 _ _ (.agg #[.int .i64 WB, .slice ad1 n1 cap1]) (WB, MB) := ⟨_, rfl, hw1, _, _, _, _, rfl, r1⟩
  go_wp2_with fail
  go_at_call 34
  refine (toIntS sV fV).mono ?_
  rintro e w2 ⟨u2, rfl, r2, bl⟩
  have z2 := bl.size
  replace sB := BasisI_below sB bl (by omega)
  replace sV := IntSI_below sV bl (by omega)
  replace r1 := BasisO_below r1 bl (by omega)
  replace kB := kB.below bl (by omega)
  clear cB0 cB1
  have cB0 := kB.c0
  have cB1 := kB.c1
  replace frm := frm.trans (bl.mono (by omega))
  clear bl
  go_wp2_with fail
  go_at_call 38
  refine (HS.out _ _ _ _ (BasisO_is r1) _ _ _ (IntSO_is r2)).mono ?_
  rintro e w3 ⟨rfl, bl⟩
  have z3 := bl.size
  replace sB := BasisI_below sB bl (by omega)
  replace sV := IntSI_below sV bl (by omega)
  replace kB := kB.below bl (by omega)
  clear cB0 cB1
  have cB0 := kB.c0
  have cB1 := kB.c1
  replace frm := frm.trans (bl.mono (by omega))
  clear bl
  clear r1
  clear r2
  go_wp2_with fail
  go_at_call 32
  refine (toBasis sB fB).mono ?_
  rintro e w4 ⟨u4, rfl, r4, bl⟩
  have z4 := bl.size
  replace sB := BasisI_below sB bl (by omega)
  replace sV := IntSI_below sV bl (by omega)
  replace kB := kB.below bl (by omega)
  clear cB0 cB1
  have cB0 := kB.c0
  have cB1 := kB.c1
  replace frm := frm.trans (bl.mono (by omega))
  clear bl
  obtain ⟨_, rfl, hw4, ad4, n4, cap4, us4, rfl, r4⟩ := r4
  replace r4 : BasisO w4 _ _ (.agg #[.int .i64 WB, .slice ad4 n4 cap4]) (WB, MB) := ⟨_, rfl, hw4, _, _, _, _, rfl, r4⟩
  have kx0 := Blk.new w4 (.int .i64 WB) (.slice ad4 n4 cap4) 26
  have hb := below_box w4 (.cells #[.int .i64 WB, .slice ad4 n4 cap4] 26)
  have zb4 : (w4.alloc (.cells #[.int .i64 WB, .slice ad4 n4 cap4] 26)).heap.size = w4.heap.size + 1 := by simp
  replace sB := BasisI_below sB hb (.inr (Nat.le_refl _))
  replace sV := IntSI_below sV hb (.inr (Nat.le_refl _))
  replace r4 := BasisO_below r4 hb (.inr (Nat.le_refl _))
  replace kB := kB.alloc (.cells #[.int .i64 WB, .slice ad4 n4 cap4] 26)
  clear cB0 cB1
  have cB0 := kB.c0
  have cB1 := kB.c1
  replace frm := frm.trans (hb.mono (by omega))
  clear hb
  have cx00 := kx0.c0
  have cx01 := kx0.c1
  go_wp2_with fail
  go_at_call 34
  generalize w4.alloc (.cells #[.int .i64 WB, .slice ad4 n4 cap4] 26) = y1 at *
  refine (toIntS sV fV).mono ?_
  rintro e w5 ⟨u5, rfl, r5, bl⟩
  have z5 := bl.size
  replace sB := BasisI_below sB bl (by omega)
  replace sV := IntSI_below sV bl (by omega)
  replace r4 := BasisO_below r4 bl (by omega)
  replace kB := kB.below bl (by omega)
  clear cB0 cB1
  have cB0 := kB.c0
  have cB1 := kB.c1
  replace kx0 := kx0.below bl (by omega)
  clear cx00 cx01
  have cx00 := kx0.c0
  have cx01 := kx0.c1
  replace frm := frm.trans (bl.mono (by omega))
  clear bl
  go_wp2_with fail
  go_at_call 18
  refine (HI.out _ _ _ _ (BasisO_is r4) _ _ _ (IntSO_is r5)).mono ?_
  rintro e w6 ⟨rfl, bl⟩
  have z6 := bl.size
  replace sB := BasisI_below sB bl (by omega)
  replace sV := IntSI_below sV bl (by omega)
  replace r4 := BasisO_below r4 bl (by omega)
  replace r5 := IntSO_below r5 bl (by omega)
  replace kB := kB.below bl (by omega)
  clear cB0 cB1
  have cB0 := kB.c0
  have cB1 := kB.c1
  replace kx0 := kx0.below bl (by omega)
  clear cx00 cx01
  have cx00 := kx0.c0
  have cx01 := kx0.c1
  replace frm := frm.trans (bl.mono (by omega))
  clear bl
  go_wp2
  replace sB := BasisI_mv sB (Mv.drew (Mv.refl w6 0 0)) (.inr (Nat.zero_le _))
  replace sV := IntSI_mv sV (Mv.drew (Mv.refl w6 0 0)) (.inr (Nat.zero_le _))
  replace r4 := BasisO_mv r4 (Mv.drew (Mv.refl w6 0 0)) (.inr (Nat.zero_le _))
  replace r5 := IntSO_mv r5 (Mv.drew (Mv.refl w6 0 0)) (.inr (Nat.zero_le _))
  replace kB : Blk w6.drew (w.heap.size) _ (.int .i64 WB) (.slice adB nB capB) := ⟨kB.obj⟩
  clear cB0 cB1
  have cB0 := kB.c0
  have cB1 := kB.c1
  replace kx0 : Blk w6.drew (w4.heap.size) _ (.int .i64 WB) (.slice ad4 n4 cap4) := ⟨kx0.obj⟩
  clear cx00 cx01
  have cx00 := kx0.c0
  have cx01 := kx0.c1
  replace frm := frm.drew
  have zd : w6.heap.size = w6.drew.heap.size := rfl
  refine wp_region_held (S := fun w' => w'.cell? ⟨w.heap.size, 0, none⟩ = some (.int .i64 WB) ∧ w'.cell? ⟨w.heap.size, 1, none⟩ = some (.slice adB nB capB) ∧ w'.cell? ⟨w4.heap.size, 0, none⟩ = some (.int .i64 WB) ∧ w'.cell? ⟨w4.heap.size, 1, none⟩ = some (.slice ad4 n4 cap4)) (by kernel_rfl) ?_
  change wpAnyH _ _ _ _ _ _ _ _ w6.drew
  generalize w6.drew = d0 at *
  have HH := Lib.hid (show d0.cell? ⟨w.heap.size, 0, none⟩ = some (.int .i64 WB) ∧ d0.cell? ⟨w.heap.size, 1, none⟩ = some (.slice adB nB capB) ∧ d0.cell? ⟨w4.heap.size, 0, none⟩ = some (.int .i64 WB) ∧ d0.cell? ⟨w4.heap.size, 1, none⟩ = some (.slice ad4 n4 cap4) from ⟨cB0, cB1, cx00, cx01⟩)
  refine wpAnyH_take (i := 0) (oi := ⟨some _, _, _, _, _, _⟩) (v := ?_) rfl (by kernel_rfl) (by kernel_rfl) (by kernel_rfl) (fun _ _ _ h => h) (Or.inl ⟨by rfl, ?_⟩) HH.out ?_
  rotate_left
  · intro wS hSw
    try dsimp only at hSw
    go_simp
    all_goals (with_reducible rfl)
  simp only [Act.put, List.setIfInBounds_toArray, List.set_cons_zero, List.set_cons_succ]
  refine wpAnyH_take (i := 1) (oi := ⟨some _, _, _, _, _, _⟩) (v := ?_) rfl (by kernel_rfl) (by kernel_rfl) (by kernel_rfl) (fun _ _ _ h => h) (Or.inl ⟨by rfl, ?_⟩) HH.out ?_
  rotate_left
  · intro wS hSw
    try dsimp only at hSw
    go_simp
    all_goals (with_reducible rfl)
  simp only [Act.put, List.setIfInBounds_toArray, List.set_cons_zero, List.set_cons_succ]
  clear HH
  refine wpAnyH_ready (rs := [2]) (by kernel_rfl) (by simp) ?_
  refine AllReadyH.cons (o := ⟨some _, _, _, _, _, _⟩) rfl (fun Kq hKq => ?_) AllReadyH.nil
  go_simp
  refine (toBasis sB fB).mono ?_
  rintro e w7 ⟨u7, rfl, r7, bl⟩
  have z7 := bl.size
  replace sV := IntSI_below sV bl (by omega)
  replace r4 := BasisO_below r4 bl (by omega)
  replace r5 := IntSO_below r5 bl (by omega)
  replace kB := kB.below bl (by omega)
  clear cB0 cB1
  have cB0 := kB.c0
  have cB1 := kB.c1
  replace kx0 := kx0.below bl (by omega)
  clear cx00 cx01
  have cx00 := kx0.c0
  have cx01 := kx0.c1
  replace frm := frm.trans (bl.mono (by omega))
  clear bl
  obtain ⟨_, rfl, hw7, ad7, n7, cap7, us7, rfl, r7⟩ := r7
  replace r7 : BasisO w7 _ _ (.agg #[.int .i64 WB, .slice ad7 n7 cap7]) (WB, MB) := ⟨_, rfl, hw7, _, _, _, _, rfl, r7⟩
  have HH := Lib.hid (show w7.cell? ⟨w.heap.size, 0, none⟩ = some (.int .i64 WB) ∧ w7.cell? ⟨w.heap.size, 1, none⟩ = some (.slice adB nB capB) ∧ w7.cell? ⟨w4.heap.size, 0, none⟩ = some (.int .i64 WB) ∧ w7.cell? ⟨w4.heap.size, 1, none⟩ = some (.slice ad4 n4 cap4) from ⟨cB0, cB1, cx00, cx01⟩)
  refine hKq.out _ _ HH.out (fun _ => ?_)
  clear hKq Kq
  clear HH
  refine wpAnyH_ready (rs := [3]) (by kernel_rfl) (by simp) ?_
  refine AllReadyH.cons (o := ⟨some _, _, _, _, _, _⟩) rfl (fun Kq hKq => ?_) AllReadyH.nil
  go_simp
  refine (eqBasis (BasisO_is r4) (BasisO_is r7) fB rfl).mono ?_
  rintro e w8 ⟨rfl, bl⟩
  have z8 := bl.size
  replace sV := IntSI_below sV bl (by omega)
  replace r5 := IntSO_below r5 bl (by omega)
  replace kB := kB.below bl (by omega)
  clear cB0 cB1
  have cB0 := kB.c0
  have cB1 := kB.c1
  replace kx0 := kx0.below bl (by omega)
  clear cx00 cx01
  have cx00 := kx0.c0
  have cx01 := kx0.c1
  replace frm := frm.trans (bl.mono (by omega))
  clear bl
  have HH := Lib.hid (show w8.cell? ⟨w.heap.size, 0, none⟩ = some (.int .i64 WB) ∧ w8.cell? ⟨w.heap.size, 1, none⟩ = some (.slice adB nB capB) ∧ w8.cell? ⟨w4.heap.size, 0, none⟩ = some (.int .i64 WB) ∧ w8.cell? ⟨w4.heap.size, 1, none⟩ = some (.slice ad4 n4 cap4) from ⟨cB0, cB1, cx00, cx01⟩)
  refine hKq.out _ _ HH.out (fun _ => ?_)
  clear hKq Kq
  try simp only [Act.put, List.setIfInBounds_toArray, List.set_cons_zero, List.set_cons_succ]
  refine wpAnyH_take (i := 4) (oi := ⟨some _, _, _, _, _, _⟩) (v := ?_) rfl (by kernel_rfl) (by kernel_rfl) (by kernel_rfl) (fun _ _ _ h => h) (Or.inl ⟨by rfl, ?_⟩) HH.out ?_
  rotate_left
  · intro wS hSw
    try dsimp only at hSw
    go_simp
    all_goals (with_reducible rfl)
  simp only [Act.put, List.setIfInBounds_toArray, List.set_cons_zero, List.set_cons_succ]
  refine wpAnyH_done (by kernel_rfl) ?_ _
  clear HH
  clear r4
  clear r7
  go_wp2_with fail
  go_at_call 34
  refine (toIntS sV fV).mono ?_
  rintro e w9 ⟨u9, rfl, r9, bl⟩
  have z9 := bl.size
  replace r5 := IntSO_below r5 bl (by omega)
  replace kB := kB.below bl (by omega)
  clear cB0 cB1
  have cB0 := kB.c0
  have cB1 := kB.c1
  replace kx0 := kx0.below bl (by omega)
  clear cx00 cx01
  have cx00 := kx0.c0
  have cx01 := kx0.c1
  replace frm := frm.trans (bl.mono (by omega))
  clear bl
  go_wp2_with fail
  go_at_call 35
  refine (eqIntS (IntSO_is r5) (IntSO_is r9) fV rfl).mono ?_
  rintro e w10 ⟨rfl, bl⟩
  have z10 := bl.size
  replace kB := kB.below bl (by omega)
  clear cB0 cB1
  have cB0 := kB.c0
  have cB1 := kB.c1
  replace kx0 := kx0.below bl (by omega)
  clear cx00 cx01
  have cx00 := kx0.c0
  have cx01 := kx0.c1
  replace frm := frm.trans (bl.mono (by omega))
  clear bl
  clear r5
  clear r9
  go_wp2
  go_ret
  exact ⟨rfl, frm⟩

set_option maxRecDepth 100000 in
set_option maxHeartbeats 1600000 in
theorem exactInsertVector (w : World) (vB : Value) (iaB : ∃ x, BasisI w 0 w.heap.size vB x) (vV : Value) (iaV : ∃ x, IntSI w 0 w.heap.size vV x) :
    Calls Try.prog 8 #[vB, vV] w fun e w' => e = .returned (.bool true) ∧ Below w.heap.size w w' := by
  obtain ⟨⟨WB, MB⟩, _, rfl, hwB, adB, nB, capB, rfl, sB⟩ := iaB
  replace sB : BasisI w 0 w.heap.size (.agg #[.int .i64 WB, .slice adB nB capB]) (WB, MB) := ⟨_, rfl, hwB, _, _, _, rfl, sB⟩
  obtain ⟨xV, adV, nV, capV, rfl, sV⟩ := iaV
  have frm := Below.refl w.heap.size w
  have kB := Blk.new w (.int .i64 WB) (.slice adB nB capB) 44
  replace frm := frm.alloc (by first | exact Nat.le_refl _ | (simp; done) | (simp; omega)) (.cells #[.int .i64 WB, .slice adB nB capB] 44)
  replace sB := BasisI_below sB frm (.inr (Nat.le_refl _))
  replace sV := sV.below frm (.inr (Nat.le_refl _))
  have cB0 := kB.c0
  have cB1 := kB.c1
  have zw : (w.alloc (.cells #[.int .i64 WB, .slice adB nB capB] 44)).heap.size = w.heap.size + 1 := by simp
  rcases Nat.lt_or_ge 1048576 nV with bigV | bigV
  · have hbV := sV.big
    have hcV := sV.le
    unfold maxLen at hbV
    go_enter Try.func8, Try.ntmps8
    go_wp2
    go_ret
    exact ⟨rfl, frm⟩
  have fV : IntSF xV := by have := sV.len; show xV.length ≤ 1048576; omega
  have hbV := sV.big
  have hcV := sV.le
  unfold maxLen at hbV
  replace sV : IntSI _ 0 w.heap.size (.slice adV nV capV) xV := ⟨_, _, _, rfl, sV⟩
  go_enter Try.func8, Try.ntmps8
  go_wp2_with fail
  go_at_call 31
  generalize w.alloc (.cells #[.int .i64 WB, .slice adB nB capB] 44) = y0 at *
  refine (szBasis sB 1048576 (by omega) (by omega)).mono ?_
  rintro e wsB ⟨leftB, rfl, leB, riB, fB, bl⟩
  have zsB := bl.size
  replace sB := BasisI_below sB bl (by omega)
  replace sV := IntSI_below sV bl (by omega)
  replace kB := kB.below bl (by omega)
  clear cB0 cB1
  have cB0 := kB.c0
  have cB1 := kB.c1
  replace frm := frm.trans (bl.mono (by omega))
  clear bl
  by_cases hlB : 0 ≤ leftB
  case neg =>
    clear fB
    go_wp2
    go_ret
    exact ⟨rfl, frm⟩
  replace fB := fB hlB
  have cS := fun (w' : World) (lB hB : Nat) (uB : Value) (sB : BasisI w' lB hB uB (WB, MB)) (lV hV : Nat) (uV : Value) (sV : IntSI w' lV hV uV xV) => BasEx.insS w' sB fB sV fV
  have cI := fun (w' : World) (lB hB : Nat) (uB : Value) (sB : BasisI w' lB hB uB (WB, MB)) (lV hV : Nat) (uV : Value) (sV : IntSI w' lV hV uV xV) => BasEx.ins BasI.ins w' sB fB sV fV
  try dsimp only at cS cI
  have hfit : BasisF ((BasEx.insR WB MB xV)).1 := by exact BasEx.fit_ins xV fB
  generalize hR : (BasEx.insR WB MB xV) = R at cS cI hfit
  clear hR
  obtain ⟨⟨WR, MR⟩, R1⟩ := R
  try dsimp only at cS cI hfit
  have HS := Lib.hid cS
  have HI := Lib.hid cI
  clear cS cI
  have hcnt := BasisC_le hfit
  have hkB := BasisC_le fB
  have hkV := IntSC_le fV
  go_wp2_with fail
  go_at_call 32
  refine (toBasis sB fB).mono ?_
  rintro e w1 ⟨u1, rfl, r1, bl⟩
  have z1 := bl.size
  replace sB := BasisI_below sB bl (by omega)
  replace sV := IntSI_below sV bl (by omega)
  replace kB := kB.below bl (by omega)
  clear cB0 cB1
  have cB0 := kB.c0
  have cB1 := kB.c1
  replace frm := frm.trans (bl.mono (by omega))
  clear bl
  obtain ⟨_, rfl, hw1, ad1, n1, cap1, us1, rfl, r1⟩ := r1
  replace r1 : BasisO w1 _ _ (.agg #[.int .i64 WB, .slice ad1 n1 cap1]) (WB, MB) := ⟨_, rfl, hw1, _, _, _, _, rfl, r1⟩
  go_wp2_with fail
  go_at_call 34
  refine (toIntS sV fV).mono ?_
  rintro e w2 ⟨u2, rfl, r2, bl⟩
  have z2 := bl.size
  replace sB := BasisI_below sB bl (by omega)
  replace sV := IntSI_below sV bl (by omega)
  replace r1 := BasisO_below r1 bl (by omega)
  replace kB := kB.below bl (by omega)
  clear cB0 cB1
  have cB0 := kB.c0
  have cB1 := kB.c1
  replace frm := frm.trans (bl.mono (by omega))
  clear bl
  go_wp2_with fail
  go_at_call 39
  refine (HS.out _ _ _ _ (BasisO_is r1) _ _ _ (IntSO_is r2)).mono ?_
  rintro e w3 ⟨u3, rfl, r3, bl⟩
  have z3 := bl.size
  replace sB := BasisI_below sB bl (by omega)
  replace sV := IntSI_below sV bl (by omega)
  replace kB := kB.below bl (by omega)
  clear cB0 cB1
  have cB0 := kB.c0
  have cB1 := kB.c1
  replace frm := frm.trans (bl.mono (by omega))
  clear bl
  obtain ⟨_, rfl, hw3, ad3, n3, cap3, rfl, r3⟩ := r3
  replace r3 : BasisI w3 _ _ (.agg #[.int .i64 WR, .slice ad3 n3 cap3]) (WR, MR) := ⟨_, rfl, hw3, _, _, _, rfl, r3⟩
  have kw0 := Blk.new w3 (.int .i64 WR) (.slice ad3 n3 cap3) 26
  have hb := below_box w3 (.cells #[.int .i64 WR, .slice ad3 n3 cap3] 26)
  have zb3 : (w3.alloc (.cells #[.int .i64 WR, .slice ad3 n3 cap3] 26)).heap.size = w3.heap.size + 1 := by simp
  replace sB := BasisI_below sB hb (.inr (Nat.le_refl _))
  replace sV := IntSI_below sV hb (.inr (Nat.le_refl _))
  replace r3 := BasisI_below r3 hb (.inr (Nat.le_refl _))
  replace kB := kB.alloc (.cells #[.int .i64 WR, .slice ad3 n3 cap3] 26)
  clear cB0 cB1
  have cB0 := kB.c0
  have cB1 := kB.c1
  replace frm := frm.trans (hb.mono (by omega))
  clear hb
  have cw00 := kw0.c0
  have cw01 := kw0.c1
  clear r1
  clear r2
  go_wp2_with fail
  go_at_call 32
  generalize w3.alloc (.cells #[.int .i64 WR, .slice ad3 n3 cap3] 26) = y1 at *
  refine (toBasis sB fB).mono ?_
  rintro e w4 ⟨u4, rfl, r4, bl⟩
  have z4 := bl.size
  replace sB := BasisI_below sB bl (by omega)
  replace sV := IntSI_below sV bl (by omega)
  replace r3 := BasisI_below r3 bl (by omega)
  replace kB := kB.below bl (by omega)
  clear cB0 cB1
  have cB0 := kB.c0
  have cB1 := kB.c1
  replace kw0 := kw0.below bl (by omega)
  clear cw00 cw01
  have cw00 := kw0.c0
  have cw01 := kw0.c1
  replace frm := frm.trans (bl.mono (by omega))
  clear bl
  obtain ⟨_, rfl, hw4, ad4, n4, cap4, us4, rfl, r4⟩ := r4
  replace r4 : BasisO w4 _ _ (.agg #[.int .i64 WB, .slice ad4 n4 cap4]) (WB, MB) := ⟨_, rfl, hw4, _, _, _, _, rfl, r4⟩
  have kx0 := Blk.new w4 (.int .i64 WB) (.slice ad4 n4 cap4) 26
  have hb := below_box w4 (.cells #[.int .i64 WB, .slice ad4 n4 cap4] 26)
  have zb4 : (w4.alloc (.cells #[.int .i64 WB, .slice ad4 n4 cap4] 26)).heap.size = w4.heap.size + 1 := by simp
  replace sB := BasisI_below sB hb (.inr (Nat.le_refl _))
  replace sV := IntSI_below sV hb (.inr (Nat.le_refl _))
  replace r3 := BasisI_below r3 hb (.inr (Nat.le_refl _))
  replace r4 := BasisO_below r4 hb (.inr (Nat.le_refl _))
  replace kB := kB.alloc (.cells #[.int .i64 WB, .slice ad4 n4 cap4] 26)
  clear cB0 cB1
  have cB0 := kB.c0
  have cB1 := kB.c1
  replace kw0 := kw0.alloc (.cells #[.int .i64 WB, .slice ad4 n4 cap4] 26)
  clear cw00 cw01
  have cw00 := kw0.c0
  have cw01 := kw0.c1
  replace frm := frm.trans (hb.mono (by omega))
  clear hb
  have cx00 := kx0.c0
  have cx01 := kx0.c1
  go_wp2_with fail
  go_at_call 34
  generalize w4.alloc (.cells #[.int .i64 WB, .slice ad4 n4 cap4] 26) = y2 at *
  refine (toIntS sV fV).mono ?_
  rintro e w5 ⟨u5, rfl, r5, bl⟩
  have z5 := bl.size
  replace sB := BasisI_below sB bl (by omega)
  replace sV := IntSI_below sV bl (by omega)
  replace r3 := BasisI_below r3 bl (by omega)
  replace r4 := BasisO_below r4 bl (by omega)
  replace kB := kB.below bl (by omega)
  clear cB0 cB1
  have cB0 := kB.c0
  have cB1 := kB.c1
  replace kw0 := kw0.below bl (by omega)
  clear cw00 cw01
  have cw00 := kw0.c0
  have cw01 := kw0.c1
  replace kx0 := kx0.below bl (by omega)
  clear cx00 cx01
  have cx00 := kx0.c0
  have cx01 := kx0.c1
  replace frm := frm.trans (bl.mono (by omega))
  clear bl
  go_wp2_with fail
  go_at_call 14
  refine (HI.out _ _ _ _ (BasisO_is r4) _ _ _ (IntSO_is r5)).mono ?_
  rintro e w6 ⟨u6, rfl, r6, bl⟩
  have z6 := bl.size
  replace sB := BasisI_below sB bl (by omega)
  replace sV := IntSI_below sV bl (by omega)
  replace r3 := BasisI_below r3 bl (by omega)
  replace r4 := BasisO_below r4 bl (by omega)
  replace r5 := IntSO_below r5 bl (by omega)
  replace kB := kB.below bl (by omega)
  clear cB0 cB1
  have cB0 := kB.c0
  have cB1 := kB.c1
  replace kw0 := kw0.below bl (by omega)
  clear cw00 cw01
  have cw00 := kw0.c0
  have cw01 := kw0.c1
  replace kx0 := kx0.below bl (by omega)
  clear cx00 cx01
  have cx00 := kx0.c0
  have cx01 := kx0.c1
  replace frm := frm.trans (bl.mono (by omega))
  clear bl
  obtain ⟨_, rfl, hw6, ad6, n6, cap6, us6, rfl, r6⟩ := r6
  replace r6 : BasisO w6 _ _ (.agg #[.int .i64 WR, .slice ad6 n6 cap6]) (WR, MR) := ⟨_, rfl, hw6, _, _, _, _, rfl, r6⟩
  have kg0 := Blk.new w6 (.int .i64 WR) (.slice ad6 n6 cap6) 26
  have hb := below_box w6 (.cells #[.int .i64 WR, .slice ad6 n6 cap6] 26)
  have zb6 : (w6.alloc (.cells #[.int .i64 WR, .slice ad6 n6 cap6] 26)).heap.size = w6.heap.size + 1 := by simp
  replace sB := BasisI_below sB hb (.inr (Nat.le_refl _))
  replace sV := IntSI_below sV hb (.inr (Nat.le_refl _))
  replace r3 := BasisI_below r3 hb (.inr (Nat.le_refl _))
  replace r4 := BasisO_below r4 hb (.inr (Nat.le_refl _))
  replace r5 := IntSO_below r5 hb (.inr (Nat.le_refl _))
  replace r6 := BasisO_below r6 hb (.inr (Nat.le_refl _))
  replace kB := kB.alloc (.cells #[.int .i64 WR, .slice ad6 n6 cap6] 26)
  clear cB0 cB1
  have cB0 := kB.c0
  have cB1 := kB.c1
  replace kw0 := kw0.alloc (.cells #[.int .i64 WR, .slice ad6 n6 cap6] 26)
  clear cw00 cw01
  have cw00 := kw0.c0
  have cw01 := kw0.c1
  replace kx0 := kx0.alloc (.cells #[.int .i64 WR, .slice ad6 n6 cap6] 26)
  clear cx00 cx01
  have cx00 := kx0.c0
  have cx01 := kx0.c1
  replace frm := frm.trans (hb.mono (by omega))
  clear hb
  have cg00 := kg0.c0
  have cg01 := kg0.c1
  go_wp2_with fail
  go_at_call 28
  generalize w6.alloc (.cells #[.int .i64 WR, .slice ad6 n6 cap6] 26) = y3 at *
  refine (eqBasis (BasisO_is r6) r3 hfit rfl).mono ?_
  rintro e w7 ⟨rfl, bl⟩
  have z7 := bl.size
  replace sB := BasisI_below sB bl (by omega)
  replace sV := IntSI_below sV bl (by omega)
  replace r3 := BasisI_below r3 bl (by omega)
  replace r4 := BasisO_below r4 bl (by omega)
  replace r5 := IntSO_below r5 bl (by omega)
  replace r6 := BasisO_below r6 bl (by omega)
  replace kB := kB.below bl (by omega)
  clear cB0 cB1
  have cB0 := kB.c0
  have cB1 := kB.c1
  replace kw0 := kw0.below bl (by omega)
  clear cw00 cw01
  have cw00 := kw0.c0
  have cw01 := kw0.c1
  replace kx0 := kx0.below bl (by omega)
  clear cx00 cx01
  have cx00 := kx0.c0
  have cx01 := kx0.c1
  replace kg0 := kg0.below bl (by omega)
  clear cg00 cg01
  have cg00 := kg0.c0
  have cg01 := kg0.c1
  replace frm := frm.trans (bl.mono (by omega))
  clear bl
  go_wp2
  replace sB := BasisI_mv sB (Mv.drew (Mv.refl w7 0 0)) (.inr (Nat.zero_le _))
  replace sV := IntSI_mv sV (Mv.drew (Mv.refl w7 0 0)) (.inr (Nat.zero_le _))
  replace r3 := BasisI_mv r3 (Mv.drew (Mv.refl w7 0 0)) (.inr (Nat.zero_le _))
  replace r4 := BasisO_mv r4 (Mv.drew (Mv.refl w7 0 0)) (.inr (Nat.zero_le _))
  replace r5 := IntSO_mv r5 (Mv.drew (Mv.refl w7 0 0)) (.inr (Nat.zero_le _))
  replace r6 := BasisO_mv r6 (Mv.drew (Mv.refl w7 0 0)) (.inr (Nat.zero_le _))
  replace kB : Blk w7.drew (w.heap.size) _ (.int .i64 WB) (.slice adB nB capB) := ⟨kB.obj⟩
  clear cB0 cB1
  have cB0 := kB.c0
  have cB1 := kB.c1
  replace kw0 : Blk w7.drew (w3.heap.size) _ (.int .i64 WR) (.slice ad3 n3 cap3) := ⟨kw0.obj⟩
  clear cw00 cw01
  have cw00 := kw0.c0
  have cw01 := kw0.c1
  replace kx0 : Blk w7.drew (w4.heap.size) _ (.int .i64 WB) (.slice ad4 n4 cap4) := ⟨kx0.obj⟩
  clear cx00 cx01
  have cx00 := kx0.c0
  have cx01 := kx0.c1
  replace kg0 : Blk w7.drew (w6.heap.size) _ (.int .i64 WR) (.slice ad6 n6 cap6) := ⟨kg0.obj⟩
  clear cg00 cg01
  have cg00 := kg0.c0
  have cg01 := kg0.c1
  replace frm := frm.drew
  have zd : w7.heap.size = w7.drew.heap.size := rfl
  refine wp_region_held (S := fun w' => w'.cell? ⟨w.heap.size, 0, none⟩ = some (.int .i64 WB) ∧ w'.cell? ⟨w.heap.size, 1, none⟩ = some (.slice adB nB capB) ∧ w'.cell? ⟨w3.heap.size, 0, none⟩ = some (.int .i64 WR) ∧ w'.cell? ⟨w3.heap.size, 1, none⟩ = some (.slice ad3 n3 cap3) ∧ w'.cell? ⟨w4.heap.size, 0, none⟩ = some (.int .i64 WB) ∧ w'.cell? ⟨w4.heap.size, 1, none⟩ = some (.slice ad4 n4 cap4) ∧ w'.cell? ⟨w6.heap.size, 0, none⟩ = some (.int .i64 WR) ∧ w'.cell? ⟨w6.heap.size, 1, none⟩ = some (.slice ad6 n6 cap6)) (by kernel_rfl) ?_
  change wpAnyH _ _ _ _ _ _ _ _ w7.drew
  generalize w7.drew = d0 at *
  have HH := Lib.hid (show d0.cell? ⟨w.heap.size, 0, none⟩ = some (.int .i64 WB) ∧ d0.cell? ⟨w.heap.size, 1, none⟩ = some (.slice adB nB capB) ∧ d0.cell? ⟨w3.heap.size, 0, none⟩ = some (.int .i64 WR) ∧ d0.cell? ⟨w3.heap.size, 1, none⟩ = some (.slice ad3 n3 cap3) ∧ d0.cell? ⟨w4.heap.size, 0, none⟩ = some (.int .i64 WB) ∧ d0.cell? ⟨w4.heap.size, 1, none⟩ = some (.slice ad4 n4 cap4) ∧ d0.cell? ⟨w6.heap.size, 0, none⟩ = some (.int .i64 WR) ∧ d0.cell? ⟨w6.heap.size, 1, none⟩ = some (.slice ad6 n6 cap6) from ⟨cB0, cB1, cw00, cw01, cx00, cx01, cg00, cg01⟩)
  refine wpAnyH_take (i := 0) (oi := ⟨some _, _, _, _, _, _⟩) (v := ?_) rfl (by kernel_rfl) (by kernel_rfl) (by kernel_rfl) (fun _ _ _ h => h) (Or.inl ⟨by rfl, ?_⟩) HH.out ?_
  rotate_left
  · intro wS hSw
    try dsimp only at hSw
    go_simp
    all_goals (with_reducible rfl)
  simp only [Act.put, List.setIfInBounds_toArray, List.set_cons_zero, List.set_cons_succ]
  refine wpAnyH_take (i := 1) (oi := ⟨some _, _, _, _, _, _⟩) (v := ?_) rfl (by kernel_rfl) (by kernel_rfl) (by kernel_rfl) (fun _ _ _ h => h) (Or.inl ⟨by rfl, ?_⟩) HH.out ?_
  rotate_left
  · intro wS hSw
    try dsimp only at hSw
    go_simp
    all_goals (with_reducible rfl)
  simp only [Act.put, List.setIfInBounds_toArray, List.set_cons_zero, List.set_cons_succ]
  clear HH
  refine wpAnyH_ready (rs := [2]) (by kernel_rfl) (by simp) ?_
  refine AllReadyH.cons (o := ⟨some _, _, _, _, _, _⟩) rfl (fun Kq hKq => ?_) AllReadyH.nil
  go_simp
  refine (toBasis sB fB).mono ?_
  rintro e w8 ⟨u8, rfl, r8, bl⟩
  have z8 := bl.size
  replace sB := BasisI_below sB bl (by omega)
  replace sV := IntSI_below sV bl (by omega)
  replace r3 := BasisI_below r3 bl (by omega)
  replace r4 := BasisO_below r4 bl (by omega)
  replace r5 := IntSO_below r5 bl (by omega)
  replace r6 := BasisO_below r6 bl (by omega)
  replace kB := kB.below bl (by omega)
  clear cB0 cB1
  have cB0 := kB.c0
  have cB1 := kB.c1
  replace kw0 := kw0.below bl (by omega)
  clear cw00 cw01
  have cw00 := kw0.c0
  have cw01 := kw0.c1
  replace kx0 := kx0.below bl (by omega)
  clear cx00 cx01
  have cx00 := kx0.c0
  have cx01 := kx0.c1
  replace kg0 := kg0.below bl (by omega)
  clear cg00 cg01
  have cg00 := kg0.c0
  have cg01 := kg0.c1
  replace frm := frm.trans (bl.mono (by omega))
  clear bl
  obtain ⟨_, rfl, hw8, ad8, n8, cap8, us8, rfl, r8⟩ := r8
  replace r8 : BasisO w8 _ _ (.agg #[.int .i64 WB, .slice ad8 n8 cap8]) (WB, MB) := ⟨_, rfl, hw8, _, _, _, _, rfl, r8⟩
  have HH := Lib.hid (show w8.cell? ⟨w.heap.size, 0, none⟩ = some (.int .i64 WB) ∧ w8.cell? ⟨w.heap.size, 1, none⟩ = some (.slice adB nB capB) ∧ w8.cell? ⟨w3.heap.size, 0, none⟩ = some (.int .i64 WR) ∧ w8.cell? ⟨w3.heap.size, 1, none⟩ = some (.slice ad3 n3 cap3) ∧ w8.cell? ⟨w4.heap.size, 0, none⟩ = some (.int .i64 WB) ∧ w8.cell? ⟨w4.heap.size, 1, none⟩ = some (.slice ad4 n4 cap4) ∧ w8.cell? ⟨w6.heap.size, 0, none⟩ = some (.int .i64 WR) ∧ w8.cell? ⟨w6.heap.size, 1, none⟩ = some (.slice ad6 n6 cap6) from ⟨cB0, cB1, cw00, cw01, cx00, cx01, cg00, cg01⟩)
  refine hKq.out _ _ HH.out (fun _ => ?_)
  clear hKq Kq
  clear HH
  refine wpAnyH_ready (rs := [3]) (by kernel_rfl) (by simp) ?_
  refine AllReadyH.cons (o := ⟨some _, _, _, _, _, _⟩) rfl (fun Kq hKq => ?_) AllReadyH.nil
  go_simp
  refine (eqBasis (BasisO_is r4) (BasisO_is r8) fB rfl).mono ?_
  rintro e w9 ⟨rfl, bl⟩
  have z9 := bl.size
  replace sB := BasisI_below sB bl (by omega)
  replace sV := IntSI_below sV bl (by omega)
  replace r3 := BasisI_below r3 bl (by omega)
  replace r4 := BasisO_below r4 bl (by omega)
  replace r5 := IntSO_below r5 bl (by omega)
  replace r6 := BasisO_below r6 bl (by omega)
  replace kB := kB.below bl (by omega)
  clear cB0 cB1
  have cB0 := kB.c0
  have cB1 := kB.c1
  replace kw0 := kw0.below bl (by omega)
  clear cw00 cw01
  have cw00 := kw0.c0
  have cw01 := kw0.c1
  replace kx0 := kx0.below bl (by omega)
  clear cx00 cx01
  have cx00 := kx0.c0
  have cx01 := kx0.c1
  replace kg0 := kg0.below bl (by omega)
  clear cg00 cg01
  have cg00 := kg0.c0
  have cg01 := kg0.c1
  replace frm := frm.trans (bl.mono (by omega))
  clear bl
  have HH := Lib.hid (show w9.cell? ⟨w.heap.size, 0, none⟩ = some (.int .i64 WB) ∧ w9.cell? ⟨w.heap.size, 1, none⟩ = some (.slice adB nB capB) ∧ w9.cell? ⟨w3.heap.size, 0, none⟩ = some (.int .i64 WR) ∧ w9.cell? ⟨w3.heap.size, 1, none⟩ = some (.slice ad3 n3 cap3) ∧ w9.cell? ⟨w4.heap.size, 0, none⟩ = some (.int .i64 WB) ∧ w9.cell? ⟨w4.heap.size, 1, none⟩ = some (.slice ad4 n4 cap4) ∧ w9.cell? ⟨w6.heap.size, 0, none⟩ = some (.int .i64 WR) ∧ w9.cell? ⟨w6.heap.size, 1, none⟩ = some (.slice ad6 n6 cap6) from ⟨cB0, cB1, cw00, cw01, cx00, cx01, cg00, cg01⟩)
  refine hKq.out _ _ HH.out (fun _ => ?_)
  clear hKq Kq
  try simp only [Act.put, List.setIfInBounds_toArray, List.set_cons_zero, List.set_cons_succ]
  refine wpAnyH_take (i := 4) (oi := ⟨some _, _, _, _, _, _⟩) (v := ?_) rfl (by kernel_rfl) (by kernel_rfl) (by kernel_rfl) (fun _ _ _ h => h) (Or.inl ⟨by rfl, ?_⟩) HH.out ?_
  rotate_left
  · intro wS hSw
    try dsimp only at hSw
    go_simp
    all_goals (with_reducible rfl)
  simp only [Act.put, List.setIfInBounds_toArray, List.set_cons_zero, List.set_cons_succ]
  refine wpAnyH_done (by kernel_rfl) ?_ _
  clear HH
  clear r8
  go_wp2_with fail
  go_at_call 34
  refine (toIntS sV fV).mono ?_
  rintro e w10 ⟨u10, rfl, r10, bl⟩
  have z10 := bl.size
  replace sB := BasisI_below sB bl (by omega)
  replace sV := IntSI_below sV bl (by omega)
  replace r3 := BasisI_below r3 bl (by omega)
  replace r4 := BasisO_below r4 bl (by omega)
  replace r5 := IntSO_below r5 bl (by omega)
  replace r6 := BasisO_below r6 bl (by omega)
  replace kB := kB.below bl (by omega)
  clear cB0 cB1
  have cB0 := kB.c0
  have cB1 := kB.c1
  replace kw0 := kw0.below bl (by omega)
  clear cw00 cw01
  have cw00 := kw0.c0
  have cw01 := kw0.c1
  replace kx0 := kx0.below bl (by omega)
  clear cx00 cx01
  have cx00 := kx0.c0
  have cx01 := kx0.c1
  replace kg0 := kg0.below bl (by omega)
  clear cg00 cg01
  have cg00 := kg0.c0
  have cg01 := kg0.c1
  replace frm := frm.trans (bl.mono (by omega))
  clear bl
  go_wp2_with fail
  go_at_call 35
  refine (eqIntS (IntSO_is r5) (IntSO_is r10) fV rfl).mono ?_
  rintro e w11 ⟨rfl, bl⟩
  have z11 := bl.size
  replace sB := BasisI_below sB bl (by omega)
  replace sV := IntSI_below sV bl (by omega)
  replace r3 := BasisI_below r3 bl (by omega)
  replace r4 := BasisO_below r4 bl (by omega)
  replace r5 := IntSO_below r5 bl (by omega)
  replace r6 := BasisO_below r6 bl (by omega)
  replace kB := kB.below bl (by omega)
  clear cB0 cB1
  have cB0 := kB.c0
  have cB1 := kB.c1
  replace kw0 := kw0.below bl (by omega)
  clear cw00 cw01
  have cw00 := kw0.c0
  have cw01 := kw0.c1
  replace kx0 := kx0.below bl (by omega)
  clear cx00 cx01
  have cx00 := kx0.c0
  have cx01 := kx0.c1
  replace kg0 := kg0.below bl (by omega)
  clear cg00 cg01
  have cg00 := kg0.c0
  have cg01 := kg0.c1
  replace frm := frm.trans (bl.mono (by omega))
  clear bl
  clear r10
  go_wp2_with fail
  go_at_call 29
  refine (markBasis r4 fB (1) (by omega) (by omega)).mono ?_
  rintro e w12 ⟨rfl, new, mv⟩
  have z12 := mv.size
  replace sB := BasisI_mv sB mv (by omega)
  replace sV := IntSI_mv sV mv (by omega)
  replace r3 := BasisI_mv r3 mv (by omega)
  replace r5 := IntSO_mv r5 mv (by omega)
  replace r6 := BasisO_mv r6 mv (by omega)
  replace kB := kB.mv mv (by omega)
  clear cB0 cB1
  have cB0 := kB.c0
  have cB1 := kB.c1
  replace kw0 := kw0.mv mv (by omega)
  clear cw00 cw01
  have cw00 := kw0.c0
  have cw01 := kw0.c1
  replace kx0 := kx0.mv mv (by omega)
  clear cx00 cx01
  have cx00 := kx0.c0
  have cx01 := kx0.c1
  replace kg0 := kg0.mv mv (by omega)
  clear cg00 cg01
  have cg00 := kg0.c0
  have cg01 := kg0.c1
  replace frm := frm.trans (mv.below (by omega) (by omega))
  clear new mv
  clear r4
  go_wp2_with fail
  go_at_call 36
  refine (markIntS r5 fV (1 + (BasisC (WB, MB) : Int)) (by omega) (by omega)).mono ?_
  rintro e w13 ⟨rfl, new, mv⟩
  have z13 := mv.size
  replace sB := BasisI_mv sB mv (by omega)
  replace sV := IntSI_mv sV mv (by omega)
  replace r3 := BasisI_mv r3 mv (by omega)
  replace r6 := BasisO_mv r6 mv (by omega)
  replace kB := kB.mv mv (by omega)
  clear cB0 cB1
  have cB0 := kB.c0
  have cB1 := kB.c1
  replace kw0 := kw0.mv mv (by omega)
  clear cw00 cw01
  have cw00 := kw0.c0
  have cw01 := kw0.c1
  replace kx0 := kx0.mv mv (by omega)
  clear cx00 cx01
  have cx00 := kx0.c0
  have cx01 := kx0.c1
  replace kg0 := kg0.mv mv (by omega)
  clear cg00 cg01
  have cg00 := kg0.c0
  have cg01 := kg0.c1
  replace frm := frm.trans (mv.below (by omega) (by omega))
  clear new mv
  clear r5
  go_wp2_with fail
  go_at_call 28
  refine (eqBasis (BasisO_is r6) r3 hfit rfl).mono ?_
  rintro e w14 ⟨rfl, bl⟩
  have z14 := bl.size
  replace sB := BasisI_below sB bl (by omega)
  replace sV := IntSI_below sV bl (by omega)
  replace r3 := BasisI_below r3 bl (by omega)
  replace r6 := BasisO_below r6 bl (by omega)
  replace kB := kB.below bl (by omega)
  clear cB0 cB1
  have cB0 := kB.c0
  have cB1 := kB.c1
  replace kw0 := kw0.below bl (by omega)
  clear cw00 cw01
  have cw00 := kw0.c0
  have cw01 := kw0.c1
  replace kx0 := kx0.below bl (by omega)
  clear cx00 cx01
  have cx00 := kx0.c0
  have cx01 := kx0.c1
  replace kg0 := kg0.below bl (by omega)
  clear cg00 cg01
  have cg00 := kg0.c0
  have cg01 := kg0.c1
  replace frm := frm.trans (bl.mono (by omega))
  clear bl
  go_wp2_with fail
  go_at_call 29
  refine (markBasis r6 hfit (1) (by omega) (by omega)).mono ?_
  rintro e w15 ⟨rfl, new, mv⟩
  have z15 := mv.size
  replace sB := BasisI_mv sB mv (by omega)
  replace sV := IntSI_mv sV mv (by omega)
  replace r3 := BasisI_mv r3 mv (by omega)
  replace kB := kB.mv mv (by omega)
  clear cB0 cB1
  have cB0 := kB.c0
  have cB1 := kB.c1
  replace kw0 := kw0.mv mv (by omega)
  clear cw00 cw01
  have cw00 := kw0.c0
  have cw01 := kw0.c1
  replace kx0 := kx0.mv mv (by omega)
  clear cx00 cx01
  have cx00 := kx0.c0
  have cx01 := kx0.c1
  replace kg0 := kg0.mv mv (by omega)
  clear cg00 cg01
  have cg00 := kg0.c0
  have cg01 := kg0.c1
  replace frm := frm.trans (mv.below (by omega) (by omega))
  have r6m := new
  clear new mv
  go_wp2_with fail
  go_at_call 30
  refine (heldBasis (1) (BasisO_is r6m) hfit (by omega) (by omega)).mono ?_
  rintro e w16 ⟨rfl, bl⟩
  have z16 := bl.size
  replace sB := BasisI_below sB bl (by omega)
  replace sV := IntSI_below sV bl (by omega)
  replace r3 := BasisI_below r3 bl (by omega)
  replace r6m := BasisO_below r6m bl (by omega)
  replace kB := kB.below bl (by omega)
  clear cB0 cB1
  have cB0 := kB.c0
  have cB1 := kB.c1
  replace kw0 := kw0.below bl (by omega)
  clear cw00 cw01
  have cw00 := kw0.c0
  have cw01 := kw0.c1
  replace kx0 := kx0.below bl (by omega)
  clear cx00 cx01
  have cx00 := kx0.c0
  have cx01 := kx0.c1
  replace kg0 := kg0.below bl (by omega)
  clear cg00 cg01
  have cg00 := kg0.c0
  have cg01 := kg0.c1
  replace frm := frm.trans (bl.mono (by omega))
  clear bl
  go_wp2_with fail
  go_at_call 32
  refine (toBasis sB fB).mono ?_
  rintro e w17 ⟨u17, rfl, r17, bl⟩
  have z17 := bl.size
  replace sV := IntSI_below sV bl (by omega)
  replace r3 := BasisI_below r3 bl (by omega)
  replace r6m := BasisO_below r6m bl (by omega)
  replace kB := kB.below bl (by omega)
  clear cB0 cB1
  have cB0 := kB.c0
  have cB1 := kB.c1
  replace kw0 := kw0.below bl (by omega)
  clear cw00 cw01
  have cw00 := kw0.c0
  have cw01 := kw0.c1
  replace kx0 := kx0.below bl (by omega)
  clear cx00 cx01
  have cx00 := kx0.c0
  have cx01 := kx0.c1
  replace kg0 := kg0.below bl (by omega)
  clear cg00 cg01
  have cg00 := kg0.c0
  have cg01 := kg0.c1
  replace frm := frm.trans (bl.mono (by omega))
  clear bl
  obtain ⟨_, rfl, hw17, ad17, n17, cap17, us17, rfl, r17⟩ := r17
  replace r17 : BasisO w17 _ _ (.agg #[.int .i64 WB, .slice ad17 n17 cap17]) (WB, MB) := ⟨_, rfl, hw17, _, _, _, _, rfl, r17⟩
  go_wp2_with fail
  go_at_call 34
  refine (toIntS sV fV).mono ?_
  rintro e w18 ⟨u18, rfl, r18, bl⟩
  have z18 := bl.size
  replace r3 := BasisI_below r3 bl (by omega)
  replace r6m := BasisO_below r6m bl (by omega)
  replace r17 := BasisO_below r17 bl (by omega)
  replace kB := kB.below bl (by omega)
  clear cB0 cB1
  have cB0 := kB.c0
  have cB1 := kB.c1
  replace kw0 := kw0.below bl (by omega)
  clear cw00 cw01
  have cw00 := kw0.c0
  have cw01 := kw0.c1
  replace kx0 := kx0.below bl (by omega)
  clear cx00 cx01
  have cx00 := kx0.c0
  have cx01 := kx0.c1
  replace kg0 := kg0.below bl (by omega)
  clear cg00 cg01
  have cg00 := kg0.c0
  have cg01 := kg0.c1
  replace frm := frm.trans (bl.mono (by omega))
  clear bl
  go_wp2_with fail
  go_at_call 14
  refine (HI.out _ _ _ _ (BasisO_is r17) _ _ _ (IntSO_is r18)).mono ?_
  rintro e w19 ⟨u19, rfl, r19, bl⟩
  have z19 := bl.size
  replace r3 := BasisI_below r3 bl (by omega)
  replace r6m := BasisO_below r6m bl (by omega)
  replace kB := kB.below bl (by omega)
  clear cB0 cB1
  have cB0 := kB.c0
  have cB1 := kB.c1
  replace kw0 := kw0.below bl (by omega)
  clear cw00 cw01
  have cw00 := kw0.c0
  have cw01 := kw0.c1
  replace kx0 := kx0.below bl (by omega)
  clear cx00 cx01
  have cx00 := kx0.c0
  have cx01 := kx0.c1
  replace kg0 := kg0.below bl (by omega)
  clear cg00 cg01
  have cg00 := kg0.c0
  have cg01 := kg0.c1
  replace frm := frm.trans (bl.mono (by omega))
  clear bl
  obtain ⟨_, rfl, hw19, ad19, n19, cap19, us19, rfl, r19⟩ := r19
  replace r19 : BasisO w19 _ _ (.agg #[.int .i64 WR, .slice ad19 n19 cap19]) (WR, MR) := ⟨_, rfl, hw19, _, _, _, _, rfl, r19⟩
  have kh0 := Blk.new w19 (.int .i64 WR) (.slice ad19 n19 cap19) 26
  have hb := below_box w19 (.cells #[.int .i64 WR, .slice ad19 n19 cap19] 26)
  have zb19 : (w19.alloc (.cells #[.int .i64 WR, .slice ad19 n19 cap19] 26)).heap.size = w19.heap.size + 1 := by simp
  replace r3 := BasisI_below r3 hb (.inr (Nat.le_refl _))
  replace r6m := BasisO_below r6m hb (.inr (Nat.le_refl _))
  replace r19 := BasisO_below r19 hb (.inr (Nat.le_refl _))
  replace kB := kB.alloc (.cells #[.int .i64 WR, .slice ad19 n19 cap19] 26)
  clear cB0 cB1
  have cB0 := kB.c0
  have cB1 := kB.c1
  replace kw0 := kw0.alloc (.cells #[.int .i64 WR, .slice ad19 n19 cap19] 26)
  clear cw00 cw01
  have cw00 := kw0.c0
  have cw01 := kw0.c1
  replace kx0 := kx0.alloc (.cells #[.int .i64 WR, .slice ad19 n19 cap19] 26)
  clear cx00 cx01
  have cx00 := kx0.c0
  have cx01 := kx0.c1
  replace kg0 := kg0.alloc (.cells #[.int .i64 WR, .slice ad19 n19 cap19] 26)
  clear cg00 cg01
  have cg00 := kg0.c0
  have cg01 := kg0.c1
  replace frm := frm.trans (hb.mono (by omega))
  clear hb
  have ch00 := kh0.c0
  have ch01 := kh0.c1
  clear r17
  clear r18
  go_wp2_with fail
  go_at_call 28
  generalize w19.alloc (.cells #[.int .i64 WR, .slice ad19 n19 cap19] 26) = y4 at *
  refine (eqBasis (BasisO_is r19) r3 hfit rfl).mono ?_
  rintro e w20 ⟨rfl, bl⟩
  have z20 := bl.size
  replace r6m := BasisO_below r6m bl (by omega)
  replace kB := kB.below bl (by omega)
  clear cB0 cB1
  have cB0 := kB.c0
  have cB1 := kB.c1
  replace kw0 := kw0.below bl (by omega)
  clear cw00 cw01
  have cw00 := kw0.c0
  have cw01 := kw0.c1
  replace kx0 := kx0.below bl (by omega)
  clear cx00 cx01
  have cx00 := kx0.c0
  have cx01 := kx0.c1
  replace kg0 := kg0.below bl (by omega)
  clear cg00 cg01
  have cg00 := kg0.c0
  have cg01 := kg0.c1
  replace kh0 := kh0.below bl (by omega)
  clear ch00 ch01
  have ch00 := kh0.c0
  have ch01 := kh0.c1
  replace frm := frm.trans (bl.mono (by omega))
  clear bl
  clear r19
  go_wp2_with fail
  go_at_call 30
  refine (heldBasis (1) (BasisO_is r6m) hfit (by omega) (by omega)).mono ?_
  rintro e w21 ⟨rfl, bl⟩
  have z21 := bl.size
  replace kB := kB.below bl (by omega)
  clear cB0 cB1
  have cB0 := kB.c0
  have cB1 := kB.c1
  replace kw0 := kw0.below bl (by omega)
  clear cw00 cw01
  have cw00 := kw0.c0
  have cw01 := kw0.c1
  replace kx0 := kx0.below bl (by omega)
  clear cx00 cx01
  have cx00 := kx0.c0
  have cx01 := kx0.c1
  replace kg0 := kg0.below bl (by omega)
  clear cg00 cg01
  have cg00 := kg0.c0
  have cg01 := kg0.c1
  replace kh0 := kh0.below bl (by omega)
  clear ch00 ch01
  have ch00 := kh0.c0
  have ch01 := kh0.c1
  replace frm := frm.trans (bl.mono (by omega))
  clear bl
  clear r6m
  go_wp2
  go_ret
  exact ⟨rfl, frm⟩

set_option maxRecDepth 100000 in
set_option maxHeartbeats 1600000 in
theorem exactDimension (w : World) (vB : Value) (iaB : ∃ x, BasisI w 0 w.heap.size vB x) :
    Calls Try.prog 9 #[vB] w fun e w' => e = .returned (.bool true) ∧ Below w.heap.size w w' := by
  obtain ⟨⟨WB, MB⟩, _, rfl, hwB, adB, nB, capB, rfl, sB⟩ := iaB
  replace sB : BasisI w 0 w.heap.size (.agg #[.int .i64 WB, .slice adB nB capB]) (WB, MB) := ⟨_, rfl, hwB, _, _, _, rfl, sB⟩
  have frm := Below.refl w.heap.size w
  have kB := Blk.new w (.int .i64 WB) (.slice adB nB capB) 44
  replace frm := frm.alloc (by first | exact Nat.le_refl _ | (simp; done) | (simp; omega)) (.cells #[.int .i64 WB, .slice adB nB capB] 44)
  replace sB := BasisI_below sB frm (.inr (Nat.le_refl _))
  have cB0 := kB.c0
  have cB1 := kB.c1
  have zw : (w.alloc (.cells #[.int .i64 WB, .slice adB nB capB] 44)).heap.size = w.heap.size + 1 := by simp
  go_enter Try.func9, Try.ntmps9
  go_wp2_with fail
  go_at_call 31
  generalize w.alloc (.cells #[.int .i64 WB, .slice adB nB capB] 44) = y0 at *
  refine (szBasis sB 1048576 (by omega) (by omega)).mono ?_
  rintro e wsB ⟨leftB, rfl, leB, riB, fB, bl⟩
  have zsB := bl.size
  replace sB := BasisI_below sB bl (by omega)
  replace kB := kB.below bl (by omega)
  clear cB0 cB1
  have cB0 := kB.c0
  have cB1 := kB.c1
  replace frm := frm.trans (bl.mono (by omega))
  clear bl
  by_cases hlB : 0 ≤ leftB
  case neg =>
    clear fB
    go_wp2
    go_ret
    exact ⟨rfl, frm⟩
  replace fB := fB hlB
  have cS := fun (w' : World) (lB hB : Nat) (uB : Value) (sB : BasisI w' lB hB uB (WB, MB)) => BasEx.dimS w' sB fB
  have cI := fun (w' : World) (lB hB : Nat) (uB : Value) (sB : BasisI w' lB hB uB (WB, MB)) => BasI.dim w' sB fB
  try dsimp only at cS cI
  generalize hR : (Bas.dimOf WB MB) = R at cS cI
  clear hR
  have HS := Lib.hid cS
  have HI := Lib.hid cI
  clear cS cI
  have hkB := BasisC_le fB
  go_wp2_with fail
  go_at_call 32
  refine (toBasis sB fB).mono ?_
  rintro e w1 ⟨u1, rfl, r1, bl⟩
  have z1 := bl.size
  replace sB := BasisI_below sB bl (by omega)
  replace kB := kB.below bl (by omega)
  clear cB0 cB1
  have cB0 := kB.c0
  have cB1 := kB.c1
  replace frm := frm.trans (bl.mono (by omega))
  clear bl
  obtain ⟨_, rfl, hw1, ad1, n1, cap1, us1, rfl, r1⟩ := r1
  replace r1 : BasisO w1 _ _ (.agg #[.int .i64 WB, .slice ad1 n1 cap1]) (WB, MB) := ⟨_, rfl, hw1, _, _, _, _, rfl, r1⟩
  go_wp2_with fail
  go_at_call 40
  refine (HS.out _ _ _ _ (BasisO_is r1)).mono ?_
  rintro e w2 ⟨rfl, bl⟩
  have z2 := bl.size
  replace sB := BasisI_below sB bl (by omega)
  replace kB := kB.below bl (by omega)
  clear cB0 cB1
  have cB0 := kB.c0
  have cB1 := kB.c1
  replace frm := frm.trans (bl.mono (by omega))
  clear bl
  clear r1
  go_wp2_with fail
  go_at_call 32
  refine (toBasis sB fB).mono ?_
  rintro e w3 ⟨u3, rfl, r3, bl⟩
  have z3 := bl.size
  replace sB := BasisI_below sB bl (by omega)
  replace kB := kB.below bl (by omega)
  clear cB0 cB1
  have cB0 := kB.c0
  have cB1 := kB.c1
  replace frm := frm.trans (bl.mono (by omega))
  clear bl
  obtain ⟨_, rfl, hw3, ad3, n3, cap3, us3, rfl, r3⟩ := r3
  replace r3 : BasisO w3 _ _ (.agg #[.int .i64 WB, .slice ad3 n3 cap3]) (WB, MB) := ⟨_, rfl, hw3, _, _, _, _, rfl, r3⟩
  have kx0 := Blk.new w3 (.int .i64 WB) (.slice ad3 n3 cap3) 26
  have hb := below_box w3 (.cells #[.int .i64 WB, .slice ad3 n3 cap3] 26)
  have zb3 : (w3.alloc (.cells #[.int .i64 WB, .slice ad3 n3 cap3] 26)).heap.size = w3.heap.size + 1 := by simp
  replace sB := BasisI_below sB hb (.inr (Nat.le_refl _))
  replace r3 := BasisO_below r3 hb (.inr (Nat.le_refl _))
  replace kB := kB.alloc (.cells #[.int .i64 WB, .slice ad3 n3 cap3] 26)
  clear cB0 cB1
  have cB0 := kB.c0
  have cB1 := kB.c1
  replace frm := frm.trans (hb.mono (by omega))
  clear hb
  have cx00 := kx0.c0
  have cx01 := kx0.c1
  go_wp2_with fail
  go_at_call 21
  generalize w3.alloc (.cells #[.int .i64 WB, .slice ad3 n3 cap3] 26) = y1 at *
  refine (HI.out _ _ _ _ (BasisO_is r3)).mono ?_
  rintro e w4 ⟨rfl, bl⟩
  have z4 := bl.size
  replace sB := BasisI_below sB bl (by omega)
  replace r3 := BasisO_below r3 bl (by omega)
  replace kB := kB.below bl (by omega)
  clear cB0 cB1
  have cB0 := kB.c0
  have cB1 := kB.c1
  replace kx0 := kx0.below bl (by omega)
  clear cx00 cx01
  have cx00 := kx0.c0
  have cx01 := kx0.c1
  replace frm := frm.trans (bl.mono (by omega))
  clear bl
  go_wp2
  replace sB := BasisI_mv sB (Mv.drew (Mv.refl w4 0 0)) (.inr (Nat.zero_le _))
  replace r3 := BasisO_mv r3 (Mv.drew (Mv.refl w4 0 0)) (.inr (Nat.zero_le _))
  replace kB : Blk w4.drew (w.heap.size) _ (.int .i64 WB) (.slice adB nB capB) := ⟨kB.obj⟩
  clear cB0 cB1
  have cB0 := kB.c0
  have cB1 := kB.c1
  replace kx0 : Blk w4.drew (w3.heap.size) _ (.int .i64 WB) (.slice ad3 n3 cap3) := ⟨kx0.obj⟩
  clear cx00 cx01
  have cx00 := kx0.c0
  have cx01 := kx0.c1
  replace frm := frm.drew
  have zd : w4.heap.size = w4.drew.heap.size := rfl
  refine wp_region_held (S := fun w' => w'.cell? ⟨w.heap.size, 0, none⟩ = some (.int .i64 WB) ∧ w'.cell? ⟨w.heap.size, 1, none⟩ = some (.slice adB nB capB) ∧ w'.cell? ⟨w3.heap.size, 0, none⟩ = some (.int .i64 WB) ∧ w'.cell? ⟨w3.heap.size, 1, none⟩ = some (.slice ad3 n3 cap3)) (by kernel_rfl) ?_
  change wpAnyH _ _ _ _ _ _ _ _ w4.drew
  generalize w4.drew = d0 at *
  have HH := Lib.hid (show d0.cell? ⟨w.heap.size, 0, none⟩ = some (.int .i64 WB) ∧ d0.cell? ⟨w.heap.size, 1, none⟩ = some (.slice adB nB capB) ∧ d0.cell? ⟨w3.heap.size, 0, none⟩ = some (.int .i64 WB) ∧ d0.cell? ⟨w3.heap.size, 1, none⟩ = some (.slice ad3 n3 cap3) from ⟨cB0, cB1, cx00, cx01⟩)
  refine wpAnyH_take (i := 0) (oi := ⟨some _, _, _, _, _, _⟩) (v := ?_) rfl (by kernel_rfl) (by kernel_rfl) (by kernel_rfl) (fun _ _ _ h => h) (Or.inl ⟨by rfl, ?_⟩) HH.out ?_
  rotate_left
  · intro wS hSw
    try dsimp only at hSw
    go_simp
    all_goals (with_reducible rfl)
  simp only [Act.put, List.setIfInBounds_toArray, List.set_cons_zero, List.set_cons_succ]
  refine wpAnyH_take (i := 1) (oi := ⟨some _, _, _, _, _, _⟩) (v := ?_) rfl (by kernel_rfl) (by kernel_rfl) (by kernel_rfl) (fun _ _ _ h => h) (Or.inl ⟨by rfl, ?_⟩) HH.out ?_
  rotate_left
  · intro wS hSw
    try dsimp only at hSw
    go_simp
    all_goals (with_reducible rfl)
  simp only [Act.put, List.setIfInBounds_toArray, List.set_cons_zero, List.set_cons_succ]
  clear HH
  refine wpAnyH_ready (rs := [2]) (by kernel_rfl) (by simp) ?_
  refine AllReadyH.cons (o := ⟨some _, _, _, _, _, _⟩) rfl (fun Kq hKq => ?_) AllReadyH.nil
  go_simp
  refine (toBasis sB fB).mono ?_
  rintro e w5 ⟨u5, rfl, r5, bl⟩
  have z5 := bl.size
  replace r3 := BasisO_below r3 bl (by omega)
  replace kB := kB.below bl (by omega)
  clear cB0 cB1
  have cB0 := kB.c0
  have cB1 := kB.c1
  replace kx0 := kx0.below bl (by omega)
  clear cx00 cx01
  have cx00 := kx0.c0
  have cx01 := kx0.c1
  replace frm := frm.trans (bl.mono (by omega))
  clear bl
  obtain ⟨_, rfl, hw5, ad5, n5, cap5, us5, rfl, r5⟩ := r5
  replace r5 : BasisO w5 _ _ (.agg #[.int .i64 WB, .slice ad5 n5 cap5]) (WB, MB) := ⟨_, rfl, hw5, _, _, _, _, rfl, r5⟩
  have HH := Lib.hid (show w5.cell? ⟨w.heap.size, 0, none⟩ = some (.int .i64 WB) ∧ w5.cell? ⟨w.heap.size, 1, none⟩ = some (.slice adB nB capB) ∧ w5.cell? ⟨w3.heap.size, 0, none⟩ = some (.int .i64 WB) ∧ w5.cell? ⟨w3.heap.size, 1, none⟩ = some (.slice ad3 n3 cap3) from ⟨cB0, cB1, cx00, cx01⟩)
  refine hKq.out _ _ HH.out (fun _ => ?_)
  clear hKq Kq
  clear HH
  refine wpAnyH_ready (rs := [3]) (by kernel_rfl) (by simp) ?_
  refine AllReadyH.cons (o := ⟨some _, _, _, _, _, _⟩) rfl (fun Kq hKq => ?_) AllReadyH.nil
  go_simp
  refine (eqBasis (BasisO_is r3) (BasisO_is r5) fB rfl).mono ?_
  rintro e w6 ⟨rfl, bl⟩
  have z6 := bl.size
  replace kB := kB.below bl (by omega)
  clear cB0 cB1
  have cB0 := kB.c0
  have cB1 := kB.c1
  replace kx0 := kx0.below bl (by omega)
  clear cx00 cx01
  have cx00 := kx0.c0
  have cx01 := kx0.c1
  replace frm := frm.trans (bl.mono (by omega))
  clear bl
  have HH := Lib.hid (show w6.cell? ⟨w.heap.size, 0, none⟩ = some (.int .i64 WB) ∧ w6.cell? ⟨w.heap.size, 1, none⟩ = some (.slice adB nB capB) ∧ w6.cell? ⟨w3.heap.size, 0, none⟩ = some (.int .i64 WB) ∧ w6.cell? ⟨w3.heap.size, 1, none⟩ = some (.slice ad3 n3 cap3) from ⟨cB0, cB1, cx00, cx01⟩)
  refine hKq.out _ _ HH.out (fun _ => ?_)
  clear hKq Kq
  try simp only [Act.put, List.setIfInBounds_toArray, List.set_cons_zero, List.set_cons_succ]
  refine wpAnyH_take (i := 4) (oi := ⟨some _, _, _, _, _, _⟩) (v := ?_) rfl (by kernel_rfl) (by kernel_rfl) (by kernel_rfl) (fun _ _ _ h => h) (Or.inl ⟨by rfl, ?_⟩) HH.out ?_
  rotate_left
  · intro wS hSw
    try dsimp only at hSw
    go_simp
    all_goals (with_reducible rfl)
  simp only [Act.put, List.setIfInBounds_toArray, List.set_cons_zero, List.set_cons_succ]
  refine wpAnyH_done (by kernel_rfl) ?_ _
  clear HH
  clear r3
  clear r5
  go_wp2
  go_ret
  exact ⟨rfl, frm⟩

set_option maxRecDepth 100000 in
set_option maxHeartbeats 1600000 in
theorem exactFreeColumns (w : World) (vB : Value) (iaB : ∃ x, BasisI w 0 w.heap.size vB x) :
    Calls Try.prog 10 #[vB] w fun e w' => e = .returned (.bool true) ∧ Below w.heap.size w w' := by
  obtain ⟨⟨WB, MB⟩, _, rfl, hwB, adB, nB, capB, rfl, sB⟩ := iaB
  replace sB : BasisI w 0 w.heap.size (.agg #[.int .i64 WB, .slice adB nB capB]) (WB, MB) := ⟨_, rfl, hwB, _, _, _, rfl, sB⟩
  have frm := Below.refl w.heap.size w
  have kB := Blk.new w (.int .i64 WB) (.slice adB nB capB) 44
  replace frm := frm.alloc (by first | exact Nat.le_refl _ | (simp; done) | (simp; omega)) (.cells #[.int .i64 WB, .slice adB nB capB] 44)
  replace sB := BasisI_below sB frm (.inr (Nat.le_refl _))
  have cB0 := kB.c0
  have cB1 := kB.c1
  have zw : (w.alloc (.cells #[.int .i64 WB, .slice adB nB capB] 44)).heap.size = w.heap.size + 1 := by simp
  go_enter Try.func10, Try.ntmps10
  go_wp2_with fail
  go_at_call 31
  generalize w.alloc (.cells #[.int .i64 WB, .slice adB nB capB] 44) = y0 at *
  refine (szBasis sB 1048576 (by omega) (by omega)).mono ?_
  rintro e wsB ⟨leftB, rfl, leB, riB, fB, bl⟩
  have zsB := bl.size
  replace sB := BasisI_below sB bl (by omega)
  replace kB := kB.below bl (by omega)
  clear cB0 cB1
  have cB0 := kB.c0
  have cB1 := kB.c1
  replace frm := frm.trans (bl.mono (by omega))
  clear bl
  by_cases hlB : 0 ≤ leftB
  case neg =>
    clear fB
    go_wp2
    go_ret
    exact ⟨rfl, frm⟩
  replace fB := fB hlB
  have cS := fun (w' : World) (lB hB : Nat) (uB : Value) (sB : BasisI w' lB hB uB (WB, MB)) => BasEx.freeS w' sB fB
  have cI := fun (w' : World) (lB hB : Nat) (uB : Value) (sB : BasisI w' lB hB uB (WB, MB)) => BasI.free w' sB fB
  try dsimp only at cS cI
  have hfit : IntSF ((Bas.freeOf WB MB)) := by exact BasEx.fit_free WB MB
  generalize hR : (Bas.freeOf WB MB) = R at cS cI hfit
  clear hR
  have HS := Lib.hid cS
  have HI := Lib.hid cI
  clear cS cI
  have hcnt := IntSC_le hfit
  have hkB := BasisC_le fB
  go_wp2_with fail
  go_at_call 32
  refine (toBasis sB fB).mono ?_
  rintro e w1 ⟨u1, rfl, r1, bl⟩
  have z1 := bl.size
  replace sB := BasisI_below sB bl (by omega)
  replace kB := kB.below bl (by omega)
  clear cB0 cB1
  have cB0 := kB.c0
  have cB1 := kB.c1
  replace frm := frm.trans (bl.mono (by omega))
  clear bl
  obtain ⟨_, rfl, hw1, ad1, n1, cap1, us1, rfl, r1⟩ := r1
  replace r1 : BasisO w1 _ _ (.agg #[.int .i64 WB, .slice ad1 n1 cap1]) (WB, MB) := ⟨_, rfl, hw1, _, _, _, _, rfl, r1⟩
  go_wp2_with fail
  go_at_call 41
  refine (HS.out _ _ _ _ (BasisO_is r1)).mono ?_
  rintro e w2 ⟨u2, rfl, r2, bl⟩
  have z2 := bl.size
  replace sB := BasisI_below sB bl (by omega)
  replace kB := kB.below bl (by omega)
  clear cB0 cB1
  have cB0 := kB.c0
  have cB1 := kB.c1
  replace frm := frm.trans (bl.mono (by omega))
  clear bl
  clear r1
  go_wp2_with fail
  go_at_call 32
  refine (toBasis sB fB).mono ?_
  rintro e w3 ⟨u3, rfl, r3, bl⟩
  have z3 := bl.size
  replace sB := BasisI_below sB bl (by omega)
  replace r2 := IntSO_below r2 bl (by omega)
  replace kB := kB.below bl (by omega)
  clear cB0 cB1
  have cB0 := kB.c0
  have cB1 := kB.c1
  replace frm := frm.trans (bl.mono (by omega))
  clear bl
  obtain ⟨_, rfl, hw3, ad3, n3, cap3, us3, rfl, r3⟩ := r3
  replace r3 : BasisO w3 _ _ (.agg #[.int .i64 WB, .slice ad3 n3 cap3]) (WB, MB) := ⟨_, rfl, hw3, _, _, _, _, rfl, r3⟩
  have kx0 := Blk.new w3 (.int .i64 WB) (.slice ad3 n3 cap3) 26
  have hb := below_box w3 (.cells #[.int .i64 WB, .slice ad3 n3 cap3] 26)
  have zb3 : (w3.alloc (.cells #[.int .i64 WB, .slice ad3 n3 cap3] 26)).heap.size = w3.heap.size + 1 := by simp
  replace sB := BasisI_below sB hb (.inr (Nat.le_refl _))
  replace r2 := IntSO_below r2 hb (.inr (Nat.le_refl _))
  replace r3 := BasisO_below r3 hb (.inr (Nat.le_refl _))
  replace kB := kB.alloc (.cells #[.int .i64 WB, .slice ad3 n3 cap3] 26)
  clear cB0 cB1
  have cB0 := kB.c0
  have cB1 := kB.c1
  replace frm := frm.trans (hb.mono (by omega))
  clear hb
  have cx00 := kx0.c0
  have cx01 := kx0.c1
  go_wp2_with fail
  go_at_call 22
  generalize w3.alloc (.cells #[.int .i64 WB, .slice ad3 n3 cap3] 26) = y1 at *
  refine (HI.out _ _ _ _ (BasisO_is r3)).mono ?_
  rintro e w4 ⟨u4, rfl, r4, bl⟩
  have z4 := bl.size
  replace sB := BasisI_below sB bl (by omega)
  replace r2 := IntSO_below r2 bl (by omega)
  replace r3 := BasisO_below r3 bl (by omega)
  replace kB := kB.below bl (by omega)
  clear cB0 cB1
  have cB0 := kB.c0
  have cB1 := kB.c1
  replace kx0 := kx0.below bl (by omega)
  clear cx00 cx01
  have cx00 := kx0.c0
  have cx01 := kx0.c1
  replace frm := frm.trans (bl.mono (by omega))
  clear bl
  go_wp2_with fail
  go_at_call 35
  refine (eqIntS (IntSO_is r4) (IntSO_is r2) hfit rfl).mono ?_
  rintro e w5 ⟨rfl, bl⟩
  have z5 := bl.size
  replace sB := BasisI_below sB bl (by omega)
  replace r2 := IntSO_below r2 bl (by omega)
  replace r3 := BasisO_below r3 bl (by omega)
  replace r4 := IntSO_below r4 bl (by omega)
  replace kB := kB.below bl (by omega)
  clear cB0 cB1
  have cB0 := kB.c0
  have cB1 := kB.c1
  replace kx0 := kx0.below bl (by omega)
  clear cx00 cx01
  have cx00 := kx0.c0
  have cx01 := kx0.c1
  replace frm := frm.trans (bl.mono (by omega))
  clear bl
  go_wp2
  replace sB := BasisI_mv sB (Mv.drew (Mv.refl w5 0 0)) (.inr (Nat.zero_le _))
  replace r2 := IntSO_mv r2 (Mv.drew (Mv.refl w5 0 0)) (.inr (Nat.zero_le _))
  replace r3 := BasisO_mv r3 (Mv.drew (Mv.refl w5 0 0)) (.inr (Nat.zero_le _))
  replace r4 := IntSO_mv r4 (Mv.drew (Mv.refl w5 0 0)) (.inr (Nat.zero_le _))
  replace kB : Blk w5.drew (w.heap.size) _ (.int .i64 WB) (.slice adB nB capB) := ⟨kB.obj⟩
  clear cB0 cB1
  have cB0 := kB.c0
  have cB1 := kB.c1
  replace kx0 : Blk w5.drew (w3.heap.size) _ (.int .i64 WB) (.slice ad3 n3 cap3) := ⟨kx0.obj⟩
  clear cx00 cx01
  have cx00 := kx0.c0
  have cx01 := kx0.c1
  replace frm := frm.drew
  have zd : w5.heap.size = w5.drew.heap.size := rfl
  refine wp_region_held (S := fun w' => w'.cell? ⟨w.heap.size, 0, none⟩ = some (.int .i64 WB) ∧ w'.cell? ⟨w.heap.size, 1, none⟩ = some (.slice adB nB capB) ∧ w'.cell? ⟨w3.heap.size, 0, none⟩ = some (.int .i64 WB) ∧ w'.cell? ⟨w3.heap.size, 1, none⟩ = some (.slice ad3 n3 cap3)) (by kernel_rfl) ?_
  change wpAnyH _ _ _ _ _ _ _ _ w5.drew
  generalize w5.drew = d0 at *
  have HH := Lib.hid (show d0.cell? ⟨w.heap.size, 0, none⟩ = some (.int .i64 WB) ∧ d0.cell? ⟨w.heap.size, 1, none⟩ = some (.slice adB nB capB) ∧ d0.cell? ⟨w3.heap.size, 0, none⟩ = some (.int .i64 WB) ∧ d0.cell? ⟨w3.heap.size, 1, none⟩ = some (.slice ad3 n3 cap3) from ⟨cB0, cB1, cx00, cx01⟩)
  refine wpAnyH_take (i := 0) (oi := ⟨some _, _, _, _, _, _⟩) (v := ?_) rfl (by kernel_rfl) (by kernel_rfl) (by kernel_rfl) (fun _ _ _ h => h) (Or.inl ⟨by rfl, ?_⟩) HH.out ?_
  rotate_left
  · intro wS hSw
    try dsimp only at hSw
    go_simp
    all_goals (with_reducible rfl)
  simp only [Act.put, List.setIfInBounds_toArray, List.set_cons_zero, List.set_cons_succ]
  refine wpAnyH_take (i := 1) (oi := ⟨some _, _, _, _, _, _⟩) (v := ?_) rfl (by kernel_rfl) (by kernel_rfl) (by kernel_rfl) (fun _ _ _ h => h) (Or.inl ⟨by rfl, ?_⟩) HH.out ?_
  rotate_left
  · intro wS hSw
    try dsimp only at hSw
    go_simp
    all_goals (with_reducible rfl)
  simp only [Act.put, List.setIfInBounds_toArray, List.set_cons_zero, List.set_cons_succ]
  clear HH
  refine wpAnyH_ready (rs := [2]) (by kernel_rfl) (by simp) ?_
  refine AllReadyH.cons (o := ⟨some _, _, _, _, _, _⟩) rfl (fun Kq hKq => ?_) AllReadyH.nil
  go_simp
  refine (toBasis sB fB).mono ?_
  rintro e w6 ⟨u6, rfl, r6, bl⟩
  have z6 := bl.size
  replace sB := BasisI_below sB bl (by omega)
  replace r2 := IntSO_below r2 bl (by omega)
  replace r3 := BasisO_below r3 bl (by omega)
  replace r4 := IntSO_below r4 bl (by omega)
  replace kB := kB.below bl (by omega)
  clear cB0 cB1
  have cB0 := kB.c0
  have cB1 := kB.c1
  replace kx0 := kx0.below bl (by omega)
  clear cx00 cx01
  have cx00 := kx0.c0
  have cx01 := kx0.c1
  replace frm := frm.trans (bl.mono (by omega))
  clear bl
  obtain ⟨_, rfl, hw6, ad6, n6, cap6, us6, rfl, r6⟩ := r6
  replace r6 : BasisO w6 _ _ (.agg #[.int .i64 WB, .slice ad6 n6 cap6]) (WB, MB) := ⟨_, rfl, hw6, _, _, _, _, rfl, r6⟩
  have HH := Lib.hid (show w6.cell? ⟨w.heap.size, 0, none⟩ = some (.int .i64 WB) ∧ w6.cell? ⟨w.heap.size, 1, none⟩ = some (.slice adB nB capB) ∧ w6.cell? ⟨w3.heap.size, 0, none⟩ = some (.int .i64 WB) ∧ w6.cell? ⟨w3.heap.size, 1, none⟩ = some (.slice ad3 n3 cap3) from ⟨cB0, cB1, cx00, cx01⟩)
  refine hKq.out _ _ HH.out (fun _ => ?_)
  clear hKq Kq
  clear HH
  refine wpAnyH_ready (rs := [3]) (by kernel_rfl) (by simp) ?_
  refine AllReadyH.cons (o := ⟨some _, _, _, _, _, _⟩) rfl (fun Kq hKq => ?_) AllReadyH.nil
  go_simp
  refine (eqBasis (BasisO_is r3) (BasisO_is r6) fB rfl).mono ?_
  rintro e w7 ⟨rfl, bl⟩
  have z7 := bl.size
  replace sB := BasisI_below sB bl (by omega)
  replace r2 := IntSO_below r2 bl (by omega)
  replace r3 := BasisO_below r3 bl (by omega)
  replace r4 := IntSO_below r4 bl (by omega)
  replace kB := kB.below bl (by omega)
  clear cB0 cB1
  have cB0 := kB.c0
  have cB1 := kB.c1
  replace kx0 := kx0.below bl (by omega)
  clear cx00 cx01
  have cx00 := kx0.c0
  have cx01 := kx0.c1
  replace frm := frm.trans (bl.mono (by omega))
  clear bl
  have HH := Lib.hid (show w7.cell? ⟨w.heap.size, 0, none⟩ = some (.int .i64 WB) ∧ w7.cell? ⟨w.heap.size, 1, none⟩ = some (.slice adB nB capB) ∧ w7.cell? ⟨w3.heap.size, 0, none⟩ = some (.int .i64 WB) ∧ w7.cell? ⟨w3.heap.size, 1, none⟩ = some (.slice ad3 n3 cap3) from ⟨cB0, cB1, cx00, cx01⟩)
  refine hKq.out _ _ HH.out (fun _ => ?_)
  clear hKq Kq
  try simp only [Act.put, List.setIfInBounds_toArray, List.set_cons_zero, List.set_cons_succ]
  refine wpAnyH_take (i := 4) (oi := ⟨some _, _, _, _, _, _⟩) (v := ?_) rfl (by kernel_rfl) (by kernel_rfl) (by kernel_rfl) (fun _ _ _ h => h) (Or.inl ⟨by rfl, ?_⟩) HH.out ?_
  rotate_left
  · intro wS hSw
    try dsimp only at hSw
    go_simp
    all_goals (with_reducible rfl)
  simp only [Act.put, List.setIfInBounds_toArray, List.set_cons_zero, List.set_cons_succ]
  refine wpAnyH_done (by kernel_rfl) ?_ _
  clear HH
  clear r6
  go_wp2_with fail
  go_at_call 29
  refine (markBasis r3 fB (1) (by omega) (by omega)).mono ?_
  rintro e w8 ⟨rfl, new, mv⟩
  have z8 := mv.size
  replace sB := BasisI_mv sB mv (by omega)
  replace r2 := IntSO_mv r2 mv (by omega)
  replace r4 := IntSO_mv r4 mv (by omega)
  replace kB := kB.mv mv (by omega)
  clear cB0 cB1
  have cB0 := kB.c0
  have cB1 := kB.c1
  replace kx0 := kx0.mv mv (by omega)
  clear cx00 cx01
  have cx00 := kx0.c0
  have cx01 := kx0.c1
  replace frm := frm.trans (mv.below (by omega) (by omega))
  clear new mv
  clear r3
  go_wp2_with fail
  go_at_call 35
  refine (eqIntS (IntSO_is r4) (IntSO_is r2) hfit rfl).mono ?_
  rintro e w9 ⟨rfl, bl⟩
  have z9 := bl.size
  replace sB := BasisI_below sB bl (by omega)
  replace r2 := IntSO_below r2 bl (by omega)
  replace r4 := IntSO_below r4 bl (by omega)
  replace kB := kB.below bl (by omega)
  clear cB0 cB1
  have cB0 := kB.c0
  have cB1 := kB.c1
  replace kx0 := kx0.below bl (by omega)
  clear cx00 cx01
  have cx00 := kx0.c0
  have cx01 := kx0.c1
  replace frm := frm.trans (bl.mono (by omega))
  clear bl
  go_wp2_with fail
  go_at_call 36
  refine (markIntS r4 hfit (1) (by omega) (by omega)).mono ?_
  rintro e w10 ⟨rfl, new, mv⟩
  have z10 := mv.size
  replace sB := BasisI_mv sB mv (by omega)
  replace r2 := IntSO_mv r2 mv (by omega)
  replace kB := kB.mv mv (by omega)
  clear cB0 cB1
  have cB0 := kB.c0
  have cB1 := kB.c1
  replace kx0 := kx0.mv mv (by omega)
  clear cx00 cx01
  have cx00 := kx0.c0
  have cx01 := kx0.c1
  replace frm := frm.trans (mv.below (by omega) (by omega))
  have r4m := new
  clear new mv
  go_wp2_with fail
  go_at_call 37
  refine (heldIntS (1) (IntSO_is r4m) hfit (by omega) (by omega)).mono ?_
  rintro e w11 ⟨rfl, bl⟩
  have z11 := bl.size
  replace sB := BasisI_below sB bl (by omega)
  replace r2 := IntSO_below r2 bl (by omega)
  replace r4m := IntSO_below r4m bl (by omega)
  replace kB := kB.below bl (by omega)
  clear cB0 cB1
  have cB0 := kB.c0
  have cB1 := kB.c1
  replace kx0 := kx0.below bl (by omega)
  clear cx00 cx01
  have cx00 := kx0.c0
  have cx01 := kx0.c1
  replace frm := frm.trans (bl.mono (by omega))
  clear bl
  go_wp2_with fail
  go_at_call 32
  refine (toBasis sB fB).mono ?_
  rintro e w12 ⟨u12, rfl, r12, bl⟩
  have z12 := bl.size
  replace r2 := IntSO_below r2 bl (by omega)
  replace r4m := IntSO_below r4m bl (by omega)
  replace kB := kB.below bl (by omega)
  clear cB0 cB1
  have cB0 := kB.c0
  have cB1 := kB.c1
  replace kx0 := kx0.below bl (by omega)
  clear cx00 cx01
  have cx00 := kx0.c0
  have cx01 := kx0.c1
  replace frm := frm.trans (bl.mono (by omega))
  clear bl
  obtain ⟨_, rfl, hw12, ad12, n12, cap12, us12, rfl, r12⟩ := r12
  replace r12 : BasisO w12 _ _ (.agg #[.int .i64 WB, .slice ad12 n12 cap12]) (WB, MB) := ⟨_, rfl, hw12, _, _, _, _, rfl, r12⟩
  go_wp2_with fail
  go_at_call 22
  refine (HI.out _ _ _ _ (BasisO_is r12)).mono ?_
  rintro e w13 ⟨u13, rfl, r13, bl⟩
  have z13 := bl.size
  replace r2 := IntSO_below r2 bl (by omega)
  replace r4m := IntSO_below r4m bl (by omega)
  replace kB := kB.below bl (by omega)
  clear cB0 cB1
  have cB0 := kB.c0
  have cB1 := kB.c1
  replace kx0 := kx0.below bl (by omega)
  clear cx00 cx01
  have cx00 := kx0.c0
  have cx01 := kx0.c1
  replace frm := frm.trans (bl.mono (by omega))
  clear bl
  clear r12
  go_wp2_with fail
  go_at_call 35
  refine (eqIntS (IntSO_is r13) (IntSO_is r2) hfit rfl).mono ?_
  rintro e w14 ⟨rfl, bl⟩
  have z14 := bl.size
  replace r4m := IntSO_below r4m bl (by omega)
  replace kB := kB.below bl (by omega)
  clear cB0 cB1
  have cB0 := kB.c0
  have cB1 := kB.c1
  replace kx0 := kx0.below bl (by omega)
  clear cx00 cx01
  have cx00 := kx0.c0
  have cx01 := kx0.c1
  replace frm := frm.trans (bl.mono (by omega))
  clear bl
  clear r2
  clear r13
  go_wp2_with fail
  go_at_call 37
  refine (heldIntS (1) (IntSO_is r4m) hfit (by omega) (by omega)).mono ?_
  rintro e w15 ⟨rfl, bl⟩
  have z15 := bl.size
  replace kB := kB.below bl (by omega)
  clear cB0 cB1
  have cB0 := kB.c0
  have cB1 := kB.c1
  replace kx0 := kx0.below bl (by omega)
  clear cx00 cx01
  have cx00 := kx0.c0
  have cx01 := kx0.c1
  replace frm := frm.trans (bl.mono (by omega))
  clear bl
  clear r4m
  go_wp2
  go_ret
  exact ⟨rfl, frm⟩

set_option maxRecDepth 100000 in
set_option maxHeartbeats 1600000 in
theorem exactEqualBases (w : World) (vA : Value) (iaA : ∃ x, BasisI w 0 w.heap.size vA x) (vB : Value) (iaB : ∃ x, BasisI w 0 w.heap.size vB x) :
    Calls Try.prog 11 #[vA, vB] w fun e w' => e = .returned (.bool true) ∧ Below w.heap.size w w' := by
  obtain ⟨⟨WA, MA⟩, _, rfl, hwA, adA, nA, capA, rfl, sA⟩ := iaA
  replace sA : BasisI w 0 w.heap.size (.agg #[.int .i64 WA, .slice adA nA capA]) (WA, MA) := ⟨_, rfl, hwA, _, _, _, rfl, sA⟩
  obtain ⟨⟨WB, MB⟩, _, rfl, hwB, adB, nB, capB, rfl, sB⟩ := iaB
  replace sB : BasisI w 0 w.heap.size (.agg #[.int .i64 WB, .slice adB nB capB]) (WB, MB) := ⟨_, rfl, hwB, _, _, _, rfl, sB⟩
  have frm := Below.refl w.heap.size w
  have kA := Blk.new w (.int .i64 WA) (.slice adA nA capA) 44
  replace frm := frm.alloc (by first | exact Nat.le_refl _ | (simp; done) | (simp; omega)) (.cells #[.int .i64 WA, .slice adA nA capA] 44)
  have kB := Blk.new (w.alloc (.cells #[.int .i64 WA, .slice adA nA capA] 44)) (.int .i64 WB) (.slice adB nB capB) 44
  rw [World.size_alloc] at kB
  replace kA := kA.alloc (.cells #[.int .i64 WB, .slice adB nB capB] 44)
  replace frm := frm.alloc (by first | exact Nat.le_refl _ | (simp; done) | (simp; omega)) (.cells #[.int .i64 WB, .slice adB nB capB] 44)
  replace sA := BasisI_below sA frm (.inr (Nat.le_refl _))
  replace sB := BasisI_below sB frm (.inr (Nat.le_refl _))
  have cA0 := kA.c0
  have cA1 := kA.c1
  have cB0 := kB.c0
  have cB1 := kB.c1
  have zw : ((w.alloc (.cells #[.int .i64 WA, .slice adA nA capA] 44)).alloc (.cells #[.int .i64 WB, .slice adB nB capB] 44)).heap.size = w.heap.size + 1 + 1 := by simp
  go_enter Try.func11, Try.ntmps11
  go_wp2_with fail
  go_at_call 31
  generalize (w.alloc (.cells #[.int .i64 WA, .slice adA nA capA] 44)).alloc (.cells #[.int .i64 WB, .slice adB nB capB] 44) = y0 at *
  refine (szBasis sA 1048576 (by omega) (by omega)).mono ?_
  rintro e wsA ⟨leftA, rfl, leA, riA, fA, bl⟩
  have zsA := bl.size
  replace sA := BasisI_below sA bl (by omega)
  replace sB := BasisI_below sB bl (by omega)
  replace kA := kA.below bl (by omega)
  clear cA0 cA1
  have cA0 := kA.c0
  have cA1 := kA.c1
  replace kB := kB.below bl (by omega)
  clear cB0 cB1
  have cB0 := kB.c0
  have cB1 := kB.c1
  replace frm := frm.trans (bl.mono (by omega))
  clear bl
  by_cases hlA : 0 ≤ leftA
  case neg =>
    clear fA
    go_wp2
    go_ret
    exact ⟨rfl, frm⟩
  replace fA := fA hlA
  go_wp2_with fail
  go_at_call 31
  refine (szBasis sB leftA (by omega) (by omega)).mono ?_
  rintro e wsB ⟨leftB, rfl, leB, riB, fB, bl⟩
  have zsB := bl.size
  replace sA := BasisI_below sA bl (by omega)
  replace sB := BasisI_below sB bl (by omega)
  replace kA := kA.below bl (by omega)
  clear cA0 cA1
  have cA0 := kA.c0
  have cA1 := kA.c1
  replace kB := kB.below bl (by omega)
  clear cB0 cB1
  have cB0 := kB.c0
  have cB1 := kB.c1
  replace frm := frm.trans (bl.mono (by omega))
  clear bl
  by_cases hlB : 0 ≤ leftB
  case neg =>
    clear fB
    go_wp2
    go_ret
    exact ⟨rfl, frm⟩
  replace fB := fB hlB
  have cS := fun (w' : World) (lA hA : Nat) (uA : Value) (sA : BasisI w' lA hA uA (WA, MA)) (lB hB : Nat) (uB : Value) (sB : BasisI w' lB hB uB (WB, MB)) => BasEx.eqS w' sA fA sB fB
  have cI := fun (w' : World) (lA hA : Nat) (uA : Value) (sA : BasisI w' lA hA uA (WA, MA)) (lB hB : Nat) (uB : Value) (sB : BasisI w' lB hB uB (WB, MB)) => BasI.eq w' sA fA sB fB
  try dsimp only at cS cI
  generalize hR : (Bas.sameB WA MA WB MB) = R at cS cI
  clear hR
  have HS := Lib.hid cS
  have HI := Lib.hid cI
  clear cS cI
  have hkA := BasisC_le fA
  have hkB := BasisC_le fB
  go_wp2
  replace sA := BasisI_mv sA (Mv.drew (Mv.refl wsB 0 0)) (.inr (Nat.zero_le _))
  replace sB := BasisI_mv sB (Mv.drew (Mv.refl wsB 0 0)) (.inr (Nat.zero_le _))
  replace kA : Blk wsB.drew (w.heap.size) _ (.int .i64 WA) (.slice adA nA capA) := ⟨kA.obj⟩
  clear cA0 cA1
  have cA0 := kA.c0
  have cA1 := kA.c1
  replace kB : Blk wsB.drew (w.heap.size + 1) _ (.int .i64 WB) (.slice adB nB capB) := ⟨kB.obj⟩
  clear cB0 cB1
  have cB0 := kB.c0
  have cB1 := kB.c1
  replace frm := frm.drew
  have zd : wsB.heap.size = wsB.drew.heap.size := rfl
  refine wp_region_held (S := fun w' => w'.cell? ⟨w.heap.size, 0, none⟩ = some (.int .i64 WA) ∧ w'.cell? ⟨w.heap.size, 1, none⟩ = some (.slice adA nA capA) ∧ w'.cell? ⟨w.heap.size + 1, 0, none⟩ = some (.int .i64 WB) ∧ w'.cell? ⟨w.heap.size + 1, 1, none⟩ = some (.slice adB nB capB)) (by kernel_rfl) ?_
  change wpAnyH _ _ _ _ _ _ _ _ wsB.drew
  generalize wsB.drew = d0 at *
  have HH := Lib.hid (show d0.cell? ⟨w.heap.size, 0, none⟩ = some (.int .i64 WA) ∧ d0.cell? ⟨w.heap.size, 1, none⟩ = some (.slice adA nA capA) ∧ d0.cell? ⟨w.heap.size + 1, 0, none⟩ = some (.int .i64 WB) ∧ d0.cell? ⟨w.heap.size + 1, 1, none⟩ = some (.slice adB nB capB) from ⟨cA0, cA1, cB0, cB1⟩)
  refine wpAnyH_take (i := 0) (oi := ⟨some _, _, _, _, _, _⟩) (v := ?_) rfl (by kernel_rfl) (by kernel_rfl) (by kernel_rfl) (fun _ _ _ h => h) (Or.inl ⟨by rfl, ?_⟩) HH.out ?_
  rotate_left
  · intro wS hSw
    try dsimp only at hSw
    go_simp
    all_goals (with_reducible rfl)
  simp only [Act.put, List.setIfInBounds_toArray, List.set_cons_zero, List.set_cons_succ]
  refine wpAnyH_take (i := 2) (oi := ⟨some _, _, _, _, _, _⟩) (v := ?_) rfl (by kernel_rfl) (by kernel_rfl) (by kernel_rfl) (fun _ _ _ h => h) (Or.inl ⟨by rfl, ?_⟩) HH.out ?_
  rotate_left
  · intro wS hSw
    try dsimp only at hSw
    go_simp
    all_goals (with_reducible rfl)
  simp only [Act.put, List.setIfInBounds_toArray, List.set_cons_zero, List.set_cons_succ]
  clear HH
  refine wpAnyH_ready (rs := [1]) (by kernel_rfl) (by simp) ?_
  refine AllReadyH.cons (o := ⟨some _, _, _, _, _, _⟩) rfl (fun Kq hKq => ?_) AllReadyH.nil
  go_simp
  refine (toBasis sA fA).mono ?_
  rintro e w1 ⟨u1, rfl, r1, bl⟩
  have z1 := bl.size
  replace sA := BasisI_below sA bl (by omega)
  replace sB := BasisI_below sB bl (by omega)
  replace kA := kA.below bl (by omega)
  clear cA0 cA1
  have cA0 := kA.c0
  have cA1 := kA.c1
  replace kB := kB.below bl (by omega)
  clear cB0 cB1
  have cB0 := kB.c0
  have cB1 := kB.c1
  replace frm := frm.trans (bl.mono (by omega))
  clear bl
  obtain ⟨_, rfl, hw1, ad1, n1, cap1, us1, rfl, r1⟩ := r1
  replace r1 : BasisO w1 _ _ (.agg #[.int .i64 WA, .slice ad1 n1 cap1]) (WA, MA) := ⟨_, rfl, hw1, _, _, _, _, rfl, r1⟩
  have HH := Lib.hid (show w1.cell? ⟨w.heap.size, 0, none⟩ = some (.int .i64 WA) ∧ w1.cell? ⟨w.heap.size, 1, none⟩ = some (.slice adA nA capA) ∧ w1.cell? ⟨w.heap.size + 1, 0, none⟩ = some (.int .i64 WB) ∧ w1.cell? ⟨w.heap.size + 1, 1, none⟩ = some (.slice adB nB capB) from ⟨cA0, cA1, cB0, cB1⟩)
  refine hKq.out _ _ HH.out (fun _ => ?_)
  clear hKq Kq
  clear HH
  refine wpAnyH_ready (rs := [3]) (by kernel_rfl) (by simp) ?_
  refine AllReadyH.cons (o := ⟨some _, _, _, _, _, _⟩) rfl (fun Kq hKq => ?_) AllReadyH.nil
  go_simp
  refine (toBasis sB fB).mono ?_
  rintro e w2 ⟨u2, rfl, r2, bl⟩
  have z2 := bl.size
  replace sA := BasisI_below sA bl (by omega)
  replace sB := BasisI_below sB bl (by omega)
  replace r1 := BasisO_below r1 bl (by omega)
  replace kA := kA.below bl (by omega)
  clear cA0 cA1
  have cA0 := kA.c0
  have cA1 := kA.c1
  replace kB := kB.below bl (by omega)
  clear cB0 cB1
  have cB0 := kB.c0
  have cB1 := kB.c1
  replace frm := frm.trans (bl.mono (by omega))
  clear bl
  obtain ⟨_, rfl, hw2, ad2, n2, cap2, us2, rfl, r2⟩ := r2
  replace r2 : BasisO w2 _ _ (.agg #[.int .i64 WB, .slice ad2 n2 cap2]) (WB, MB) := ⟨_, rfl, hw2, _, _, _, _, rfl, r2⟩
  have HH := Lib.hid (show w2.cell? ⟨w.heap.size, 0, none⟩ = some (.int .i64 WA) ∧ w2.cell? ⟨w.heap.size, 1, none⟩ = some (.slice adA nA capA) ∧ w2.cell? ⟨w.heap.size + 1, 0, none⟩ = some (.int .i64 WB) ∧ w2.cell? ⟨w.heap.size + 1, 1, none⟩ = some (.slice adB nB capB) from ⟨cA0, cA1, cB0, cB1⟩)
  refine hKq.out _ _ HH.out (fun _ => ?_)
  clear hKq Kq
  clear HH
  refine wpAnyH_ready (rs := [4]) (by kernel_rfl) (by simp) ?_
  refine AllReadyH.cons (o := ⟨some _, _, _, _, _, _⟩) rfl (fun Kq hKq => ?_) AllReadyH.nil
  go_simp
  refine (HS.out _ _ _ _ (BasisO_is r1) _ _ _ (BasisO_is r2)).mono ?_
  rintro e w3 ⟨rfl, bl⟩
  have z3 := bl.size
  replace sA := BasisI_below sA bl (by omega)
  replace sB := BasisI_below sB bl (by omega)
  replace kA := kA.below bl (by omega)
  clear cA0 cA1
  have cA0 := kA.c0
  have cA1 := kA.c1
  replace kB := kB.below bl (by omega)
  clear cB0 cB1
  have cB0 := kB.c0
  have cB1 := kB.c1
  replace frm := frm.trans (bl.mono (by omega))
  clear bl
  have HH := Lib.hid (show w3.cell? ⟨w.heap.size, 0, none⟩ = some (.int .i64 WA) ∧ w3.cell? ⟨w.heap.size, 1, none⟩ = some (.slice adA nA capA) ∧ w3.cell? ⟨w.heap.size + 1, 0, none⟩ = some (.int .i64 WB) ∧ w3.cell? ⟨w.heap.size + 1, 1, none⟩ = some (.slice adB nB capB) from ⟨cA0, cA1, cB0, cB1⟩)
  refine hKq.out _ _ HH.out (fun _ => ?_)
  clear hKq Kq
  try simp only [Act.put, List.setIfInBounds_toArray, List.set_cons_zero, List.set_cons_succ]
  refine wpAnyH_take (i := 5) (oi := ⟨some _, _, _, _, _, _⟩) (v := ?_) rfl (by kernel_rfl) (by kernel_rfl) (by kernel_rfl) (fun _ _ _ h => h) (Or.inl ⟨by rfl, ?_⟩) HH.out ?_
  rotate_left
  · intro wS hSw
    try dsimp only at hSw
    go_simp
    all_goals (with_reducible rfl)
  simp only [Act.put, List.setIfInBounds_toArray, List.set_cons_zero, List.set_cons_succ]
  refine wpAnyH_done (by kernel_rfl) ?_ _
  clear HH
  clear r1
  clear r2
  go_wp2_with fail
  go_at_call 32
  refine (toBasis sA fA).mono ?_
  rintro e w4 ⟨u4, rfl, r4, bl⟩
  have z4 := bl.size
  replace sA := BasisI_below sA bl (by omega)
  replace sB := BasisI_below sB bl (by omega)
  replace kA := kA.below bl (by omega)
  clear cA0 cA1
  have cA0 := kA.c0
  have cA1 := kA.c1
  replace kB := kB.below bl (by omega)
  clear cB0 cB1
  have cB0 := kB.c0
  have cB1 := kB.c1
  replace frm := frm.trans (bl.mono (by omega))
  clear bl
  obtain ⟨_, rfl, hw4, ad4, n4, cap4, us4, rfl, r4⟩ := r4
  replace r4 : BasisO w4 _ _ (.agg #[.int .i64 WA, .slice ad4 n4 cap4]) (WA, MA) := ⟨_, rfl, hw4, _, _, _, _, rfl, r4⟩
  have kx0 := Blk.new w4 (.int .i64 WA) (.slice ad4 n4 cap4) 26
  have hb := below_box w4 (.cells #[.int .i64 WA, .slice ad4 n4 cap4] 26)
  have zb4 : (w4.alloc (.cells #[.int .i64 WA, .slice ad4 n4 cap4] 26)).heap.size = w4.heap.size + 1 := by simp
  replace sA := BasisI_below sA hb (.inr (Nat.le_refl _))
  replace sB := BasisI_below sB hb (.inr (Nat.le_refl _))
  replace r4 := BasisO_below r4 hb (.inr (Nat.le_refl _))
  replace kA := kA.alloc (.cells #[.int .i64 WA, .slice ad4 n4 cap4] 26)
  clear cA0 cA1
  have cA0 := kA.c0
  have cA1 := kA.c1
  replace kB := kB.alloc (.cells #[.int .i64 WA, .slice ad4 n4 cap4] 26)
  clear cB0 cB1
  have cB0 := kB.c0
  have cB1 := kB.c1
  replace frm := frm.trans (hb.mono (by omega))
  clear hb
  have cx00 := kx0.c0
  have cx01 := kx0.c1
  go_wp2_with fail
  go_at_call 32
  generalize w4.alloc (.cells #[.int .i64 WA, .slice ad4 n4 cap4] 26) = y1 at *
  refine (toBasis sB fB).mono ?_
  rintro e w5 ⟨u5, rfl, r5, bl⟩
  have z5 := bl.size
  replace sA := BasisI_below sA bl (by omega)
  replace sB := BasisI_below sB bl (by omega)
  replace r4 := BasisO_below r4 bl (by omega)
  replace kA := kA.below bl (by omega)
  clear cA0 cA1
  have cA0 := kA.c0
  have cA1 := kA.c1
  replace kB := kB.below bl (by omega)
  clear cB0 cB1
  have cB0 := kB.c0
  have cB1 := kB.c1
  replace kx0 := kx0.below bl (by omega)
  clear cx00 cx01
  have cx00 := kx0.c0
  have cx01 := kx0.c1
  replace frm := frm.trans (bl.mono (by omega))
  clear bl
  obtain ⟨_, rfl, hw5, ad5, n5, cap5, us5, rfl, r5⟩ := r5
  replace r5 : BasisO w5 _ _ (.agg #[.int .i64 WB, .slice ad5 n5 cap5]) (WB, MB) := ⟨_, rfl, hw5, _, _, _, _, rfl, r5⟩
  have kx1 := Blk.new w5 (.int .i64 WB) (.slice ad5 n5 cap5) 26
  have hb := below_box w5 (.cells #[.int .i64 WB, .slice ad5 n5 cap5] 26)
  have zb5 : (w5.alloc (.cells #[.int .i64 WB, .slice ad5 n5 cap5] 26)).heap.size = w5.heap.size + 1 := by simp
  replace sA := BasisI_below sA hb (.inr (Nat.le_refl _))
  replace sB := BasisI_below sB hb (.inr (Nat.le_refl _))
  replace r4 := BasisO_below r4 hb (.inr (Nat.le_refl _))
  replace r5 := BasisO_below r5 hb (.inr (Nat.le_refl _))
  replace kA := kA.alloc (.cells #[.int .i64 WB, .slice ad5 n5 cap5] 26)
  clear cA0 cA1
  have cA0 := kA.c0
  have cA1 := kA.c1
  replace kB := kB.alloc (.cells #[.int .i64 WB, .slice ad5 n5 cap5] 26)
  clear cB0 cB1
  have cB0 := kB.c0
  have cB1 := kB.c1
  replace kx0 := kx0.alloc (.cells #[.int .i64 WB, .slice ad5 n5 cap5] 26)
  clear cx00 cx01
  have cx00 := kx0.c0
  have cx01 := kx0.c1
  replace frm := frm.trans (hb.mono (by omega))
  clear hb
  have cx10 := kx1.c0
  have cx11 := kx1.c1
  go_wp2_with fail
  go_at_call 17
  generalize w5.alloc (.cells #[.int .i64 WB, .slice ad5 n5 cap5] 26) = y2 at *
  refine (HI.out _ _ _ _ (BasisO_is r4) _ _ _ (BasisO_is r5)).mono ?_
  rintro e w6 ⟨rfl, bl⟩
  have z6 := bl.size
  replace sA := BasisI_below sA bl (by omega)
  replace sB := BasisI_below sB bl (by omega)
  replace r4 := BasisO_below r4 bl (by omega)
  replace r5 := BasisO_below r5 bl (by omega)
  replace kA := kA.below bl (by omega)
  clear cA0 cA1
  have cA0 := kA.c0
  have cA1 := kA.c1
  replace kB := kB.below bl (by omega)
  clear cB0 cB1
  have cB0 := kB.c0
  have cB1 := kB.c1
  replace kx0 := kx0.below bl (by omega)
  clear cx00 cx01
  have cx00 := kx0.c0
  have cx01 := kx0.c1
  replace kx1 := kx1.below bl (by omega)
  clear cx10 cx11
  have cx10 := kx1.c0
  have cx11 := kx1.c1
  replace frm := frm.trans (bl.mono (by omega))
  clear bl
  go_wp2
  replace sA := BasisI_mv sA (Mv.drew (Mv.refl w6 0 0)) (.inr (Nat.zero_le _))
  replace sB := BasisI_mv sB (Mv.drew (Mv.refl w6 0 0)) (.inr (Nat.zero_le _))
  replace r4 := BasisO_mv r4 (Mv.drew (Mv.refl w6 0 0)) (.inr (Nat.zero_le _))
  replace r5 := BasisO_mv r5 (Mv.drew (Mv.refl w6 0 0)) (.inr (Nat.zero_le _))
  replace kA : Blk w6.drew (w.heap.size) _ (.int .i64 WA) (.slice adA nA capA) := ⟨kA.obj⟩
  clear cA0 cA1
  have cA0 := kA.c0
  have cA1 := kA.c1
  replace kB : Blk w6.drew (w.heap.size + 1) _ (.int .i64 WB) (.slice adB nB capB) := ⟨kB.obj⟩
  clear cB0 cB1
  have cB0 := kB.c0
  have cB1 := kB.c1
  replace kx0 : Blk w6.drew (w4.heap.size) _ (.int .i64 WA) (.slice ad4 n4 cap4) := ⟨kx0.obj⟩
  clear cx00 cx01
  have cx00 := kx0.c0
  have cx01 := kx0.c1
  replace kx1 : Blk w6.drew (w5.heap.size) _ (.int .i64 WB) (.slice ad5 n5 cap5) := ⟨kx1.obj⟩
  clear cx10 cx11
  have cx10 := kx1.c0
  have cx11 := kx1.c1
  replace frm := frm.drew
  have zd : w6.heap.size = w6.drew.heap.size := rfl
  refine wp_region_held (S := fun w' => w'.cell? ⟨w.heap.size, 0, none⟩ = some (.int .i64 WA) ∧ w'.cell? ⟨w.heap.size, 1, none⟩ = some (.slice adA nA capA) ∧ w'.cell? ⟨w.heap.size + 1, 0, none⟩ = some (.int .i64 WB) ∧ w'.cell? ⟨w.heap.size + 1, 1, none⟩ = some (.slice adB nB capB) ∧ w'.cell? ⟨w4.heap.size, 0, none⟩ = some (.int .i64 WA) ∧ w'.cell? ⟨w4.heap.size, 1, none⟩ = some (.slice ad4 n4 cap4) ∧ w'.cell? ⟨w5.heap.size, 0, none⟩ = some (.int .i64 WB) ∧ w'.cell? ⟨w5.heap.size, 1, none⟩ = some (.slice ad5 n5 cap5)) (by kernel_rfl) ?_
  change wpAnyH _ _ _ _ _ _ _ _ w6.drew
  generalize w6.drew = d0 at *
  have HH := Lib.hid (show d0.cell? ⟨w.heap.size, 0, none⟩ = some (.int .i64 WA) ∧ d0.cell? ⟨w.heap.size, 1, none⟩ = some (.slice adA nA capA) ∧ d0.cell? ⟨w.heap.size + 1, 0, none⟩ = some (.int .i64 WB) ∧ d0.cell? ⟨w.heap.size + 1, 1, none⟩ = some (.slice adB nB capB) ∧ d0.cell? ⟨w4.heap.size, 0, none⟩ = some (.int .i64 WA) ∧ d0.cell? ⟨w4.heap.size, 1, none⟩ = some (.slice ad4 n4 cap4) ∧ d0.cell? ⟨w5.heap.size, 0, none⟩ = some (.int .i64 WB) ∧ d0.cell? ⟨w5.heap.size, 1, none⟩ = some (.slice ad5 n5 cap5) from ⟨cA0, cA1, cB0, cB1, cx00, cx01, cx10, cx11⟩)
  refine wpAnyH_take (i := 0) (oi := ⟨some _, _, _, _, _, _⟩) (v := ?_) rfl (by kernel_rfl) (by kernel_rfl) (by kernel_rfl) (fun _ _ _ h => h) (Or.inl ⟨by rfl, ?_⟩) HH.out ?_
  rotate_left
  · intro wS hSw
    try dsimp only at hSw
    go_simp
    all_goals (with_reducible rfl)
  simp only [Act.put, List.setIfInBounds_toArray, List.set_cons_zero, List.set_cons_succ]
  refine wpAnyH_take (i := 1) (oi := ⟨some _, _, _, _, _, _⟩) (v := ?_) rfl (by kernel_rfl) (by kernel_rfl) (by kernel_rfl) (fun _ _ _ h => h) (Or.inl ⟨by rfl, ?_⟩) HH.out ?_
  rotate_left
  · intro wS hSw
    try dsimp only at hSw
    go_simp
    all_goals (with_reducible rfl)
  simp only [Act.put, List.setIfInBounds_toArray, List.set_cons_zero, List.set_cons_succ]
  clear HH
  refine wpAnyH_ready (rs := [2]) (by kernel_rfl) (by simp) ?_
  refine AllReadyH.cons (o := ⟨some _, _, _, _, _, _⟩) rfl (fun Kq hKq => ?_) AllReadyH.nil
  go_simp
  refine (toBasis sA fA).mono ?_
  rintro e w7 ⟨u7, rfl, r7, bl⟩
  have z7 := bl.size
  replace sB := BasisI_below sB bl (by omega)
  replace r4 := BasisO_below r4 bl (by omega)
  replace r5 := BasisO_below r5 bl (by omega)
  replace kA := kA.below bl (by omega)
  clear cA0 cA1
  have cA0 := kA.c0
  have cA1 := kA.c1
  replace kB := kB.below bl (by omega)
  clear cB0 cB1
  have cB0 := kB.c0
  have cB1 := kB.c1
  replace kx0 := kx0.below bl (by omega)
  clear cx00 cx01
  have cx00 := kx0.c0
  have cx01 := kx0.c1
  replace kx1 := kx1.below bl (by omega)
  clear cx10 cx11
  have cx10 := kx1.c0
  have cx11 := kx1.c1
  replace frm := frm.trans (bl.mono (by omega))
  clear bl
  obtain ⟨_, rfl, hw7, ad7, n7, cap7, us7, rfl, r7⟩ := r7
  replace r7 : BasisO w7 _ _ (.agg #[.int .i64 WA, .slice ad7 n7 cap7]) (WA, MA) := ⟨_, rfl, hw7, _, _, _, _, rfl, r7⟩
  have HH := Lib.hid (show w7.cell? ⟨w.heap.size, 0, none⟩ = some (.int .i64 WA) ∧ w7.cell? ⟨w.heap.size, 1, none⟩ = some (.slice adA nA capA) ∧ w7.cell? ⟨w.heap.size + 1, 0, none⟩ = some (.int .i64 WB) ∧ w7.cell? ⟨w.heap.size + 1, 1, none⟩ = some (.slice adB nB capB) ∧ w7.cell? ⟨w4.heap.size, 0, none⟩ = some (.int .i64 WA) ∧ w7.cell? ⟨w4.heap.size, 1, none⟩ = some (.slice ad4 n4 cap4) ∧ w7.cell? ⟨w5.heap.size, 0, none⟩ = some (.int .i64 WB) ∧ w7.cell? ⟨w5.heap.size, 1, none⟩ = some (.slice ad5 n5 cap5) from ⟨cA0, cA1, cB0, cB1, cx00, cx01, cx10, cx11⟩)
  refine hKq.out _ _ HH.out (fun _ => ?_)
  clear hKq Kq
  clear HH
  refine wpAnyH_ready (rs := [3]) (by kernel_rfl) (by simp) ?_
  refine AllReadyH.cons (o := ⟨some _, _, _, _, _, _⟩) rfl (fun Kq hKq => ?_) AllReadyH.nil
  go_simp
  refine (eqBasis (BasisO_is r4) (BasisO_is r7) fA rfl).mono ?_
  rintro e w8 ⟨rfl, bl⟩
  have z8 := bl.size
  replace sB := BasisI_below sB bl (by omega)
  replace r5 := BasisO_below r5 bl (by omega)
  replace kA := kA.below bl (by omega)
  clear cA0 cA1
  have cA0 := kA.c0
  have cA1 := kA.c1
  replace kB := kB.below bl (by omega)
  clear cB0 cB1
  have cB0 := kB.c0
  have cB1 := kB.c1
  replace kx0 := kx0.below bl (by omega)
  clear cx00 cx01
  have cx00 := kx0.c0
  have cx01 := kx0.c1
  replace kx1 := kx1.below bl (by omega)
  clear cx10 cx11
  have cx10 := kx1.c0
  have cx11 := kx1.c1
  replace frm := frm.trans (bl.mono (by omega))
  clear bl
  have HH := Lib.hid (show w8.cell? ⟨w.heap.size, 0, none⟩ = some (.int .i64 WA) ∧ w8.cell? ⟨w.heap.size, 1, none⟩ = some (.slice adA nA capA) ∧ w8.cell? ⟨w.heap.size + 1, 0, none⟩ = some (.int .i64 WB) ∧ w8.cell? ⟨w.heap.size + 1, 1, none⟩ = some (.slice adB nB capB) ∧ w8.cell? ⟨w4.heap.size, 0, none⟩ = some (.int .i64 WA) ∧ w8.cell? ⟨w4.heap.size, 1, none⟩ = some (.slice ad4 n4 cap4) ∧ w8.cell? ⟨w5.heap.size, 0, none⟩ = some (.int .i64 WB) ∧ w8.cell? ⟨w5.heap.size, 1, none⟩ = some (.slice ad5 n5 cap5) from ⟨cA0, cA1, cB0, cB1, cx00, cx01, cx10, cx11⟩)
  refine hKq.out _ _ HH.out (fun _ => ?_)
  clear hKq Kq
  try simp only [Act.put, List.setIfInBounds_toArray, List.set_cons_zero, List.set_cons_succ]
  refine wpAnyH_take (i := 4) (oi := ⟨some _, _, _, _, _, _⟩) (v := ?_) rfl (by kernel_rfl) (by kernel_rfl) (by kernel_rfl) (fun _ _ _ h => h) (Or.inl ⟨by rfl, ?_⟩) HH.out ?_
  rotate_left
  · intro wS hSw
    try dsimp only at hSw
    go_simp
    all_goals (with_reducible rfl)
  simp only [Act.put, List.setIfInBounds_toArray, List.set_cons_zero, List.set_cons_succ]
  refine wpAnyH_done (by kernel_rfl) ?_ _
  clear HH
  clear r4
  clear r7
  go_wp2
  replace sB := BasisI_mv sB (Mv.drew (Mv.refl w8 0 0)) (.inr (Nat.zero_le _))
  replace r5 := BasisO_mv r5 (Mv.drew (Mv.refl w8 0 0)) (.inr (Nat.zero_le _))
  replace kA : Blk w8.drew (w.heap.size) _ (.int .i64 WA) (.slice adA nA capA) := ⟨kA.obj⟩
  clear cA0 cA1
  have cA0 := kA.c0
  have cA1 := kA.c1
  replace kB : Blk w8.drew (w.heap.size + 1) _ (.int .i64 WB) (.slice adB nB capB) := ⟨kB.obj⟩
  clear cB0 cB1
  have cB0 := kB.c0
  have cB1 := kB.c1
  replace kx0 : Blk w8.drew (w4.heap.size) _ (.int .i64 WA) (.slice ad4 n4 cap4) := ⟨kx0.obj⟩
  clear cx00 cx01
  have cx00 := kx0.c0
  have cx01 := kx0.c1
  replace kx1 : Blk w8.drew (w5.heap.size) _ (.int .i64 WB) (.slice ad5 n5 cap5) := ⟨kx1.obj⟩
  clear cx10 cx11
  have cx10 := kx1.c0
  have cx11 := kx1.c1
  replace frm := frm.drew
  have zd : w8.heap.size = w8.drew.heap.size := rfl
  refine wp_region_held (S := fun w' => w'.cell? ⟨w.heap.size, 0, none⟩ = some (.int .i64 WA) ∧ w'.cell? ⟨w.heap.size, 1, none⟩ = some (.slice adA nA capA) ∧ w'.cell? ⟨w.heap.size + 1, 0, none⟩ = some (.int .i64 WB) ∧ w'.cell? ⟨w.heap.size + 1, 1, none⟩ = some (.slice adB nB capB) ∧ w'.cell? ⟨w4.heap.size, 0, none⟩ = some (.int .i64 WA) ∧ w'.cell? ⟨w4.heap.size, 1, none⟩ = some (.slice ad4 n4 cap4) ∧ w'.cell? ⟨w5.heap.size, 0, none⟩ = some (.int .i64 WB) ∧ w'.cell? ⟨w5.heap.size, 1, none⟩ = some (.slice ad5 n5 cap5)) (by kernel_rfl) ?_
  change wpAnyH _ _ _ _ _ _ _ _ w8.drew
  generalize w8.drew = d0 at *
  have HH := Lib.hid (show d0.cell? ⟨w.heap.size, 0, none⟩ = some (.int .i64 WA) ∧ d0.cell? ⟨w.heap.size, 1, none⟩ = some (.slice adA nA capA) ∧ d0.cell? ⟨w.heap.size + 1, 0, none⟩ = some (.int .i64 WB) ∧ d0.cell? ⟨w.heap.size + 1, 1, none⟩ = some (.slice adB nB capB) ∧ d0.cell? ⟨w4.heap.size, 0, none⟩ = some (.int .i64 WA) ∧ d0.cell? ⟨w4.heap.size, 1, none⟩ = some (.slice ad4 n4 cap4) ∧ d0.cell? ⟨w5.heap.size, 0, none⟩ = some (.int .i64 WB) ∧ d0.cell? ⟨w5.heap.size, 1, none⟩ = some (.slice ad5 n5 cap5) from ⟨cA0, cA1, cB0, cB1, cx00, cx01, cx10, cx11⟩)
  refine wpAnyH_take (i := 0) (oi := ⟨some _, _, _, _, _, _⟩) (v := ?_) rfl (by kernel_rfl) (by kernel_rfl) (by kernel_rfl) (fun _ _ _ h => h) (Or.inl ⟨by rfl, ?_⟩) HH.out ?_
  rotate_left
  · intro wS hSw
    try dsimp only at hSw
    go_simp
    all_goals (with_reducible rfl)
  simp only [Act.put, List.setIfInBounds_toArray, List.set_cons_zero, List.set_cons_succ]
  refine wpAnyH_take (i := 1) (oi := ⟨some _, _, _, _, _, _⟩) (v := ?_) rfl (by kernel_rfl) (by kernel_rfl) (by kernel_rfl) (fun _ _ _ h => h) (Or.inl ⟨by rfl, ?_⟩) HH.out ?_
  rotate_left
  · intro wS hSw
    try dsimp only at hSw
    go_simp
    all_goals (with_reducible rfl)
  simp only [Act.put, List.setIfInBounds_toArray, List.set_cons_zero, List.set_cons_succ]
  clear HH
  refine wpAnyH_ready (rs := [2]) (by kernel_rfl) (by simp) ?_
  refine AllReadyH.cons (o := ⟨some _, _, _, _, _, _⟩) rfl (fun Kq hKq => ?_) AllReadyH.nil
  go_simp
  refine (toBasis sB fB).mono ?_
  rintro e w9 ⟨u9, rfl, r9, bl⟩
  have z9 := bl.size
  replace r5 := BasisO_below r5 bl (by omega)
  replace kA := kA.below bl (by omega)
  clear cA0 cA1
  have cA0 := kA.c0
  have cA1 := kA.c1
  replace kB := kB.below bl (by omega)
  clear cB0 cB1
  have cB0 := kB.c0
  have cB1 := kB.c1
  replace kx0 := kx0.below bl (by omega)
  clear cx00 cx01
  have cx00 := kx0.c0
  have cx01 := kx0.c1
  replace kx1 := kx1.below bl (by omega)
  clear cx10 cx11
  have cx10 := kx1.c0
  have cx11 := kx1.c1
  replace frm := frm.trans (bl.mono (by omega))
  clear bl
  obtain ⟨_, rfl, hw9, ad9, n9, cap9, us9, rfl, r9⟩ := r9
  replace r9 : BasisO w9 _ _ (.agg #[.int .i64 WB, .slice ad9 n9 cap9]) (WB, MB) := ⟨_, rfl, hw9, _, _, _, _, rfl, r9⟩
  have HH := Lib.hid (show w9.cell? ⟨w.heap.size, 0, none⟩ = some (.int .i64 WA) ∧ w9.cell? ⟨w.heap.size, 1, none⟩ = some (.slice adA nA capA) ∧ w9.cell? ⟨w.heap.size + 1, 0, none⟩ = some (.int .i64 WB) ∧ w9.cell? ⟨w.heap.size + 1, 1, none⟩ = some (.slice adB nB capB) ∧ w9.cell? ⟨w4.heap.size, 0, none⟩ = some (.int .i64 WA) ∧ w9.cell? ⟨w4.heap.size, 1, none⟩ = some (.slice ad4 n4 cap4) ∧ w9.cell? ⟨w5.heap.size, 0, none⟩ = some (.int .i64 WB) ∧ w9.cell? ⟨w5.heap.size, 1, none⟩ = some (.slice ad5 n5 cap5) from ⟨cA0, cA1, cB0, cB1, cx00, cx01, cx10, cx11⟩)
  refine hKq.out _ _ HH.out (fun _ => ?_)
  clear hKq Kq
  clear HH
  refine wpAnyH_ready (rs := [3]) (by kernel_rfl) (by simp) ?_
  refine AllReadyH.cons (o := ⟨some _, _, _, _, _, _⟩) rfl (fun Kq hKq => ?_) AllReadyH.nil
  go_simp
  refine (eqBasis (BasisO_is r5) (BasisO_is r9) fB rfl).mono ?_
  rintro e w10 ⟨rfl, bl⟩
  have z10 := bl.size
  replace kA := kA.below bl (by omega)
  clear cA0 cA1
  have cA0 := kA.c0
  have cA1 := kA.c1
  replace kB := kB.below bl (by omega)
  clear cB0 cB1
  have cB0 := kB.c0
  have cB1 := kB.c1
  replace kx0 := kx0.below bl (by omega)
  clear cx00 cx01
  have cx00 := kx0.c0
  have cx01 := kx0.c1
  replace kx1 := kx1.below bl (by omega)
  clear cx10 cx11
  have cx10 := kx1.c0
  have cx11 := kx1.c1
  replace frm := frm.trans (bl.mono (by omega))
  clear bl
  have HH := Lib.hid (show w10.cell? ⟨w.heap.size, 0, none⟩ = some (.int .i64 WA) ∧ w10.cell? ⟨w.heap.size, 1, none⟩ = some (.slice adA nA capA) ∧ w10.cell? ⟨w.heap.size + 1, 0, none⟩ = some (.int .i64 WB) ∧ w10.cell? ⟨w.heap.size + 1, 1, none⟩ = some (.slice adB nB capB) ∧ w10.cell? ⟨w4.heap.size, 0, none⟩ = some (.int .i64 WA) ∧ w10.cell? ⟨w4.heap.size, 1, none⟩ = some (.slice ad4 n4 cap4) ∧ w10.cell? ⟨w5.heap.size, 0, none⟩ = some (.int .i64 WB) ∧ w10.cell? ⟨w5.heap.size, 1, none⟩ = some (.slice ad5 n5 cap5) from ⟨cA0, cA1, cB0, cB1, cx00, cx01, cx10, cx11⟩)
  refine hKq.out _ _ HH.out (fun _ => ?_)
  clear hKq Kq
  try simp only [Act.put, List.setIfInBounds_toArray, List.set_cons_zero, List.set_cons_succ]
  refine wpAnyH_take (i := 4) (oi := ⟨some _, _, _, _, _, _⟩) (v := ?_) rfl (by kernel_rfl) (by kernel_rfl) (by kernel_rfl) (fun _ _ _ h => h) (Or.inl ⟨by rfl, ?_⟩) HH.out ?_
  rotate_left
  · intro wS hSw
    try dsimp only at hSw
    go_simp
    all_goals (with_reducible rfl)
  simp only [Act.put, List.setIfInBounds_toArray, List.set_cons_zero, List.set_cons_succ]
  refine wpAnyH_done (by kernel_rfl) ?_ _
  clear HH
  clear r5
  clear r9
  go_wp2
  go_ret
  exact ⟨rfl, frm⟩

end Go.Proofs.Ytaieadpbfonkiaa.LawBasEx
