/-
  FnElimination, FnInverses, FnSystems: the laws' own text walked, over the contracts of what they call.
  FnElimination, FnInverses, FnSystems, with the contracts of the program's functions handed in.
-/
import Derived.Test.YtagncoaeochmnaaGF
import Derived.Test.YtagncoaeochmnaaGH
namespace Go.Proofs.Ytagncoaeochmnaa.LawElim
open Go.ChangeShapes Go.WideShapes Go.ChangeAt Go.RowKit
open Go.Proofs.Ytagncoaeochmnaa.Kit Go.Proofs.Ytagncoaeochmnaa.Seq Go.Proofs.Ytagncoaeochmnaa.Help Go.Proofs.Ytagncoaeochmnaa.Draw Go.Proofs.Ytagncoaeochmnaa.DrawInt Go.Proofs.Ytagncoaeochmnaa.DrawVec Go.Proofs.Ytagncoaeochmnaa.DrawMat Go.Proofs.Ytagncoaeochmnaa.DrawElim Go.Proofs.Ytagncoaeochmnaa.Field Go.Proofs.Ytagncoaeochmnaa.FieldW Go.Proofs.Ytagncoaeochmnaa.Vec Go.Proofs.Ytagncoaeochmnaa.VecW Go.Proofs.Ytagncoaeochmnaa.VecOps Go.Proofs.Ytagncoaeochmnaa.Mat Go.Proofs.Ytagncoaeochmnaa.MatW Go.Proofs.Ytagncoaeochmnaa.MatOps Go.Proofs.Ytagncoaeochmnaa.MatP Go.Proofs.Ytagncoaeochmnaa.Rref Go.Proofs.Ytagncoaeochmnaa.RedW Go.Proofs.Ytagncoaeochmnaa.ElimOps

theorem bytes_at {w : World} {v : Value} {ad : Option Addr} {n cap : Nat} (h : IntsAt .u8 w v ad n cap) : BytesAt w v ad n cap :=
  ⟨h.val, Nat.le_trans h.len h.cap, fun j hj => by
    obtain ⟨a, x, e, f, hx⟩ := h.cells j hj
    obtain ⟨h0, h1⟩ := fits_u8.1 f
    exact ⟨a, x, e, h0, h1, hx⟩⟩

set_option maxRecDepth 100000 in
set_option maxHeartbeats 1600000 in
theorem inverses (cI : InvOp) (cD : DetOp) (cM : MulMOp) (cT : TransOp) (w : World) (v : Value) (ad : Option Addr) (n cap : Nat) (ia : IntsAt .u8 w v ad n cap) :
    Calls Try.prog 4 #[v] w fun e w' => e = .returned (.bool true) ∧ Below w.heap.size w w' := by
  have hv := bytes_at ia
  obtain ⟨ds, rfl, sc⟩ := of_ints ia
  rcases Nat.lt_or_ge 1048576 n with big | big
  · go_enter Try.func4, Try.ntmps4
    go_wp2_with (go_at_call 13; refine (Same.big_yes _ _ _ _ big).mono ?_; rintro e w' ⟨rfl, rfl⟩)
    go_ret
    exact ⟨rfl, Below.refl _ _⟩
  have HI := Lib.hid cI
  have HD := Lib.hid cD
  have HM := Lib.hid cM
  have HT := Lib.hid cT
  clear cI cD cM cT
  go_enter Try.func4, Try.ntmps4
  go_wp2_with fail
  go_at_call 13
  refine (Same.big_no _ _ _ _ big).mono ?_
  rintro e w' ⟨rfl, rfl⟩
  go_wp2_with fail
  go_at_call 24
  refine (drawInvertMatrix w _ ad n cap big hv).mono ?_
  rintro e w1 ⟨ad1, m1, cap1, a, rfl, h1, ha, sa, frm⟩
  have z1 := frm.size
  have hsh : Short a := fun xs hx => by have := ha xs hx; omega
  have HSh := Lib.hid hsh
  have la := sa.len
  have LA := Lib.hid la
  have C0 : Calls Try.prog 25 #[.slice ad1 m1 cap1] w1 (Gives3B (InvP.invM a) (InvP.isFull a) w1) := HI.out w1 sa (by omega) hsh
  clear hv hsh ha la
  cases hfull : InvP.isFull a
  · rw [hfull, InvP.invM_no hfull] at C0
    have C0 := Lib.hid C0
    go_wp2_with fail
    go_at_call 25
    refine (C0.out).mono ?_
    rintro e w2 ⟨ad2, m2, cap2, us2, rfl, r2, bl⟩
    have sx := r2.sls
    have lsx := r2.len
    clear r2
    have z2 := bl.size
    replace sa := sa.below bl (by omega)
    replace frm := frm.trans (bl.mono (by omega))
    clear bl
    obtain rfl : m2 = 0 := lsx.symm
    clear lsx sx C0
    have C1 := Lib.hid (spec_isMat w2 sa)
    go_wp2_with fail
    go_at_call 16
    refine (C1.out).mono ?_
    rintro e w3 ⟨rfl, q1, hq⟩
    have bl : Below w2.heap.size w2 w3 := hq ▸ below_drewN (Below.refl _ _) q1
    clear hq
    have z3 := bl.size
    replace sa := sa.below bl (by omega)
    replace frm := frm.trans (bl.mono (by omega))
    clear bl
    cases hma : isMat a
    · clear hma
      go_wp2
      go_ret
      exact ⟨rfl, frm⟩
    have KC := spec_cols w3 sa
    obtain ⟨c, hcc⟩ : ∃ c, c = colsOf a := ⟨_, rfl⟩
    rw [← hcc] at KC
    have KC := Lib.hid KC
    go_wp2_with fail
    go_at_call 21
    refine (KC.out).mono ?_
    rintro e w' ⟨rfl, rfl⟩
    by_cases hmc : m1 = c
    case neg =>
      have hc1 : ((m1 : Int) == (c : Int)) = false := by simp; omega
      have hc2 : ((m1 : Int) != (c : Int)) = true := by simp; omega
      clear hmc hma hcc
      go_wp2
      go_ret
      exact ⟨rfl, frm⟩
    subst hmc
    by_cases h20 : m1 ≤ 20
    case neg =>
      have hc1 : (20 : Int) < m1 := by omega
      clear hma hcc
      go_wp2
      go_ret
      exact ⟨rfl, frm⟩
    have hc20 : ¬ (20 : Int) < m1 := by omega
    have hsq : InvP.isSq a = true := InvP.isSq_iff.2 ⟨hma, by rw [LA.out]; exact hcc⟩
    have hrk : (rref a).length ≠ m1 := fun e => by
      rw [InvP.isFull_iff.2 ⟨hsq, by rw [LA.out]; exact h20, by rw [LA.out]; exact e⟩] at hfull
      cases hfull
    have hdet : InvP.detM a = 0 := by
      rw [InvP.detM_ok hsq]
      have : Det.det a.length (ent a) = 0 := Classical.byContradiction fun e => hrk (by rw [← LA.out]; exact (InvP.full_iff hsq).2 e)
      rw [this]; rfl
    have KD := HD.out w3 sa (by omega) HSh.out
    rw [hdet] at KD
    have KD := Lib.hid KD
    obtain ⟨rr, hrr⟩ : ∃ rr, rr = (rref a).length := ⟨_, rfl⟩
    rw [← hrr] at hrk
    have HRR := Lib.hid hrr
    have hr1 : ((rr : Int) == (m1 : Int)) = false := by simp; omega
    clear hma hcc hfull hsq hdet hrr hrk
    go_wp2_with fail
    go_at_call 26
    refine (KD.out).mono ?_
    rintro e w4 ⟨rfl, bl⟩
    have z4 := bl.size
    replace sa := sa.below bl (by omega)
    replace frm := frm.trans (bl.mono (by omega))
    clear bl
    have KR := spec_rank w4 sa
    rw [← HRR.out] at KR
    have KR := Lib.hid KR
    go_wp2_with fail
    go_at_call 27
    refine (KR.out).mono ?_
    rintro e w5 ⟨rfl, bl⟩
    have z5 := bl.size
    replace sa := sa.below bl (by omega)
    replace frm := frm.trans (bl.mono (by omega))
    clear bl
    go_wp2
    go_ret
    exact ⟨rfl, frm⟩
  · rw [hfull] at C0
    have C0 := Lib.hid C0
    obtain ⟨hsq, h20, hrk⟩ := InvP.isFull_iff.1 hfull
    obtain ⟨hma, hsc⟩ := InvP.isSq_iff.1 hsq
    rw [LA.out] at h20 hrk hsc
    have HL := Lib.hid (InvP.inv_laws hfull)
    have hdn := (InvP.full_iff hsq).1 (by rw [LA.out]; exact hrk)
    have hdet := InvP.detM_ok hsq
    have hFX := InvP.few_invM a
    obtain ⟨d, hd⟩ : ∃ d, d = InvP.detM a := ⟨_, rfl⟩
    obtain ⟨dx, hdx⟩ : ∃ dx, dx = InvP.detM (InvP.invM a) := ⟨_, rfl⟩
    have hdi := InvP.detM_in a
    rw [← hd] at hdet hdi
    have hdz : ¬ d = 0 := fun e => by
      rw [e] at hdet
      exact hdn (em_inj hdet.symm)
    have hd1 : (d == 0) = false := by simpa using hdz
    have hd2 : (d != 0) = true := by simpa using hdz
    obtain ⟨X, hX⟩ : ∃ X, X = InvP.invM a := ⟨_, rfl⟩
    rw [← hX] at C0 HL hFX hdx
    have HD1 := Lib.hid hd
    have HD2 := Lib.hid hdx
    have HSX : Hid (Short X) := Lib.hid fun xs hx => by have := hFX.2 xs hx; omega
    have hx20 := hFX.1
    have hc20 : ¬ (20 : Int) < m1 := by omega
    have HRK := Lib.hid hrk
    have HMA := Lib.hid hma
    have HSC := Lib.hid hsc
    clear hfull hsq hrk hma hsc hdn hdet hFX hd hdx hX hdz
    go_wp2_with fail
    go_at_call 25
    refine (C0.out).mono ?_
    rintro e w2 ⟨ad2, m2, cap2, us2, rfl, r2, bl⟩
    have sx := r2.sls
    have lsx := r2.len
    clear r2
    have z2 := bl.size
    replace sa := sa.below bl (by omega)
    replace frm := frm.trans (bl.mono (by omega))
    clear bl
    have C1 := spec_isMat w2 sa
    rw [HMA.out] at C1
    have C1 := Lib.hid C1
    have hmx : m2 ≤ 20 := by omega
    clear lsx
    go_wp2_with fail
    go_at_call 16
    refine (C1.out).mono ?_
    rintro e w3 ⟨rfl, q1, hq⟩
    have bl : Below w2.heap.size w2 w3 := hq ▸ below_drewN (Below.refl _ _) q1
    clear hq
    have z3 := bl.size
    replace sa := sa.below bl (by omega)
    replace sx := sx.below bl (by omega)
    replace frm := frm.trans (bl.mono (by omega))
    clear bl
    have KC := spec_cols w3 sa
    rw [← HSC.out] at KC
    have KC := Lib.hid KC
    go_wp2_with fail
    go_at_call 21
    refine (KC.out).mono ?_
    rintro e w' ⟨rfl, rfl⟩
    have KD := HD.out w3 sa (by omega) HSh.out
    rw [← HD1.out] at KD
    have KD := Lib.hid KD
    go_wp2_with fail
    go_at_call 26
    refine (KD.out).mono ?_
    rintro e w4 ⟨rfl, bl⟩
    have z4 := bl.size
    replace sa := sa.below bl (by omega)
    replace sx := sx.below bl (by omega)
    replace frm := frm.trans (bl.mono (by omega))
    clear bl
    have KR := spec_rank w4 sa
    rw [HRK.out] at KR
    have KR := Lib.hid KR
    go_wp2_with fail
    go_at_call 27
    refine (KR.out).mono ?_
    rintro e w5 ⟨rfl, bl⟩
    have z5 := bl.size
    replace sa := sa.below bl (by omega)
    replace sx := sx.below bl (by omega)
    replace frm := frm.trans (bl.mono (by omega))
    clear bl
    by_cases hm0 : m1 = 0
    case pos =>
      subst hm0
      clear KD KR KC C1 C0
      go_wp2
      go_ret
      exact ⟨rfl, frm⟩
    have hm1 : ((m1 : Int) == 0) = false := by simp; omega
    obtain ⟨e1, e2, e3, e4⟩ := HL.out (by rw [LA.out]; omega)
    rw [LA.out] at e1 e2
    rw [← HD1.out, ← HD2.out] at e3
    rw [← HD1.out] at e4
    have E1 := Lib.hid e1
    have E2 := Lib.hid e2
    have E3 := Lib.hid e3
    have E4 := Lib.hid e4
    have hI40 : Few (identity (m1 : Int)) := few_identity _
    have HI40 := Lib.hid hI40.short
    have hIl : (identity (m1 : Int)).length ≤ 40 := hI40.1
    obtain ⟨I, hI⟩ : ∃ I, I = identity (m1 : Int) := ⟨_, rfl⟩
    rw [← hI] at E1 E2 HI40 hIl
    have HId := Lib.hid hI
    clear e1 e2 e3 e4 hI hI40 KD KR KC C1 C0 HL
    have KM := HM.out w5 sa (by omega) HSh.out sx (by omega) HSX.out
    rw [E1.out] at KM
    have KM := Lib.hid KM
    go_wp2_with fail
    go_at_call 28
    refine (KM.out).mono ?_
    rintro e w6 ⟨ad6, m6, cap6, us6, rfl, r6, bl⟩
    have sp := r6.sls
    have lsp := r6.len
    clear r6
    have z6 := bl.size
    replace sa := sa.below bl (by omega)
    replace sx := sx.below bl (by omega)
    replace frm := frm.trans (bl.mono (by omega))
    clear bl
    have KI := spec_identity w6 m1 (by omega) (by omega)
    rw [← HId.out] at KI
    have KI := Lib.hid KI
    clear KM
    go_wp2_with fail
    go_at_call 29
    refine (KI.out).mono ?_
    rintro e w7 ⟨ad7, m7, cap7, us7, rfl, r7, bl⟩
    have si := r7.sls
    have lsi := r7.len
    clear r7
    have z7 := bl.size
    replace sa := sa.below bl (by omega)
    replace sx := sx.below bl (by omega)
    replace sp := sp.below bl (by omega)
    replace frm := frm.trans (bl.mono (by omega))
    clear bl
    go_wp2_with fail
    go_at_call 19
    refine (Same.sameRows w7 sp si (by omega) HI40.out rfl).mono ?_
    rintro e w8 ⟨rfl, bl⟩
    have z8 := bl.size
    replace sa := sa.below bl (by omega)
    replace sx := sx.below bl (by omega)
    replace sp := sp.below bl (by omega)
    replace si := si.below bl (by omega)
    replace frm := frm.trans (bl.mono (by omega))
    clear bl
    clear sp si lsp lsi KI
    have KM := HM.out w8 sx (by omega) HSX.out sa (by omega) HSh.out
    rw [E2.out] at KM
    have KM := Lib.hid KM
    go_wp2_with fail
    go_at_call 28
    refine (KM.out).mono ?_
    rintro e w9 ⟨ad9, m9, cap9, us9, rfl, r9, bl⟩
    have sp := r9.sls
    have lsp := r9.len
    clear r9
    have z9 := bl.size
    replace sa := sa.below bl (by omega)
    replace sx := sx.below bl (by omega)
    replace frm := frm.trans (bl.mono (by omega))
    clear bl
    have KI := spec_identity w9 m1 (by omega) (by omega)
    rw [← HId.out] at KI
    have KI := Lib.hid KI
    clear KM
    go_wp2_with fail
    go_at_call 29
    refine (KI.out).mono ?_
    rintro e w10 ⟨ad10, m10, cap10, us10, rfl, r10, bl⟩
    have si := r10.sls
    have lsi := r10.len
    clear r10
    have z10 := bl.size
    replace sa := sa.below bl (by omega)
    replace sx := sx.below bl (by omega)
    replace sp := sp.below bl (by omega)
    replace frm := frm.trans (bl.mono (by omega))
    clear bl
    go_wp2_with fail
    go_at_call 19
    refine (Same.sameRows w10 sp si (by omega) HI40.out rfl).mono ?_
    rintro e w11 ⟨rfl, bl⟩
    have z11 := bl.size
    replace sa := sa.below bl (by omega)
    replace sx := sx.below bl (by omega)
    replace sp := sp.below bl (by omega)
    replace si := si.below bl (by omega)
    replace frm := frm.trans (bl.mono (by omega))
    clear bl
    clear sp si lsp lsi KI
    have KD := HD.out w11 sx (by omega) HSX.out
    rw [← HD2.out] at KD
    have KD := Lib.hid KD
    go_wp2_with fail
    go_at_call 26
    refine (KD.out).mono ?_
    rintro e w12 ⟨rfl, bl⟩
    have z12 := bl.size
    replace sa := sa.below bl (by omega)
    replace sx := sx.below bl (by omega)
    replace frm := frm.trans (bl.mono (by omega))
    clear bl
    have KF := spec_mul w12 d dx
    rw [E3.out] at KF
    have KF := Lib.hid KF
    clear KD
    go_wp2_with fail
    go_at_call 30
    refine (KF.out).mono ?_
    rintro e w' ⟨rfl, rfl⟩
    have KT := Lib.hid (HT.out w12 sa (by omega) HSh.out)
    have fT := few_transpose a
    have HFT := Lib.hid fT.short
    have hTl := fT.1
    clear fT
    go_wp2_with fail
    go_at_call 31
    refine (KT.out).mono ?_
    rintro e w13 ⟨ad13, m13, cap13, us13, rfl, r13, bl⟩
    have st := r13.sls
    have lst := r13.len
    clear r13
    have z13 := bl.size
    replace sa := sa.below bl (by omega)
    replace sx := sx.below bl (by omega)
    replace frm := frm.trans (bl.mono (by omega))
    clear bl
    have KD := HD.out w13 st (by omega) HFT.out
    rw [E4.out] at KD
    have KD := Lib.hid KD
    clear KT
    go_wp2_with fail
    go_at_call 26
    refine (KD.out).mono ?_
    rintro e w14 ⟨rfl, bl⟩
    have z14 := bl.size
    replace sa := sa.below bl (by omega)
    replace sx := sx.below bl (by omega)
    replace st := st.below bl (by omega)
    replace frm := frm.trans (bl.mono (by omega))
    clear bl
    go_wp2
    go_ret
    exact ⟨rfl, frm⟩

theorem solve_false {m : List (List Int)} {b : List Int} (h : (SolP.solveM m b).2 = false) : (SolP.solveM m b).1 = [] := by
  by_cases hx : SolP.sysOk m b = true ∧ ∃ x, SolP.IsSol m b x
  · obtain ⟨h1, x, hx⟩ := hx
    rw [SolP.solveM_is h1 hx] at h; cases h
  · unfold SolP.solveM; rw [dif_neg hx]
theorem solve_true {m : List (List Int)} {b : List Int} (h : (SolP.solveM m b).2 = true) : SolP.sysOk m b = true ∧ ∃ x, SolP.IsSol m b x ∧ (SolP.solveM m b).1 = vec (colsOf m) x := by
  by_cases hx : SolP.sysOk m b = true ∧ ∃ x, SolP.IsSol m b x
  · obtain ⟨h1, x, hx⟩ := hx
    exact ⟨h1, x, hx, by rw [SolP.solveM_is h1 hx]⟩
  · unfold SolP.solveM at h; rw [dif_neg hx] at h; cases h
theorem mulVec_vec {a : List (List Int)} {v : List Int} (hm : isMat a = true) (hv : isVec v = true) (hl : v.length = colsOf a) (h0 : 0 < a.length) : isVec (mulVec a v) = true ∧ (mulVec a v).length = a.length := by
  have e := mulVec_mk (ent a) (fun j => toF (v[j]?.getD 0)) h0 (isMat_iff.1 hm).2 (colsOf_le hm)
  rw [mk_ent hm, ← hl, ← of_isVec hv] at e
  rw [e]
  exact ⟨isVec_vec _ (isMat_iff.1 hm).2, vec_len _ _⟩
/-- What FnSystems asks at the end. -/
theorem sys_back {a : List (List Int)} {v : List Int} (hm : isMat a = true) (hc : colsOf a < 40) (hv : isVec v = true) (hl : v.length = colsOf a) (h0 : 0 < a.length) :
    ∃ y, SolP.solveM a (mulVec a v) = (vec (colsOf a) y, true) ∧ mulVec a (vec (colsOf a) y) = mulVec a v := by
  obtain ⟨h1, h2⟩ := mulVec_vec hm hv hl h0
  obtain ⟨y0, hy0⟩ := SolP.back_sol hm hv hl h0
  obtain ⟨y, hy⟩ := SolP.sol_of hm y0 hy0
  exact ⟨y, SolP.solveM_is (SolP.sysOk_iff.2 ⟨hm, h1, h2, hc⟩) hy, SolP.sol_back hm h1 h2 h0 hy.eqs⟩
theorem els_set {ys : List Int} {j : Nat} {y : Int} (h : ∀ x ∈ ys, isEl x = true) (hy : isEl y = true) : ∀ x ∈ ys.set j y, isEl x = true := fun x hx => by
  rcases List.mem_or_eq_of_mem_set hx with h1 | rfl
  · exact h x h1
  · exact hy
set_option maxRecDepth 100000 in
set_option maxHeartbeats 1600000 in
theorem systems (cS : SolveOp) (w : World) (v : Value) (ad : Option Addr) (n cap : Nat) (ia : IntsAt .u8 w v ad n cap) :
    Calls Try.prog 5 #[v] w fun e w' => e = .returned (.bool true) ∧ Below w.heap.size w w' := by
  have hv := bytes_at ia
  obtain ⟨ds, rfl, sc⟩ := of_ints ia
  rcases Nat.lt_or_ge 1048576 n with big | big
  · go_enter Try.func5, Try.ntmps5
    go_wp2_with (go_at_call 13; refine (Same.big_yes _ _ _ _ big).mono ?_; rintro e w' ⟨rfl, rfl⟩)
    go_ret
    exact ⟨rfl, Below.refl _ _⟩
  have HS := Lib.hid cS
  clear cS
  go_enter Try.func5, Try.ntmps5
  go_wp2_with fail
  go_at_call 13
  refine (Same.big_no _ _ _ _ big).mono ?_
  rintro e w' ⟨rfl, rfl⟩
  go_wp2_with fail
  go_at_call 32
  refine (drawSolveSystem w _ ad n cap big hv).mono ?_
  rintro e w1 ⟨ad1, m1, cap1, a, ad2, m2, cap2, b, rfl, h1, h2, ha, sa, sb, frm⟩
  have z1 := frm.size
  have hsh : Short a := fun xs hx => by have := ha xs hx; omega
  have HSh := Lib.hid hsh
  have LA := Lib.hid sa.len
  have LB := Lib.hid sb.len
  have C0 := HS.out w1 sa (by omega) hsh sb (by omega)
  have C2 : ∀ w' (t : Sls w' w.heap.size w1.heap.size ad1 m1 cap1 a) (t2 : Sl w' w.heap.size w1.heap.size .i64 ad2 m2 cap2 b), Calls Try.prog 34 #[.slice ad1 m1 cap1, .slice ad2 m2 cap2] w' (GivesB (SolP.solveM a b).1 (SolP.solveM a b).2 w') := fun w' t t2 => spec_solve w' t t2
  have hfs := SolP.few_solve a b
  clear hv hsh ha
  cases hok : (SolP.solveM a b).2
  · rw [hok, solve_false hok] at C0 C2
    have C0 := Lib.hid C0
    have C2 := Lib.hid C2
    clear hok hfs
    go_wp2_with fail
    go_at_call 33
    refine (C0.out).mono ?_
    rintro e w2 ⟨ad2, m2, cap2, rfl, r2, bl⟩
    have sx := r2.sl
    have lsx := r2.len
    clear r2
    have z2 := bl.size
    replace sa := sa.below bl (by omega)
    replace sb := sb.below bl (by omega)
    replace frm := frm.trans (bl.mono (by omega))
    clear bl
    obtain rfl : m2 = 0 := lsx.symm
    clear lsx sx
    go_wp2_with fail
    go_at_call 34
    refine (C2.out w2 sa sb).mono ?_
    rintro e w3 ⟨ad3, m3, cap3, rfl, r3, bl⟩
    have sy := r3.sl
    have lsy := r3.len
    clear r3
    have z3 := bl.size
    replace sa := sa.below bl (by omega)
    replace sb := sb.below bl (by omega)
    replace frm := frm.trans (bl.mono (by omega))
    clear bl
    go_wp2
    go_ret
    exact ⟨rfl, frm⟩
  · rw [hok] at C0 C2
    obtain ⟨hsys, x, hx, e0⟩ := solve_true hok
    rw [e0] at C0 C2 hfs
    obtain ⟨hma, hvb, hlb, hc40⟩ := SolP.sysOk_iff.1 hsys
    have C0 := Lib.hid C0
    have C2 := Lib.hid C2
    have HX := Lib.hid hx
    have HMA := Lib.hid hma
    have hBack : 0 < m1 → mulVec a (vec (colsOf a) x) = b := fun h0 => SolP.sol_back hma hvb hlb (by rw [LA.out]; exact h0) hx.eqs
    have HBack := Lib.hid hBack
    have hm40 := (isMat_iff.1 hma).2
    rw [LA.out] at hm40
    have KC := Lib.hid (fun w' (t : Sls w' w.heap.size w1.heap.size ad1 m1 cap1 a) => spec_cols w' t)
    obtain ⟨c, hcc⟩ : ∃ c, c = colsOf a := ⟨_, rfl⟩
    have HCC := Lib.hid hcc
    rw [← hcc] at C0 C2 KC hfs hc40 HBack
    obtain ⟨xs, hxs⟩ : ∃ xs, xs = vec c x := ⟨_, rfl⟩
    have hxl : xs.length = c := by rw [hxs, vec_len]
    have HXs := Lib.hid hxs
    rw [← hxs] at C0 C2 HBack hfs
    have HXl := Lib.hid hxl
    clear hok hsys hx e0 hma hvb hlb hBack hcc hxs hxl
    go_wp2_with fail
    go_at_call 33
    refine (C0.out).mono ?_
    rintro e w2 ⟨ad2, m2, cap2, rfl, r2, bl⟩
    have sx := r2.sl
    have lsx := r2.len
    clear r2
    have z2 := bl.size
    replace sa := sa.below bl (by omega)
    replace sb := sb.below bl (by omega)
    replace frm := frm.trans (bl.mono (by omega))
    clear bl
    obtain rfl : m2 = c := by rw [← lsx, HXl.out]
    clear lsx
    go_wp2_with fail
    go_at_call 34
    refine (C2.out w2 sa sb).mono ?_
    rintro e w3 ⟨ad3, m3, cap3, rfl, r3, bl⟩
    have sy := r3.sl
    have lsy := r3.len
    clear r3
    have z3 := bl.size
    replace sa := sa.below bl (by omega)
    replace sb := sb.below bl (by omega)
    replace sx := sx.below bl (by omega)
    replace frm := frm.trans (bl.mono (by omega))
    clear bl
    clear sy lsy
    by_cases hm0 : m1 = 0
    case pos =>
      subst hm0
      clear HBack C0 C2
      go_wp2_with fail
      go_at_call 21
      refine (KC.out w3 sa).mono ?_
      rintro e w' ⟨rfl, rfl⟩
      go_wp2_with (at_make; refine wpList_mk (n := m2) Try.underlying30 info_int (fits_i64.2 (by omega)) (by unfold maxLen; omega) (by omega) rfl _ _ rfl rfl rfl ?_; intro w20 hr20 bl)
      go_loopw [10] (fun i wr => ∃ (j : Nat) (ys : List Int), j ≤ m2 ∧ i = .int .i64 j ∧ Row wr w3.heap.size wr.heap.size .i64 3 (some ⟨w3.heap.size, 0, none⟩) m2 m2 ys ∧ Hid (∀ y ∈ ys, isEl y = true) ∧ Below w3.heap.size w3 wr) (fun i _ => m2 - (intOf i).toNat)
      case atStart => exact ⟨0, _, Nat.zero_le _, rfl, hr20, (fun y hy => by rw [List.eq_of_mem_replicate hy]; decide), bl⟩
      case round =>
        obtain ⟨j, ys, hj, rfl, hr, HE, hbl⟩ := hrel
        have zb := hbl.size
        have frm1 := frm.trans (hbl.mono (by omega))
        by_cases hlt : j < m2
        · obtain ⟨y, hy, CY⟩ := Same.at_det (l := 0) (h := w.heap.size) (ad := ad) (cap := cap) sc.len sc.fits big j (by omega)
          have CY := Lib.hid (CY wr (sc.below frm1 (.inl (Nat.le_refl _))))
          obtain ⟨u0, _, _, hc0, hf0⟩ := hr.there hlt
          have hput := hr.set (x := (y : Int)) hlt (fits_i64.2 (by omega))
          have HP := Lib.hid hput
          have HE2 := Lib.hid (els_set (j := j) HE.out (isEl_iff.2 (by omega) : isEl (y : Int) = true))
          clear hput hr
          go_wp2_with fail
          go_at_call 37
          refine CY.out.mono ?_
          rintro e w' ⟨rfl, rfl⟩
          go_wp2
          go_roundw
          case rel => exact ⟨j + 1, _, by omega, by go_num, HP.out.1.lt, HE2.out, hbl.trans (HP.out.2.below (Nat.le_refl _) hbl.size)⟩
          case measure => simp [intOf]; omega
        obtain rfl : j = m2 := by omega
        have sv := hr.sl
        have LV := Lib.hid hr.len
        replace sa := sa.below hbl (by omega)
        replace frm := frm1
        clear hr hr20 bl hbl frm1
        have hvv : isVec ys = true := isVec_iff.2 ⟨HE.out, by rw [LV.out]; omega⟩
        go_wp2_with fail
        go_at_call 36
        refine (spec_mulVec wr sa sv).mono ?_
        rintro e w4 ⟨ad4, m4, cap4, rfl, r4, bl⟩
        have sm := r4.sl
        have lsm := r4.len
        clear r4
        have z4 := bl.size
        replace sa := sa.below bl (by omega)
        replace sv := sv.below bl (by omega)
        replace frm := frm.trans (bl.mono (by omega))
        clear bl
        have hsm := mulVec_short (a := a) ys (by rw [LA.out]; omega)
        go_wp2_with fail
        go_at_call 33
        refine (HS.out w4 sa (by omega) HSh.out sm (by omega)).mono ?_
        rintro e w5 ⟨ad5, m5, cap5, rfl, r5, bl⟩
        have sy := r5.sl
        have lsy := r5.len
        clear r5
        have z5 := bl.size
        replace sa := sa.below bl (by omega)
        replace sv := sv.below bl (by omega)
        replace sm := sm.below bl (by omega)
        replace frm := frm.trans (bl.mono (by omega))
        clear bl
        go_wp2
        go_ret
        exact ⟨rfl, frm⟩
    have hm1 : ((m1 : Int) == 0) = false := by simp; omega
    have hm2 : (0 : Int) < m1 := by omega
    have hm3 : 0 < m1 := by omega
    clear C0 C2
    go_wp2_with fail
    go_at_call 21
    refine (KC.out w3 sa).mono ?_
    rintro e w' ⟨rfl, rfl⟩
    have K1 := spec_mulVec w3 sa sx
    rw [HBack.out hm3] at K1
    have K1 := Lib.hid K1
    go_wp2_with fail
    go_at_call 36
    refine (K1.out).mono ?_
    rintro e w4 ⟨ad4, m4, cap4, rfl, r4, bl⟩
    have sm := r4.sl
    have lsm := r4.len
    clear r4
    have z4 := bl.size
    replace sa := sa.below bl (by omega)
    replace sb := sb.below bl (by omega)
    replace sx := sx.below bl (by omega)
    replace frm := frm.trans (bl.mono (by omega))
    clear bl
    go_wp2_with fail
    go_at_call 35
    refine (Same.sameInts w4 sm sb (by have := LB.out; omega) rfl).mono ?_
    rintro e w5 ⟨rfl, bl⟩
    have z5 := bl.size
    replace sa := sa.below bl (by omega)
    replace sb := sb.below bl (by omega)
    replace sx := sx.below bl (by omega)
    replace sm := sm.below bl (by omega)
    replace frm := frm.trans (bl.mono (by omega))
    clear bl
    clear sm lsm K1
    go_wp2_with fail
    go_at_call 21
    refine (KC.out w5 sa).mono ?_
    rintro e w' ⟨rfl, rfl⟩
    go_wp2_with (at_make; refine wpList_mk (n := m2) Try.underlying30 info_int (fits_i64.2 (by omega)) (by unfold maxLen; omega) (by omega) rfl _ _ rfl rfl rfl ?_; intro w20 hr20 bl)
    go_loopw [10] (fun i wr => ∃ (j : Nat) (ys : List Int), j ≤ m2 ∧ i = .int .i64 j ∧ Row wr w5.heap.size wr.heap.size .i64 3 (some ⟨w5.heap.size, 0, none⟩) m2 m2 ys ∧ Hid (∀ y ∈ ys, isEl y = true) ∧ Below w5.heap.size w5 wr) (fun i _ => m2 - (intOf i).toNat)
    case atStart => exact ⟨0, _, Nat.zero_le _, rfl, hr20, (fun y hy => by rw [List.eq_of_mem_replicate hy]; decide), bl⟩
    case round =>
      obtain ⟨j, ys, hj, rfl, hr, HE, hbl⟩ := hrel
      have zb := hbl.size
      have frm1 := frm.trans (hbl.mono (by omega))
      by_cases hlt : j < m2
      · obtain ⟨y, hy, CY⟩ := Same.at_det (l := 0) (h := w.heap.size) (ad := ad) (cap := cap) sc.len sc.fits big j (by omega)
        have CY := Lib.hid (CY wr (sc.below frm1 (.inl (Nat.le_refl _))))
        obtain ⟨u0, _, _, hc0, hf0⟩ := hr.there hlt
        have hput := hr.set (x := (y : Int)) hlt (fits_i64.2 (by omega))
        have HP := Lib.hid hput
        have HE2 := Lib.hid (els_set (j := j) HE.out (isEl_iff.2 (by omega) : isEl (y : Int) = true))
        clear hput hr
        go_wp2_with fail
        go_at_call 37
        refine CY.out.mono ?_
        rintro e w' ⟨rfl, rfl⟩
        go_wp2
        go_roundw
        case rel => exact ⟨j + 1, _, by omega, by go_num, HP.out.1.lt, HE2.out, hbl.trans (HP.out.2.below (Nat.le_refl _) hbl.size)⟩
        case measure => simp [intOf]; omega
      obtain rfl : j = m2 := by omega
      have sv := hr.sl
      have LV := Lib.hid hr.len
      replace sa := sa.below hbl (by omega)
      replace frm := frm1
      clear hr hr20 bl hbl frm1
      have hvv : isVec ys = true := isVec_iff.2 ⟨HE.out, by rw [LV.out]; omega⟩
      obtain ⟨y, hy1, hy2⟩ := sys_back HMA.out (by rw [← HCC.out]; omega) hvv (by rw [LV.out, HCC.out]) (by rw [LA.out]; omega)
      rw [← HCC.out] at hy1 hy2
      obtain ⟨zs, hzs⟩ : ∃ zs, zs = vec j y := ⟨_, rfl⟩
      rw [← hzs] at hy1 hy2
      have hbl40 := mulVec_short (a := a) ys (by rw [LA.out]; omega)
      have HY1 := Lib.hid hy1
      have HY2 := Lib.hid hy2
      have KM := fun w' (t : Sls w' w.heap.size w1.heap.size ad1 m1 cap1 a) {l2 h2 : Nat} {ad2 : Option Addr} {n2 cap2 : Nat} {v : List Int} (t2 : Sl w' l2 h2 .i64 ad2 n2 cap2 v) => spec_mulVec w' t t2
      have KM := Lib.hid KM
      obtain ⟨bb, hbb⟩ : ∃ bb, bb = mulVec a ys := ⟨_, rfl⟩
      rw [← hbb] at HY1 HY2 hbl40
      have HBB := Lib.hid hbb
      clear hy1 hy2 hbb hvv
      have K1 := spec_mulVec wr sa sv
      rw [← HBB.out] at K1
      have K1 := Lib.hid K1
      go_wp2_with fail
      go_at_call 36
      refine (K1.out).mono ?_
      rintro e w6 ⟨ad6, m6, cap6, rfl, r6, bl⟩
      have sm := r6.sl
      have lsm := r6.len
      clear r6
      have z6 := bl.size
      replace sa := sa.below bl (by omega)
      replace sv := sv.below bl (by omega)
      replace frm := frm.trans (bl.mono (by omega))
      clear bl
      have K2 := HS.out w6 sa (by omega) HSh.out sm (by omega)
      rw [HY1.out] at K2
      have K2 := Lib.hid K2
      go_wp2_with fail
      go_at_call 33
      refine (K2.out).mono ?_
      rintro e w7 ⟨ad7, m7, cap7, rfl, r7, bl⟩
      have sz := r7.sl
      have lsz := r7.len
      clear r7
      have z7 := bl.size
      replace sa := sa.below bl (by omega)
      replace sv := sv.below bl (by omega)
      replace sm := sm.below bl (by omega)
      replace frm := frm.trans (bl.mono (by omega))
      clear bl
      clear sm lsm K1 K2
      have K1 := spec_mulVec w7 sa sz
      rw [HY2.out] at K1
      have K1 := Lib.hid K1
      go_wp2_with fail
      go_at_call 36
      refine (K1.out).mono ?_
      rintro e w8 ⟨ad8, m8, cap8, rfl, r8, bl⟩
      have sm := r8.sl
      have lsm := r8.len
      clear r8
      have z8 := bl.size
      replace sa := sa.below bl (by omega)
      replace sv := sv.below bl (by omega)
      replace sz := sz.below bl (by omega)
      replace frm := frm.trans (bl.mono (by omega))
      clear bl
      have K2 := spec_mulVec w8 sa sv
      rw [← HBB.out] at K2
      have K2 := Lib.hid K2
      go_wp2_with fail
      go_at_call 36
      refine (K2.out).mono ?_
      rintro e w9 ⟨ad9, m9, cap9, rfl, r9, bl⟩
      have sn := r9.sl
      have lsn := r9.len
      clear r9
      have z9 := bl.size
      replace sa := sa.below bl (by omega)
      replace sv := sv.below bl (by omega)
      replace sz := sz.below bl (by omega)
      replace sm := sm.below bl (by omega)
      replace frm := frm.trans (bl.mono (by omega))
      clear bl
      go_wp2_with fail
      go_at_call 35
      refine (Same.sameInts w9 sm sn (by omega) rfl).mono ?_
      rintro e w10 ⟨rfl, bl⟩
      have z10 := bl.size
      replace sa := sa.below bl (by omega)
      replace sv := sv.below bl (by omega)
      replace sz := sz.below bl (by omega)
      replace sm := sm.below bl (by omega)
      replace sn := sn.below bl (by omega)
      replace frm := frm.trans (bl.mono (by omega))
      clear bl
      go_wp2
      go_ret
      exact ⟨rfl, frm⟩

/-- The values in a slice of slices. -/
theorem sls_vals {w : World} {l h : Nat} {ad : Option Addr} {n cap : Nat} {xss : List (List Int)} (s : Sls w l h ad n cap xss) : ∃ us, SlV w l h ad n cap us ∧ ∀ (j : Nat) (u : Value) (xs : List Int), us[j]? = some u → xss[j]? = some xs → IsInts w l h u xs := by
  obtain ⟨us, hl, hp⟩ := build n (fun (j : Nat) (u : Value) => ∃ a xs, ad = some a ∧ xss[j]? = some xs ∧ l ≤ a.block ∧ a.block < h ∧ w.cell? (a.add j) = some u ∧ IsInts w l h u xs) fun j hj => by
    have hj' : j < xss.length := by rw [s.len]; exact hj
    obtain ⟨a, u, e, g1, g2, g3, g4⟩ := s.cells j _ (List.getElem?_eq_getElem hj')
    exact ⟨u, a, _, e, List.getElem?_eq_getElem hj', g1, g2, g3, g4⟩
  refine ⟨us, ⟨hl, s.le, s.big, s.nil, fun u hu => ?_, fun j u hu => ?_⟩, fun j u xs hu hx => ?_⟩
  · obtain ⟨j, hj⟩ := List.getElem?_of_mem hu
    obtain ⟨a, xs, _, _, _, _, _, g⟩ := hp j u hj
    exact g.one
  · obtain ⟨a, xs, e, _, g1, g2, g3, _⟩ := hp j u hu
    exact ⟨a, e, g1, g2, g3⟩
  · obtain ⟨a, xs', _, e, _, _, _, g⟩ := hp j u hu
    obtain rfl : xs' = xs := Option.some.inj (e.symm.trans hx)
    exact g
theorem ints_on {w w' : World} {l h B : Nat} {u : Value} {xs : List Int} (s : IsInts w l h u xs) (m : Below B w w') (hB : h ≤ B ∨ w.heap.size ≤ B) : IsInts w' 0 w'.heap.size u xs := by
  obtain ⟨ad, n, cap, rfl, g⟩ := s
  exact ⟨ad, n, cap, rfl, ((g.below m hB).lt (Nat.le_refl _)).mono (Nat.zero_le _) (Nat.le_refl _)⟩
/-- Rows from two places, side by side. -/
theorem sls_join {w : World} {l h : Nat} {e : TypeId} {ad : Option Addr} {n cap : Nat} {us vs : List Value} {xss yss : List (List Int)} (r : RowV w l h e ad n cap (us ++ vs)) (hu : us.length = xss.length) (hv : vs.length = yss.length)
    (h1 : ∀ (j : Nat) (u : Value) (xs : List Int), us[j]? = some u → xss[j]? = some xs → IsInts w 0 w.heap.size u xs) (h2 : ∀ (j : Nat) (u : Value) (xs : List Int), vs[j]? = some u → yss[j]? = some xs → IsInts w 0 w.heap.size u xs) : Sls w 0 w.heap.size ad n cap (xss ++ yss) := by
  have hl := r.len
  rw [List.length_append] at hl
  refine ⟨by rw [List.length_append]; omega, r.le, r.big, r.sl.nil, fun j xs hx => ?_⟩
  have hj : j < (us ++ vs).length := by
    have := (List.getElem?_eq_some_iff.1 hx).1
    rw [List.length_append] at this ⊢; omega
  obtain ⟨a, ea, _, g2, g3⟩ := r.lt.sl.cells j _ (List.getElem?_eq_getElem hj)
  refine ⟨a, _, ea, Nat.zero_le _, g2, g3, ?_⟩
  have hu' : (us ++ vs)[j]? = some (us ++ vs)[j] := List.getElem?_eq_getElem hj
  generalize (us ++ vs)[j] = u at *
  by_cases hlt : j < us.length
  · rw [List.getElem?_append_left hlt] at hu'
    rw [List.getElem?_append_left (by omega)] at hx
    exact h1 j u xs hu' hx
  · rw [List.getElem?_append_right (by omega)] at hu'
    rw [List.getElem?_append_right (by omega), ← hu] at hx
    exact h2 _ u xs hu' hx
theorem lead_zeros (k : Nat) : lead (List.replicate k 0) = -1 := lead_no (fun _ hy => (List.mem_replicate.1 hy).2) 0
set_option maxRecDepth 100000 in
set_option maxHeartbeats 1600000 in
theorem elimination (cR : RrefOp) (cI : IsRedOp) (cK : RankOp) (cN : NullOp) (cV : MulVOp) (cL : LeadOp) (w : World) (v : Value) (ad : Option Addr) (n cap : Nat) (ia : IntsAt .u8 w v ad n cap) :
    Calls Try.prog 3 #[v] w fun e w' => e = .returned (.bool true) ∧ Below w.heap.size w w' := by
  have hv := bytes_at ia
  obtain ⟨ds, rfl, sc⟩ := of_ints ia
  rcases Nat.lt_or_ge 1048576 n with big | big
  · go_enter Try.func3, Try.ntmps3
    go_wp2_with (go_at_call 13; refine (Same.big_yes _ _ _ _ big).mono ?_; rintro e w' ⟨rfl, rfl⟩)
    go_ret
    exact ⟨rfl, Below.refl _ _⟩
  have HR := Lib.hid cR
  have HI := Lib.hid cI
  have HK := Lib.hid cK
  have HN := Lib.hid cN
  have HV := Lib.hid cV
  have HL := Lib.hid cL
  clear cR cI cK cN cV cL
  go_enter Try.func3, Try.ntmps3
  go_wp2_with fail
  go_at_call 13
  refine (Same.big_no _ _ _ _ big).mono ?_
  rintro e w' ⟨rfl, rfl⟩
  go_wp2_with fail
  go_at_call 14
  refine (drawRowReduce w _ ad n cap big hv).mono ?_
  rintro e w1 ⟨ad1, m1, cap1, a, rfl, h1, ha, sa, frm⟩
  have z1 := frm.size
  have hsh : Short a := fun xs hx => by have := ha xs hx; omega
  have HSh := Lib.hid hsh
  have LA := Lib.hid sa.len
  have hfr : Few (rref a) := few_rref a
  have HFr := Lib.hid hfr.short
  have hr40 := hfr.1
  clear hv hsh ha hfr
  go_wp2_with fail
  go_at_call 15
  refine (HR.out w1 sa (by omega) HSh.out).mono ?_
  rintro e w2 ⟨ad2, m2, cap2, us2, rfl, r2, bl⟩
  have sr := r2.sls
  have lsr := r2.len
  clear r2
  have z2 := bl.size
  replace sa := sa.below bl (by omega)
  replace frm := frm.trans (bl.mono (by omega))
  clear bl
  have C1 := Lib.hid (spec_isMat w2 sa)
  go_wp2_with fail
  go_at_call 16
  refine (C1.out).mono ?_
  rintro e w3 ⟨rfl, q1, hq⟩
  have bl : Below w2.heap.size w2 w3 := hq ▸ below_drewN (Below.refl _ _) q1
  clear hq
  have z3 := bl.size
  replace sa := sa.below bl (by omega)
  replace sr := sr.below bl (by omega)
  replace frm := frm.trans (bl.mono (by omega))
  clear bl
  cases hma : isMat a
  · rw [rref_no hma] at lsr
    obtain rfl : m2 = 0 := lsr.symm
    have hnn := SolP.nullOf_no hma
    have KN := HN.out w3 sa (by omega) HSh.out
    rw [hnn] at KN
    have KN := Lib.hid KN
    clear lsr hma hnn
    go_wp2_with fail
    go_at_call 17
    refine (KN.out).mono ?_
    rintro e w4 ⟨ad4, m4, cap4, us4, rfl, r4, bl⟩
    have sn := r4.sls
    have lsn := r4.len
    clear r4
    have z4 := bl.size
    replace sa := sa.below bl (by omega)
    replace sr := sr.below bl (by omega)
    replace frm := frm.trans (bl.mono (by omega))
    clear bl
    obtain rfl : m4 = 0 := lsn.symm
    clear lsn sn
    go_wp2
    go_ret
    exact ⟨rfl, frm⟩
  · obtain ⟨n0, R0, p0, hd⟩ := SolP.dec_exists hma
    have hrle : m2 ≤ m1 := by rw [← lsr, hd.rref hma, mk_len, ← LA.out]; exact hd.le
    have hrc : m2 ≤ colsOf a := by rw [← lsr, hd.rref hma, mk_len]; exact hd.red.le
    have hc40 := colsOf_le hma
    obtain ⟨hag1, hag2⟩ := SolP.rref_again hma
    have hir : isRed (rref a) = true := by unfold isRed; rw [hag1, hag2]; simp [sameM]
    have HMA := Lib.hid hma
    have KC := spec_cols w3 sa
    have hnl := SolP.nullOf_len hma
    obtain ⟨c, hcc⟩ : ∃ c, c = colsOf a := ⟨_, rfl⟩
    rw [← hcc] at hrc hc40 hnl
    have HCC := Lib.hid hcc
    have HAG := Lib.hid hag2
    have HNL := Lib.hid hnl
    have LR := Lib.hid lsr
    have KI := HI.out w3 sr (by omega) HFr.out
    rw [hir] at KI
    have KI := Lib.hid KI
    have hm40 := (isMat_iff.1 hma).2
    rw [LA.out] at hm40
    clear hma hd hag1 hag2 hir hcc hnl lsr KC
    go_wp2_with fail
    go_at_call 18
    refine (KI.out).mono ?_
    rintro e w4 ⟨rfl, bl⟩
    have z4 := bl.size
    replace sa := sa.below bl (by omega)
    replace sr := sr.below bl (by omega)
    replace frm := frm.trans (bl.mono (by omega))
    clear bl
    have K2 := HR.out w4 sr (by omega) HFr.out
    rw [HAG.out] at K2
    have K2 := Lib.hid K2
    clear KI
    go_wp2_with fail
    go_at_call 15
    refine (K2.out).mono ?_
    rintro e w5 ⟨ad5, m5, cap5, us5, rfl, r5, bl⟩
    have s2 := r5.sls
    have ls2 := r5.len
    clear r5
    have z5 := bl.size
    replace sa := sa.below bl (by omega)
    replace sr := sr.below bl (by omega)
    replace frm := frm.trans (bl.mono (by omega))
    clear bl
    have hm2 : m5 ≤ 40 := by have := LR.out; omega
    clear ls2
    go_wp2_with fail
    go_at_call 19
    refine (Same.sameRows w5 s2 sr (by omega) HFr.out rfl).mono ?_
    rintro e w6 ⟨rfl, bl⟩
    have z6 := bl.size
    replace sa := sa.below bl (by omega)
    replace sr := sr.below bl (by omega)
    replace s2 := s2.below bl (by omega)
    replace frm := frm.trans (bl.mono (by omega))
    clear bl
    clear s2 K2
    have KK := HK.out w6 sa (by omega) HSh.out
    rw [LR.out] at KK
    have KK := Lib.hid KK
    have hgt : ¬ (m1 : Int) < m2 := by omega
    go_wp2_with fail
    go_at_call 20
    refine (KK.out).mono ?_
    rintro e w7 ⟨rfl, bl⟩
    have z7 := bl.size
    replace sa := sa.below bl (by omega)
    replace sr := sr.below bl (by omega)
    replace frm := frm.trans (bl.mono (by omega))
    clear bl
    go_wp2_with fail
    go_at_call 17
    refine (HN.out w7 sa (by omega) HSh.out).mono ?_
    rintro e w8 ⟨ad8, m8, cap8, us8, rfl, r8, bl⟩
    have sn := r8.sls
    have lsn := r8.len
    clear r8
    have z8 := bl.size
    replace sa := sa.below bl (by omega)
    replace sr := sr.below bl (by omega)
    replace frm := frm.trans (bl.mono (by omega))
    clear bl
    have hnn : m8 + m2 = c := by rw [← lsn, HNL.out, LR.out]; omega
    clear lsn KK
    have KC := spec_cols w8 sa
    rw [← HCC.out] at KC
    have KC := Lib.hid KC
    have hsub : (c : Int) - (m2 : Int) = (m8 : Int) := by omega
    go_wp2_with fail
    go_at_call 21
    refine (KC.out).mono ?_
    rintro e w' ⟨rfl, rfl⟩
    go_wp2
    go_loopw [6] (fun i wr => ∃ j : Nat, j ≤ m8 ∧ i = .int .i64 j ∧ Below w8.heap.size w8 wr) (fun i _ => m8 - (intOf i).toNat)
    case atStart => exact ⟨0, Nat.zero_le _, rfl, Below.refl _ _⟩
    case round =>
      obtain ⟨j, hj, rfl, hbl⟩ := hrel
      have zb := hbl.size
      by_cases hlt : j < m8
      · obtain ⟨ax, ad8, n8, cap8, x8, e8, hx8, hc8⟩ := (sn.below hbl (by omega)).at_ hlt
        subst e8
        obtain ⟨hv1, hv2, hv3⟩ := SolP.null_law HMA.out (List.mem_of_getElem? hx8.get)
        have hn8 : n8 ≤ 40 := by rw [← hx8.sl.len]; exact (isVec_iff.1 hv1).2
        have KV := HV.out wr (sa.below hbl (by omega)) (by omega) HSh.out hx8.sl (by omega)
        rw [hv3] at KV
        have KV := Lib.hid KV
        have hsn := sn.le
        have hsb := sn.big
        unfold maxLen at hsb
        clear hx8 hv1 hv2 hv3
        go_wp2_with fail
        go_at_call 22
        refine KV.out.mono ?_
        rintro e w9 ⟨ad9, n9, cap9, rfl, r9, b9⟩
        obtain rfl : m1 = n9 := by rw [← r9.len, List.length_replicate, LA.out]
        have KL := HL.out w9 r9.sl (by omega)
        rw [lead_zeros] at KL
        have KL := Lib.hid KL
        have hb9 := hbl.trans (b9.mono zb)
        clear r9 b9 KV
        go_wp2_with fail
        go_at_call 23
        refine KL.out.mono ?_
        rintro e w10 ⟨rfl, b10⟩
        have hb10 := hb9.trans (b10.mono hb9.size)
        clear b10
        go_wp2
        go_roundw
        case rel => exact ⟨j + 1, by omega, by go_num, hb10⟩
        case measure => simp [intOf]; omega
      obtain rfl : j = m8 := by omega
      have ta := sa.below hbl (by omega)
      have tr := sr.below hbl (by omega)
      have frm2 := frm.trans (hbl.mono (by omega))
      have zf := frm2.size
      obtain ⟨us, su, hus⟩ := sls_vals (ta.mono (l' := 0) (h' := wr.heap.size) (Nat.zero_le _) (by omega))
      obtain ⟨vs, sw, hvs⟩ := sls_vals (tr.mono (l' := 0) (h' := wr.heap.size) (Nat.zero_le _) (by omega))
      have lu := su.len
      have lv := sw.len
      have HUS := Lib.hid hus
      have HVS := Lib.hid hvs
      have su1 := su.alloc (.cells #[] 30)
      clear hus hvs su ta tr sa sr sn
      by_cases h40 : m1 + m2 ≤ 40
      case neg =>
        have h41 : (40 : Int) < (m1 : Int) + (m2 : Int) := by omega
        go_wp2_with (first
          | (at_builtin; refine wpList_appV (RowV.nil (wr.alloc (.cells #[] 30)) wr.heap.size wr.heap.size 30 (some ⟨wr.heap.size, 0, none⟩)) su1 Try.underlying24 info_ints rfl (by unfold maxLen; omega) (by omega) (by simp) rfl _ _ rfl rfl rfl ?_; intro ad11 cap11 w11 r11 q11
             rw [List.nil_append, Nat.zero_add] at r11
             simp only [Nat.zero_add]
             have b11 : Below wr.heap.size wr w11 := ((Below.refl _ wr).alloc (Nat.le_refl _) _).trans (q11.below (Nat.le_refl _) (by simp))
             have y11 := b11.size
             have sw1 := sw.below b11 (.inl (Nat.le_refl _)))
          | (at_builtin; refine wpList_appV r11 sw1 Try.underlying24 info_ints rfl (by unfold maxLen; omega) (by omega) y11 rfl _ _ rfl rfl rfl ?_; intro ad12 cap12 w12 r12 q12
             have b12 : Below wr.heap.size wr w12 := b11.trans (q12.below (Nat.le_refl _) y11)
             have frm3 := frm2.trans (b12.mono zf)
             have sb := sls_join r12 (by rw [lu, LA.out]) (by rw [lv, LR.out]) (fun j u xs hu hx => ints_on (HUS.out j u xs hu hx) b12 (.inl (Nat.le_refl _))) (fun j u xs hu hx => ints_on (HVS.out j u xs hu hx) b12 (.inl (Nat.le_refl _)))
             have SB := Lib.hid sb
             clear sb r12 q12 r11 q11 sw1 su1))
        go_ret
        exact ⟨rfl, frm3⟩
      have h41 : ¬ (40 : Int) < (m1 : Int) + (m2 : Int) := by omega
      have hrb := (SolP.rref_both HMA.out (by rw [List.length_append, LA.out, LR.out]; exact h40)).2
      have HRB := Lib.hid hrb
      clear hrb
      go_wp2_with (first
        | (at_builtin; refine wpList_appV (RowV.nil (wr.alloc (.cells #[] 30)) wr.heap.size wr.heap.size 30 (some ⟨wr.heap.size, 0, none⟩)) su1 Try.underlying24 info_ints rfl (by unfold maxLen; omega) (by omega) (by simp) rfl _ _ rfl rfl rfl ?_; intro ad11 cap11 w11 r11 q11
           rw [List.nil_append, Nat.zero_add] at r11
           simp only [Nat.zero_add]
           have b11 : Below wr.heap.size wr w11 := ((Below.refl _ wr).alloc (Nat.le_refl _) _).trans (q11.below (Nat.le_refl _) (by simp))
           have y11 := b11.size
           have sw1 := sw.below b11 (.inl (Nat.le_refl _)))
        | (at_builtin; refine wpList_appV r11 sw1 Try.underlying24 info_ints rfl (by unfold maxLen; omega) (by omega) y11 rfl _ _ rfl rfl rfl ?_; intro ad12 cap12 w12 r12 q12
           have b12 : Below wr.heap.size wr w12 := b11.trans (q12.below (Nat.le_refl _) y11)
           have frm3 := frm2.trans (b12.mono zf)
           have sb := sls_join r12 (by rw [lu, LA.out]) (by rw [lv, LR.out]) (fun j u xs hu hx => ints_on (HUS.out j u xs hu hx) b12 (.inl (Nat.le_refl _))) (fun j u xs hu hx => ints_on (HVS.out j u xs hu hx) b12 (.inl (Nat.le_refl _)))
           have SB := Lib.hid sb
           clear sb r12 q12 r11 q11 sw1 su1))
      have KK := HK.out w12 SB.out (by omega) (fun xs hx => (List.mem_append.1 hx).elim (HSh.out xs) (HFr.out xs))
      rw [HRB.out, LR.out] at KK
      have KK := Lib.hid KK
      go_at_call 20
      refine KK.out.mono ?_
      rintro e w13 ⟨rfl, b13⟩
      have frm4 := frm3.trans (b13.mono frm3.size)
      clear b13
      go_wp2
      go_ret
      exact ⟨rfl, frm4⟩

end Go.Proofs.Ytagncoaeochmnaa.LawElim
namespace Go.Proofs.Ytagncoaeochmnaa.LawElimEnd
open Go.ChangeShapes Go.WideShapes Go.ChangeAt Go.RowKit Go.Proofs.Ytagncoaeochmnaa.Kit

theorem elimination (w : World) (v : Value) (ad : Option Addr) (n cap : Nat) (ia : IntsAt .u8 w v ad n cap) : Calls Try.prog 3 #[v] w fun e w' => e = .returned (.bool true) ∧ Below w.heap.size w w' :=
  LawElim.elimination ElimI.rref ElimI.isRed ElimI.rank ElimI.null MatI.mulVec VecI.lead w v ad n cap ia
theorem inverses (w : World) (v : Value) (ad : Option Addr) (n cap : Nat) (ia : IntsAt .u8 w v ad n cap) : Calls Try.prog 4 #[v] w fun e w' => e = .returned (.bool true) ∧ Below w.heap.size w w' :=
  LawElim.inverses ElimI.inv ElimI.det MatI.mulMat MatI.transpose w v ad n cap ia
theorem systems (w : World) (v : Value) (ad : Option Addr) (n cap : Nat) (ia : IntsAt .u8 w v ad n cap) : Calls Try.prog 5 #[v] w fun e w' => e = .returned (.bool true) ∧ Below w.heap.size w w' :=
  LawElim.systems ElimI.solve w v ad n cap ia
end Go.Proofs.Ytagncoaeochmnaa.LawElimEnd
