/-
  FnMatrices: the law's own text walked, over the contracts of what it calls.
-/
import Derived.Test.YthhnfbhpdcemfaaMatOps
import Derived.Test.YthhnfbhpdcemfaaMatP
import Derived.Test.YthhnfbhpdcemfaaDrawMat
import Derived.Test.YthhnfbhpdcemfaaSameM
namespace Go.Proofs.Ythhnfbhpdcemfaa.LawMat
open Go.ChangeShapes Go.WideShapes Go.ChangeAt Go.RowKit
open Go.Proofs.Ythhnfbhpdcemfaa.Kit Go.Proofs.Ythhnfbhpdcemfaa.Seq Go.Proofs.Ythhnfbhpdcemfaa.Help Go.Proofs.Ythhnfbhpdcemfaa.Draw Go.Proofs.Ythhnfbhpdcemfaa.DrawInt Go.Proofs.Ythhnfbhpdcemfaa.DrawVec Go.Proofs.Ythhnfbhpdcemfaa.DrawMat Go.Proofs.Ythhnfbhpdcemfaa.Field Go.Proofs.Ythhnfbhpdcemfaa.FieldW Go.Proofs.Ythhnfbhpdcemfaa.Vec Go.Proofs.Ythhnfbhpdcemfaa.VecW Go.Proofs.Ythhnfbhpdcemfaa.VecOps Go.Proofs.Ythhnfbhpdcemfaa.Mat Go.Proofs.Ythhnfbhpdcemfaa.MatW Go.Proofs.Ythhnfbhpdcemfaa.MatOps Go.Proofs.Ythhnfbhpdcemfaa.MatP

theorem bytes_at {w : World} {v : Value} {ad : Option Addr} {n cap : Nat} (h : IntsAt .u8 w v ad n cap) : BytesAt w v ad n cap :=
  ⟨h.val, Nat.le_trans h.len h.cap, fun j hj => by
    obtain ⟨a, x, e, f, hx⟩ := h.cells j hj
    obtain ⟨h0, h1⟩ := fits_u8.1 f
    exact ⟨a, x, e, h0, h1, hx⟩⟩

set_option maxRecDepth 100000 in
set_option maxHeartbeats 1600000 in
theorem matrices (cM : MulMOp) (cT : TransOp) (cI : IdOp) (cV : MulVOp) (w : World) (v : Value) (ad : Option Addr) (n cap : Nat) (ia : IntsAt .u8 w v ad n cap) :
    Calls Try.prog 3 #[v] w fun e w' => e = .returned (.bool true) ∧ Below w.heap.size w w' := by
  have hv := bytes_at ia
  obtain ⟨ds, rfl, sc⟩ := of_ints ia
  rcases Nat.lt_or_ge 1048576 n with big | big
  · go_enter Try.func3, Try.ntmps3
    go_wp2_with (go_at_call 13; refine (Same.big_yes _ _ _ _ big).mono ?_; rintro e w' ⟨rfl, rfl⟩)
    go_ret
    exact ⟨rfl, Below.refl _ _⟩
  have HM := Lib.hid cM
  have HT := Lib.hid cT
  have HI := Lib.hid cI
  have HV := Lib.hid cV
  clear cM cT cI cV
  go_enter Try.func3, Try.ntmps3

  go_wp2_with fail
  go_at_call 13
  refine (Same.big_no _ _ _ _ big).mono ?_
  rintro e w' ⟨rfl, rfl⟩
  go_wp2_with fail
  go_at_call 14
  refine (drawMulMatrices w _ ad n cap big hv).mono ?_
  rintro e w1 ⟨ad1, m1, cap1, a, ad2, m2, cap2, b, rfl, h1, h2, ha, hb, sa, sb, b1⟩
  have z1 := b1.size
  go_wp2_with fail
  go_at_call 15
  refine (HM.out w1 sa (by omega) (fun xs hx => by have := ha xs hx; omega) sb (by omega) (fun xs hx => by have := hb xs hx; omega)).mono ?_
  rintro e w2 ⟨adp, mp, capp, up, rfl, rp, b2⟩
  have z2 := b2.size
  have hpl := rp.len
  have hPl := hpl
  replace sa := sa.below b2 (by omega)
  replace sb := sb.below b2 (by omega)
  have frm := b1.trans (b2.mono z1)
  clear b1 b2 hpl hv
  have la := sa.len
  have lb := sb.len
  have C1 := Lib.hid (spec_isMat w2 sa)
  go_wp2_with fail
  go_at_call 16
  refine C1.out.mono ?_
  rintro e u01 ⟨rfl, q1, hq⟩
  have bl : Below w2.heap.size w2 u01 := hq ▸ below_drewN (Below.refl _ _) q1
  have z01 := bl.size
  clear hq C1
  replace sa := sa.below bl (by omega)
  replace sb := sb.below bl (by omega)
  replace rp := rp.below bl (by omega)
  replace frm := frm.trans (bl.mono (by omega))
  clear bl
  cases hma : isMat a
  · rw [mulMat_no (a := a) (b := b) (by rw [hma]; rfl)] at hPl
    obtain rfl : mp = 0 := by simpa using hPl.symm
    clear hPl rp hma
    go_wp2
    go_ret
    exact ⟨rfl, frm⟩
  have C1 := Lib.hid (spec_isMat u01 sb)
  go_wp2_with fail
  go_at_call 16
  refine C1.out.mono ?_
  rintro e u02 ⟨rfl, q1, hq⟩
  have bl : Below u01.heap.size u01 u02 := hq ▸ below_drewN (Below.refl _ _) q1
  have z02 := bl.size
  clear hq C1
  replace sa := sa.below bl (by omega)
  replace sb := sb.below bl (by omega)
  replace rp := rp.below bl (by omega)
  replace frm := frm.trans (bl.mono (by omega))
  clear bl
  cases hmb : isMat b
  · rw [mulMat_no (a := a) (b := b) (by rw [hmb]; simp)] at hPl
    obtain rfl : mp = 0 := by simpa using hPl.symm
    clear hPl rp hmb
    go_wp2
    go_ret
    exact ⟨rfl, frm⟩
  have fa := few_of hma
  have fb := few_of hmb
  have hca := colsOf_le hma
  have hcb := colsOf_le hmb
  have CA := Lib.hid (fun w' (t : Sls w' w.heap.size w1.heap.size ad1 m1 cap1 a) => spec_cols w' t)
  have CB := Lib.hid (fun w' (t : Sls w' w.heap.size w1.heap.size ad2 m2 cap2 b) => spec_cols w' t)
  have EA := Lib.hid (show ∀ x, x = colsOf a → colsOf a = x from fun _ h => h.symm)
  obtain ⟨ca, hcae⟩ : ∃ c, colsOf a = c := ⟨_, rfl⟩
  obtain ⟨cb, hcbe⟩ : ∃ c, colsOf b = c := ⟨_, rfl⟩
  rw [hcae] at CA hca
  rw [hcbe] at CB hcb
  clear EA
  have HMA := Lib.hid hma
  have HMB := Lib.hid hmb
  have HCA := Lib.hid hcae
  have HCB := Lib.hid hcbe
  have FA := Lib.hid fa.short
  have FB := Lib.hid fb.short
  have m1le : m1 ≤ 40 := by have := fa.1; omega
  have m2le : m2 ≤ 40 := by have := fb.1; omega
  clear hma hmb hcae hcbe fa fb
  go_wp2_with fail
  go_at_call 17
  refine (CA.out _ sa).mono ?_
  rintro e w' ⟨rfl, rfl⟩
  by_cases hcm : ca = m2
  case neg =>
    rw [mulMat_no (a := a) (b := b) (by rw [HCA.out, lb]; simp [hcm])] at hPl
    obtain rfl : mp = 0 := by simpa using hPl.symm
    have hc1 : ((ca : Int) == (m2 : Int)) = false := by simp; omega
    have hc2 : ((ca : Int) != (m2 : Int)) = true := by simp; omega
    clear hPl rp hcm
    go_wp2
    go_ret
    exact ⟨rfl, frm⟩
  subst hcm
  rw [mulMat_ok (a := a) (b := b) (by rw [HMA.out, HMB.out, HCA.out, lb]; simp), List.length_map, la] at hPl
  subst hPl
  go_wp2_with fail
  go_at_call 17
  refine (CB.out _ sb).mono ?_
  rintro e w' ⟨rfl, rfl⟩
  go_wp2_with (at_make; refine wpList_mk (n := cb) Try.underlying30 info_int (fits_i64.2 (by omega)) (by unfold maxLen; omega) (by omega) rfl _ _ rfl rfl rfl ?_; intro w3 r3 b3)
  have z3 := b3.size
  replace sa := sa.below b3 (by omega)
  replace sb := sb.below b3 (by omega)
  replace rp := rp.below b3 (by omega)
  replace frm := frm.trans (b3.mono (by omega))
  clear b3
  have HSA := Lib.hid sa
  have HSB := Lib.hid sb
  have HRP := Lib.hid rp
  clear sa sb rp
  go_loopw [7] (fun i wr => ∃ (j : Nat) (vs : List Int), j ≤ cb ∧ i = .int .i64 j ∧ Els vs ∧ Row wr u02.heap.size w3.heap.size .i64 3 (some ⟨u02.heap.size, 0, none⟩) cb cb vs ∧ Mv w3 wr u02.heap.size w3.heap.size) (fun i _ => cb - (intOf i).toNat)
  case atStart => exact ⟨0, _, Nat.zero_le _, rfl, (fun y hy => by rw [List.eq_of_mem_replicate hy]; rfl), r3, Mv.refl _ _ _⟩
  case round =>
    obtain ⟨j, vs, hj, rfl, hvs, rv, mv⟩ := hrel
    have zm := mv.size
    have frm2 := frm.trans (mv.below (B := w.heap.size) (by omega) (by omega))
    by_cases hlt : j < cb
    · have sc' := sc.below frm2 (.inl (Nat.le_refl _))
      go_wp2_with fail
      go_at_call 18
      refine (Same.at_ wr sc' big j (by omega)).mono ?_
      rintro e w' ⟨x, rfl, hx, rfl⟩
      obtain ⟨y, _, _, hy, hf⟩ := rv.there hlt
      have hst := Lib.hid (rv.set hlt (fits_i64.2 (show -9223372036854775808 ≤ (x : Int) ∧ (x : Int) ≤ 9223372036854775807 by omega)))
      have hel : isEl (x : Int) = true := isEl_iff.2 ⟨by omega, by omega⟩
      have HE := Lib.hid hel
      have HV2 := Lib.hid mv
      clear rv hel frm2 mv
      go_wp2
      go_roundw
      case rel => exact ⟨j + 1, _, by omega, by go_num, (fun y hy => (List.mem_or_eq_of_mem_set hy).elim (hvs y) (fun e => e ▸ HE.out)), hst.out.1, HV2.out.trans hst.out.2⟩
      case measure => simp [intOf]; omega
    · obtain rfl : j = cb := by omega
      have sa := HSA.out.mv mv (.inl (by omega))
      have sb := HSB.out.mv mv (.inl (by omega))
      have rp := HRP.out.mv mv (.inl (by omega))
      replace frm := frm2
      have hvv : isVec vs = true := isVec_iff.2 ⟨hvs, by rw [rv.len]; exact hcb⟩
      have HVV := Lib.hid hvv
      have lv := rv.len
      clear HSA HSB HRP mv frm2 r3 hj hlt sc hvs hvv
      rcases Nat.eq_zero_or_pos m1 with hm1 | hm1
      · subst hm1
        clear rp
        go_wp2
        go_ret
        exact ⟨rfl, frm⟩
      have h0a : 0 < a.length := by omega
      rcases Nat.eq_zero_or_pos ca with hc0 | hc0
      · subst hc0
        clear rp
        go_wp2_with fail
        go_at_call 17
        refine (CA.out _ sa).mono ?_
        rintro e w' ⟨rfl, rfl⟩
        go_wp2
        go_ret
        exact ⟨rfl, frm⟩
      have h0b : 0 < b.length := by omega
      have G1 := Lib.hid (transpose_twice HMA.out h0a (by rw [HCA.out]; exact hc0))
      have g2 := mul_one HMA.out h0a (by rw [HCA.out]; exact hc0)
      rw [HCA.out] at g2
      have G2 := Lib.hid g2
      have g3 := one_mul HMA.out h0a
      rw [la] at g3
      have G3 := Lib.hid g3
      have G4 := Lib.hid (mul_vec HMA.out HMB.out HVV.out (by rw [HCA.out, lb]) (by rw [HCB.out, lv]) h0a h0b)
      have H5 := Lib.hid (fun h => transpose_mul HMA.out HMB.out (by rw [HCA.out, lb]) h0a h0b h)
      have k1 := (few_transpose a).1
      have k2 := (few_identity (ca : Int)).1
      have k3 := (few_identity (m1 : Int)).1
      have k4 := (few_transpose b).1
      have k5 := (few_mulMat a b).1
      have lp := rp.len
      clear g2 g3 h0a h0b
      go_wp2_with fail
      go_at_call 17
      refine (CA.out _ sa).mono ?_
      rintro e w' ⟨rfl, rfl⟩
      go_wp2_with fail
      go_at_call 20
      refine (HT.out _ sa (by omega) FA.out).mono ?_
      rintro e u1 ⟨ad1, n1, cap1, us1, rfl, r1, bl⟩
      have z1 := bl.size
      replace sa := sa.below bl (by omega)
      replace sb := sb.below bl (by omega)
      replace rp := rp.below bl (by omega)
      replace rv := rv.below bl (by omega)
      replace frm := frm.trans (bl.mono (by omega))
      clear bl
      have lr1 := r1.len
      go_wp2_with fail
      go_at_call 20
      have h := HT.out _ r1.sls (by omega) (few_transpose a).short
      rw [G1.out] at h
      refine h.mono ?_
      clear h
      rintro e u2 ⟨ad2, n2, cap2, us2, rfl, r2, bl⟩
      have z2 := bl.size
      replace sa := sa.below bl (by omega)
      replace sb := sb.below bl (by omega)
      replace rp := rp.below bl (by omega)
      replace rv := rv.below bl (by omega)
      replace frm := frm.trans (bl.mono (by omega))
      clear bl
      have lr2 := r2.len
      go_wp2_with fail
      go_at_call 19
      refine (Same.sameRows _ r2.sls sa (by omega) FA.out rfl).mono ?_
      rintro e u3 ⟨rfl, bl⟩
      have z3 := bl.size
      replace sa := sa.below bl (by omega)
      replace sb := sb.below bl (by omega)
      replace rp := rp.below bl (by omega)
      replace rv := rv.below bl (by omega)
      replace frm := frm.trans (bl.mono (by omega))
      clear bl
      clear r1 r2
      go_wp2_with fail
      go_at_call 17
      refine (CA.out _ sa).mono ?_
      rintro e w' ⟨rfl, rfl⟩
      go_wp2_with fail
      go_at_call 21
      refine (HI.out _ (ca : Int) (by omega) (by omega)).mono ?_
      rintro e u5 ⟨ad5, n5, cap5, us5, rfl, r3, bl⟩
      have z5 := bl.size
      replace sa := sa.below bl (by omega)
      replace sb := sb.below bl (by omega)
      replace rp := rp.below bl (by omega)
      replace rv := rv.below bl (by omega)
      replace frm := frm.trans (bl.mono (by omega))
      clear bl
      have lr3 := r3.len
      go_wp2_with fail
      go_at_call 15
      have h := HM.out _ sa (by omega) FA.out r3.sls (by omega) (few_identity (ca : Int)).short
      rw [G2.out] at h
      refine h.mono ?_
      clear h
      rintro e u6 ⟨ad6, n6, cap6, us6, rfl, r4, bl⟩
      have z6 := bl.size
      replace sa := sa.below bl (by omega)
      replace sb := sb.below bl (by omega)
      replace rp := rp.below bl (by omega)
      replace rv := rv.below bl (by omega)
      replace frm := frm.trans (bl.mono (by omega))
      clear bl
      have lr4 := r4.len
      go_wp2_with fail
      go_at_call 19
      refine (Same.sameRows _ r4.sls sa (by omega) FA.out rfl).mono ?_
      rintro e u7 ⟨rfl, bl⟩
      have z7 := bl.size
      replace sa := sa.below bl (by omega)
      replace sb := sb.below bl (by omega)
      replace rp := rp.below bl (by omega)
      replace rv := rv.below bl (by omega)
      replace frm := frm.trans (bl.mono (by omega))
      clear bl
      clear r3 r4
      go_wp2_with fail
      go_at_call 21
      refine (HI.out _ (m1 : Int) (by omega) (by omega)).mono ?_
      rintro e u8 ⟨ad8, n8, cap8, us8, rfl, r5, bl⟩
      have z8 := bl.size
      replace sa := sa.below bl (by omega)
      replace sb := sb.below bl (by omega)
      replace rp := rp.below bl (by omega)
      replace rv := rv.below bl (by omega)
      replace frm := frm.trans (bl.mono (by omega))
      clear bl
      have lr5 := r5.len
      go_wp2_with fail
      go_at_call 15
      have h := HM.out _ r5.sls (by omega) (few_identity (m1 : Int)).short sa (by omega) FA.out
      rw [G3.out] at h
      refine h.mono ?_
      clear h
      rintro e u9 ⟨ad9, n9, cap9, us9, rfl, r6, bl⟩
      have z9 := bl.size
      replace sa := sa.below bl (by omega)
      replace sb := sb.below bl (by omega)
      replace rp := rp.below bl (by omega)
      replace rv := rv.below bl (by omega)
      replace frm := frm.trans (bl.mono (by omega))
      clear bl
      have lr6 := r6.len
      go_wp2_with fail
      go_at_call 19
      refine (Same.sameRows _ r6.sls sa (by omega) FA.out rfl).mono ?_
      rintro e u10 ⟨rfl, bl⟩
      have z10 := bl.size
      replace sa := sa.below bl (by omega)
      replace sb := sb.below bl (by omega)
      replace rp := rp.below bl (by omega)
      replace rv := rv.below bl (by omega)
      replace frm := frm.trans (bl.mono (by omega))
      clear bl
      clear r5 r6
      have e1 : ((m1 : Int) == 0) = false := by simp; omega
      have e2 : ((ca : Int) == 0) = false := by simp; omega
      rcases Nat.eq_zero_or_pos j with hj0 | hj0
      · subst hj0
        clear rp rv
        go_wp2
        go_ret
        exact ⟨rfl, frm⟩
      have e3 : ((j : Int) == 0) = false := by simp; omega
      have G5 := Lib.hid (H5.out (by rw [HCB.out]; exact hj0))
      have k6 := mulVec_le b vs
      have k7 := mulVec_le (mulMat a b) vs
      go_wp2_with fail
      go_at_call 23
      refine (HV.out _ rp.sls (by omega) (few_mulMat a b).short rv.sl (by omega)).mono ?_
      rintro e u11 ⟨ad11, n11, cap11, rfl, r7, bl⟩
      have z11 := bl.size
      replace sa := sa.below bl (by omega)
      replace sb := sb.below bl (by omega)
      replace rp := rp.below bl (by omega)
      replace rv := rv.below bl (by omega)
      replace frm := frm.trans (bl.mono (by omega))
      clear bl
      have lr7 := r7.len
      go_wp2_with fail
      go_at_call 23
      refine (HV.out _ sb (by omega) FB.out rv.sl (by omega)).mono ?_
      rintro e u12 ⟨ad12, n12, cap12, rfl, r8, bl⟩
      have z12 := bl.size
      replace sa := sa.below bl (by omega)
      replace sb := sb.below bl (by omega)
      replace rp := rp.below bl (by omega)
      replace r7 := r7.below bl (by omega)
      replace frm := frm.trans (bl.mono (by omega))
      clear bl
      have lr8 := r8.len
      go_wp2_with fail
      go_at_call 23
      have h := HV.out _ sa (by omega) FA.out r8.sl (by omega)
      rw [← G4.out] at h
      refine h.mono ?_
      clear h
      rintro e u13 ⟨ad13, n13, cap13, rfl, r9, bl⟩
      have z13 := bl.size
      replace sa := sa.below bl (by omega)
      replace sb := sb.below bl (by omega)
      replace rp := rp.below bl (by omega)
      replace r7 := r7.below bl (by omega)
      replace frm := frm.trans (bl.mono (by omega))
      clear bl
      have lr9 := r9.len
      go_wp2_with fail
      go_at_call 22
      refine (Same.sameInts _ r7.sl r9.sl (by omega) rfl).mono ?_
      rintro e u14 ⟨rfl, bl⟩
      have z14 := bl.size
      replace sa := sa.below bl (by omega)
      replace sb := sb.below bl (by omega)
      replace rp := rp.below bl (by omega)
      replace frm := frm.trans (bl.mono (by omega))
      clear bl
      clear r7 r8 r9 rv
      go_wp2_with fail
      go_at_call 20
      refine (HT.out _ rp.sls (by omega) (few_mulMat a b).short).mono ?_
      rintro e u15 ⟨ad15, n15, cap15, us15, rfl, r10, bl⟩
      have z15 := bl.size
      replace sa := sa.below bl (by omega)
      replace sb := sb.below bl (by omega)
      replace frm := frm.trans (bl.mono (by omega))
      clear bl
      have lr10 := r10.len
      go_wp2_with fail
      go_at_call 20
      refine (HT.out _ sb (by omega) FB.out).mono ?_
      rintro e u16 ⟨ad16, n16, cap16, us16, rfl, r11, bl⟩
      have z16 := bl.size
      replace sa := sa.below bl (by omega)
      replace r10 := r10.below bl (by omega)
      replace frm := frm.trans (bl.mono (by omega))
      clear bl
      have lr11 := r11.len
      go_wp2_with fail
      go_at_call 20
      refine (HT.out _ sa (by omega) FA.out).mono ?_
      rintro e u17 ⟨ad17, n17, cap17, us17, rfl, r12, bl⟩
      have z17 := bl.size
      replace r10 := r10.below bl (by omega)
      replace r11 := r11.below bl (by omega)
      replace frm := frm.trans (bl.mono (by omega))
      clear bl
      have lr12 := r12.len
      go_wp2_with fail
      go_at_call 15
      have h := HM.out _ r11.sls (by omega) (few_transpose b).short r12.sls (by omega) (few_transpose a).short
      rw [← G5.out] at h
      refine h.mono ?_
      clear h
      rintro e u18 ⟨ad18, n18, cap18, us18, rfl, r13, bl⟩
      have z18 := bl.size
      replace r10 := r10.below bl (by omega)
      replace frm := frm.trans (bl.mono (by omega))
      clear bl
      have lr13 := r13.len
      have k8 := (few_transpose (mulMat a b)).1
      go_wp2_with fail
      go_at_call 19
      refine (Same.sameRows _ r10.sls r13.sls (by omega) (few_transpose (mulMat a b)).short rfl).mono ?_
      rintro e u19 ⟨rfl, bl⟩
      have z19 := bl.size
      replace frm := frm.trans (bl.mono (by omega))
      clear bl
      clear r10 r13
      go_wp2
      go_ret
      exact ⟨rfl, frm⟩
end Go.Proofs.Ythhnfbhpdcemfaa.LawMat
