/-
  FnVectors: the law's own text walked, over the contracts of what it calls.
-/
import Derived.Test.YtecijpfcnhbkcaaVecOps
import Derived.Test.YtecijpfcnhbkcaaDrawVec
import Derived.Test.YtecijpfcnhbkcaaSame
namespace Go.Proofs.Ytecijpfcnhbkcaa.LawVec
open Go.ChangeShapes Go.WideShapes Go.ChangeAt Go.RowKit
open Go.Proofs.Ytecijpfcnhbkcaa.Kit Go.Proofs.Ytecijpfcnhbkcaa.Seq Go.Proofs.Ytecijpfcnhbkcaa.Help Go.Proofs.Ytecijpfcnhbkcaa.Draw Go.Proofs.Ytecijpfcnhbkcaa.DrawInt Go.Proofs.Ytecijpfcnhbkcaa.DrawVec Go.Proofs.Ytecijpfcnhbkcaa.Field Go.Proofs.Ytecijpfcnhbkcaa.FieldW Go.Proofs.Ytecijpfcnhbkcaa.Vec Go.Proofs.Ytecijpfcnhbkcaa.VecW Go.Proofs.Ytecijpfcnhbkcaa.VecOps

theorem bytes_at {w : World} {v : Value} {ad : Option Addr} {n cap : Nat} (h : IntsAt .u8 w v ad n cap) : BytesAt w v ad n cap :=
  ⟨h.val, Nat.le_trans h.len h.cap, fun j hj => by
    obtain ⟨a, x, e, f, hx⟩ := h.cells j hj
    obtain ⟨h0, h1⟩ := fits_u8.1 f
    exact ⟨a, x, e, h0, h1, hx⟩⟩

/-- What the law asks of two vectors of one length, a factor and a third. -/
theorem facts {xs ys vs : List Int} {k : Int} (h1 : isVec xs = true) (h2 : isVec ys = true) (h3 : xs.length = ys.length) (h4 : isEl k = true) (h5 : Els vs) (h6 : vs.length = xs.length) :
    isVec (addScaled xs ys k) = true ∧ addScaled xs (scale ys k) 1 = addScaled xs ys k ∧ addScaled (addScaled xs ys k) ys (Field.sub 0 k) = xs ∧
    Field.add (dot xs vs) (Field.mul k (dot ys vs)) = dot (addScaled xs ys k) vs ∧ dot vs xs = dot xs vs ∧ lead (addScaled xs xs 1018) = -1 := by
  obtain ⟨a, rfl, ha⟩ := of_vec h1
  obtain ⟨b, rfl, hb⟩ := of_vec h2
  obtain ⟨c, rfl⟩ := of_el h4
  obtain ⟨v, rfl⟩ := all_ems h5
  rw [ems_len, ems_len] at h3 h6
  have hm := macF_len (k := c) h3
  have hv : v.length ≤ 40 := by omega
  rw [addScaled_ems h3 ha]
  refine ⟨isVec_ems (by omega), ?_, ?_, ?_, ?_, ?_⟩
  · rw [scale_ems hb, ← em_1, addScaled_ems (by simpa using h3) ha, mac_scale]
  · rw [← em_0, sub_em, addScaled_ems (by omega) (by omega), mac_back c h3]
  · rw [dot_ems (by omega) (by omega), dot_ems (by omega) (by omega), dot_ems (by omega) (by omega), mul_em, add_em, dot_mac c h3 h6]
  · rw [dot_ems (by omega) (by omega), dot_ems (by omega) (by omega), dot_comm]
  · rw [show (1018 : Int) = em 1018 from rfl, addScaled_ems rfl ha, mac_none]
    exact lead_zero a 0

set_option maxRecDepth 100000 in
set_option maxHeartbeats 1600000 in
theorem vectors (cV : IsVecOp) (cA : AddsOp) (cAV : AddvOp) (cS : ScaleOp) (cD : DotOp) (cL : LeadOp) (w : World) (v : Value) (ad : Option Addr) (n cap : Nat) (ia : IntsAt .u8 w v ad n cap) :
    Calls Try.prog 3 #[v] w fun e w' => e = .returned (.bool true) ∧ Below w.heap.size w w' := by
  have hv := bytes_at ia
  obtain ⟨ds, rfl, sc⟩ := of_ints ia
  rcases Nat.lt_or_ge 1048576 n with big | big
  · go_enter Try.func3, Try.ntmps3
    go_wp2_with (go_at_call 14; refine (Same.big_yes _ _ _ _ big).mono ?_; rintro e w' ⟨rfl, rfl⟩)
    go_ret
    exact ⟨rfl, Below.refl _ _⟩
  have HV := Lib.hid cV
  have HA := Lib.hid cA
  have HAV := Lib.hid cAV
  have HS := Lib.hid cS
  have HD := Lib.hid cD
  have HL := Lib.hid cL
  clear cV cA cAV cS cD cL
  go_enter Try.func3, Try.ntmps3
  go_wp2_with fail
  go_at_call 14
  refine (Same.big_no _ _ _ _ big).mono ?_
  rintro e w' ⟨rfl, rfl⟩
  go_wp2_with fail
  go_at_call 15
  refine (drawAddScaled w _ ad n cap big hv).mono ?_
  rintro e w1 ⟨ada, na, capa, xs, adb, nb, capb, ys, k, rfl, hna, hnb, hk0, hk1, ra, rb, frm⟩
  have z0 := frm.size
  clear hv
  go_wp2_with fail
  go_at_call 16
  refine (HA.out w1 ra.sl (by omega) rb.sl (by omega) k).mono ?_
  rintro e u1 ⟨ad1, n1, cap1, rfl, rs, bl⟩
  have z1 := bl.size
  replace ra := ra.below bl (by omega)
  replace rb := rb.below bl (by omega)
  replace frm := frm.trans (bl.mono (by omega))
  clear bl
  have lena := ra.len
  have lenb := rb.len
  have lens := rs.len
  cases hpx : isVec xs
  · have hz : addScaled xs ys k = [] := by unfold addScaled; rw [hpx]; rfl
    rw [hz] at lens
    obtain rfl : n1 = 0 := by simpa using lens.symm
    have C1 := spec_isVec u1 ra.sl
    rw [hpx] at C1
    have D1 := Lib.hid C1
    clear C1 lena lenb lens hz hpx rs
    go_wp2_with fail
    go_at_call 17
    refine (D1.out).mono ?_
    rintro e w' ⟨rfl, rfl⟩
    go_wp2
    go_ret
    exact ⟨rfl, frm⟩
  have C1 := spec_isVec u1 ra.sl
  rw [hpx] at C1
  have D1 := Lib.hid C1
  clear C1
  cases hpy : isVec ys
  · have hz : addScaled xs ys k = [] := by unfold addScaled; rw [hpx, hpy]; rfl
    rw [hz] at lens
    obtain rfl : n1 = 0 := by simpa using lens.symm
    have C2 := spec_isVec u1 rb.sl
    rw [hpy] at C2
    have D2 := Lib.hid C2
    clear C2 lena lenb lens hz hpx hpy rs
    go_wp2_with fail
    go_at_call 17
    refine (D1.out).mono ?_
    rintro e w' ⟨rfl, rfl⟩
    go_wp2_with fail
    go_at_call 17
    refine (D2.out).mono ?_
    rintro e w' ⟨rfl, rfl⟩
    go_wp2
    go_ret
    exact ⟨rfl, frm⟩
  have C2 := spec_isVec u1 rb.sl
  rw [hpy] at C2
  have D2 := Lib.hid C2
  clear C2
  by_cases hnn : na = nb
  case neg =>
    have hz : addScaled xs ys k = [] := by
      have hb : (xs.length == ys.length) = false := by rw [lena, lenb]; simpa using hnn
      unfold addScaled; rw [hpx, hpy, hb]; rfl
    rw [hz] at lens
    obtain rfl : n1 = 0 := by simpa using lens.symm
    have e1 : ((na : Int) == nb) = false := by simp; omega
    have e2 : ((na : Int) != nb) = true := by simp; omega
    clear lena lenb lens hz hpx hpy rs hnn
    go_wp2_with fail
    go_at_call 17
    refine (D1.out).mono ?_
    rintro e w' ⟨rfl, rfl⟩
    go_wp2_with fail
    go_at_call 17
    refine (D2.out).mono ?_
    rintro e w' ⟨rfl, rfl⟩
    go_wp2
    go_ret
    exact ⟨rfl, frm⟩
  subst hnn
  have C3 := spec_el u1 k
  cases hpk : isEl k
  · have hz : addScaled xs ys k = [] := by unfold addScaled; rw [hpk, Bool.and_false]; rfl
    rw [hz] at lens
    obtain rfl : n1 = 0 := by simpa using lens.symm
    rw [hpk] at C3
    have D3 := Lib.hid C3
    clear C3 lena lenb lens hz hpx hpy hpk rs
    go_wp2_with fail
    go_at_call 17
    refine (D1.out).mono ?_
    rintro e w' ⟨rfl, rfl⟩
    go_wp2_with fail
    go_at_call 17
    refine (D2.out).mono ?_
    rintro e w' ⟨rfl, rfl⟩
    go_wp2_with fail
    go_at_call 18
    refine (D3.out).mono ?_
    rintro e w' ⟨rfl, rfl⟩
    go_wp2
    go_ret
    exact ⟨rfl, frm⟩
  rw [hpk] at C3
  have D3 := Lib.hid C3
  have hn40 : na ≤ 40 := by rw [← lena]; exact (isVec_iff.1 hpx).2
  have hfacts := Lib.hid (fun (vs : List Int) (h5 : Els vs) (h6 : vs.length = na) => facts hpx hpy (lena.trans lenb.symm) hpk h5 (h6.trans lena.symm))
  obtain ⟨k0, k1⟩ := isEl_iff.1 hpk
  have hsl : n1 = na := by
    rw [← lens, (addScaled_len hpx hpy hpk lena lenb).2.2]
  subst hsl
  clear C3 lena lenb lens hpx hpy hpk
  go_wp2_with fail
  go_at_call 17
  refine (D1.out).mono ?_
  rintro e w' ⟨rfl, rfl⟩
  go_wp2_with fail
  go_at_call 17
  refine (D2.out).mono ?_
  rintro e w' ⟨rfl, rfl⟩
  go_wp2_with fail
  go_at_call 18
  refine (D3.out).mono ?_
  rintro e w' ⟨rfl, rfl⟩
  clear D1 D2 D3
  go_wp2_with (at_make; refine wpList_mk Try.underlying24 info_int (fits_i64.2 (by omega)) (by unfold maxLen; omega) (by omega) rfl _ _ rfl rfl rfl ?_; intro w3 r3 b3)
  have z3 := b3.size
  replace ra := ra.below b3 (by omega)
  replace rb := rb.below b3 (by omega)
  replace rs := rs.below b3 (by omega)
  replace frm := frm.trans (b3.mono (by omega))
  clear b3
  have HRA := Lib.hid ra
  have HRB := Lib.hid rb
  have HRS := Lib.hid rs
  clear ra rb rs
  go_loopw [8] (fun i wr => ∃ (j : Nat) (vs : List Int), j ≤ n1 ∧ i = .int .i64 j ∧ Els vs ∧ Row wr u1.heap.size w3.heap.size .i64 3 (some ⟨u1.heap.size, 0, none⟩) n1 n1 vs ∧ Mv w3 wr u1.heap.size w3.heap.size) (fun i _ => n1 - (intOf i).toNat)
  case atStart => exact ⟨0, _, Nat.zero_le _, rfl, (fun y hy => by rw [List.eq_of_mem_replicate hy]; rfl), r3, Mv.refl _ _ _⟩
  case round =>
    obtain ⟨j, vs, hj, rfl, hvs, rv, mv⟩ := hrel
    have zm := mv.size
    have frm2 := frm.trans (mv.below (B := w.heap.size) (by omega) (by omega))
    by_cases hlt : j < n1
    · have sc' := sc.below frm2 (.inl (Nat.le_refl _))
      go_wp2_with fail
      go_at_call 19
      refine (Same.at_ wr sc' big j (by omega)).mono ?_
      rintro e w' ⟨x, rfl, hx, rfl⟩
      obtain ⟨y, _, _, hy, hf⟩ := rv.there hlt
      have hst := Lib.hid (rv.set hlt (fits_i64.2 (show -9223372036854775808 ≤ (x : Int) * 2 ∧ (x : Int) * 2 ≤ 9223372036854775807 by omega)))
      have hel : isEl ((x : Int) * 2) = true := isEl_iff.2 ⟨by omega, by omega⟩
      have HE := Lib.hid hel
      have HM := Lib.hid mv
      clear rv hel frm2 mv
      go_wp2
      go_roundw
      case rel => exact ⟨j + 1, _, by omega, by go_num, (fun y hy => (List.mem_or_eq_of_mem_set hy).elim (hvs y) (fun e => e ▸ HE.out)), hst.out.1, HM.out.trans hst.out.2⟩
      case measure => simp [intOf]; omega
    · obtain rfl : j = n1 := by omega
      have rs := HRS.out.mv mv (.inl (by omega))
      have ra := HRA.out.mv mv (.inl (by omega))
      have rb := HRB.out.mv mv (.inl (by omega))
      replace frm := frm2
      obtain ⟨f1, f2, f3, f4, f5, f6⟩ := hfacts.out vs hvs rv.len
      have lens := rs.len
      clear HRS HRA HRB hfacts mv frm2 r3 hj hlt sc hvs
      generalize hss : addScaled xs ys k = ss at *
      obtain ⟨ts, hts⟩ : ∃ ts, scale ys k = ts := ⟨_, rfl⟩
      obtain ⟨k', hk'⟩ : ∃ k', Field.sub 0 k = k' := ⟨_, rfl⟩
      obtain ⟨d1, hd1⟩ : ∃ d, dot ss vs = d := ⟨_, rfl⟩
      obtain ⟨d2, hd2⟩ : ∃ d, dot xs vs = d := ⟨_, rfl⟩
      obtain ⟨d3, hd3⟩ : ∃ d, dot ys vs = d := ⟨_, rfl⟩
      obtain ⟨d4, hd4⟩ : ∃ d, Field.mul k d3 = d := ⟨_, rfl⟩
      obtain ⟨us, hus⟩ : ∃ us, addScaled xs xs 1018 = us := ⟨_, rfl⟩
      have lts := scale_le ys k
      have lus := addScaled_le xs xs 1018
      have lxa := ra.len
      have lyb := rb.len
      rw [hts] at lts
      rw [hus] at lus
      rw [hts] at f2
      rw [hk'] at f3
      rw [hd1, hd2, hd3, hd4] at f4
      rw [hd2] at f5
      rw [hus] at f6
      have G1 := Lib.hid f1
      have G2 := Lib.hid f2
      have G3 := Lib.hid f3
      have G4 := Lib.hid f4
      have G5 := Lib.hid f5
      have G6 := Lib.hid f6
      have Kts := Lib.hid hts
      have Kk := Lib.hid hk'
      have Kd1 := Lib.hid hd1
      have Kd2 := Lib.hid hd2
      have Kd3 := Lib.hid hd3
      have Kd4 := Lib.hid hd4
      have Kus := Lib.hid hus
      clear f1 f2 f3 f4 f5 f6 hts hk' hd1 hd2 hd3 hd4 hus hss lens
      go_wp2_with fail
      go_at_call 20
      refine (G1.out ▸ HV.out _ rs.sl (by omega)).mono ?_
      rintro e u11 ⟨rfl, bl⟩
      have z11 := bl.size
      replace ra := ra.below bl (by omega)
      replace rb := rb.below bl (by omega)
      replace rs := rs.below bl (by omega)
      replace rv := rv.below bl (by omega)
      replace frm := frm.trans (bl.mono (by omega))
      clear bl
      go_wp2_with fail
      go_at_call 23
      refine (Kts.out ▸ HS.out _ rb.sl (by omega) k (by omega) (by omega)).mono ?_
      rintro e u12 ⟨ad12, n12, cap12, rfl, rt, bl⟩
      have z12 := bl.size
      replace ra := ra.below bl (by omega)
      replace rb := rb.below bl (by omega)
      replace rs := rs.below bl (by omega)
      replace rv := rv.below bl (by omega)
      replace frm := frm.trans (bl.mono (by omega))
      clear bl
      have lt := rt.len
      go_wp2_with fail
      go_at_call 22
      refine (G2.out ▸ HAV.out _ ra.sl (by omega) rt.sl (by omega)).mono ?_
      rintro e u13 ⟨ad13, n13, cap13, rfl, rp, bl⟩
      have z13 := bl.size
      replace ra := ra.below bl (by omega)
      replace rb := rb.below bl (by omega)
      replace rs := rs.below bl (by omega)
      replace rv := rv.below bl (by omega)
      replace rt := rt.below bl (by omega)
      replace frm := frm.trans (bl.mono (by omega))
      clear bl
      clear rt
      go_wp2_with fail
      go_at_call 21
      refine (Same.sameInts _ rs.sl rp.sl (by omega) rfl).mono ?_
      rintro e u14 ⟨rfl, bl⟩
      have z14 := bl.size
      replace ra := ra.below bl (by omega)
      replace rb := rb.below bl (by omega)
      replace rs := rs.below bl (by omega)
      replace rv := rv.below bl (by omega)
      replace rp := rp.below bl (by omega)
      replace frm := frm.trans (bl.mono (by omega))
      clear bl
      clear rp
      go_wp2_with fail
      go_at_call 24
      refine (Kk.out ▸ spec_sub _ 0 k).mono ?_
      rintro e w' ⟨rfl, rfl⟩
      go_wp2_with fail
      go_at_call 16
      refine (G3.out ▸ HA.out _ rs.sl (by omega) rb.sl (by omega) k').mono ?_
      rintro e u16 ⟨ad16, n16, cap16, rfl, rq, bl⟩
      have z16 := bl.size
      replace ra := ra.below bl (by omega)
      replace rb := rb.below bl (by omega)
      replace rs := rs.below bl (by omega)
      replace rv := rv.below bl (by omega)
      replace frm := frm.trans (bl.mono (by omega))
      clear bl
      have lq := rq.len
      have lqa := ra.len
      have lqn : n16 ≤ 17592186044416 := by omega
      go_wp2_with fail
      go_at_call 21
      refine (Same.sameInts _ rq.sl ra.sl (by omega) rfl).mono ?_
      rintro e u17 ⟨rfl, bl⟩
      have z17 := bl.size
      replace ra := ra.below bl (by omega)
      replace rb := rb.below bl (by omega)
      replace rs := rs.below bl (by omega)
      replace rv := rv.below bl (by omega)
      replace rq := rq.below bl (by omega)
      replace frm := frm.trans (bl.mono (by omega))
      clear bl
      clear rq
      go_wp2_with fail
      go_at_call 25
      refine (Kd1.out ▸ HD.out _ rs.sl (by omega) rv.sl (by omega)).mono ?_
      rintro e u18 ⟨rfl, bl⟩
      have z18 := bl.size
      replace ra := ra.below bl (by omega)
      replace rb := rb.below bl (by omega)
      replace rs := rs.below bl (by omega)
      replace rv := rv.below bl (by omega)
      replace frm := frm.trans (bl.mono (by omega))
      clear bl
      go_wp2_with fail
      go_at_call 25
      refine (Kd2.out ▸ HD.out _ ra.sl (by omega) rv.sl (by omega)).mono ?_
      rintro e u19 ⟨rfl, bl⟩
      have z19 := bl.size
      replace ra := ra.below bl (by omega)
      replace rb := rb.below bl (by omega)
      replace rs := rs.below bl (by omega)
      replace rv := rv.below bl (by omega)
      replace frm := frm.trans (bl.mono (by omega))
      clear bl
      go_wp2_with fail
      go_at_call 25
      refine (Kd3.out ▸ HD.out _ rb.sl (by omega) rv.sl (by omega)).mono ?_
      rintro e u20 ⟨rfl, bl⟩
      have z20 := bl.size
      replace ra := ra.below bl (by omega)
      replace rb := rb.below bl (by omega)
      replace rs := rs.below bl (by omega)
      replace rv := rv.below bl (by omega)
      replace frm := frm.trans (bl.mono (by omega))
      clear bl
      go_wp2_with fail
      go_at_call 27
      refine (Kd4.out ▸ spec_mul _ k d3).mono ?_
      rintro e w' ⟨rfl, rfl⟩
      go_wp2_with fail
      go_at_call 26
      refine (G4.out ▸ spec_add _ d2 d4).mono ?_
      rintro e w' ⟨rfl, rfl⟩
      go_wp2_with fail
      go_at_call 25
      refine (Kd2.out ▸ HD.out _ ra.sl (by omega) rv.sl (by omega)).mono ?_
      rintro e u23 ⟨rfl, bl⟩
      have z23 := bl.size
      replace ra := ra.below bl (by omega)
      replace rb := rb.below bl (by omega)
      replace rs := rs.below bl (by omega)
      replace rv := rv.below bl (by omega)
      replace frm := frm.trans (bl.mono (by omega))
      clear bl
      go_wp2_with fail
      go_at_call 25
      refine (G5.out ▸ HD.out _ rv.sl (by omega) ra.sl (by omega)).mono ?_
      rintro e u24 ⟨rfl, bl⟩
      have z24 := bl.size
      replace ra := ra.below bl (by omega)
      replace rb := rb.below bl (by omega)
      replace rs := rs.below bl (by omega)
      replace rv := rv.below bl (by omega)
      replace frm := frm.trans (bl.mono (by omega))
      clear bl
      go_wp2_with fail
      go_at_call 16
      refine (Kus.out ▸ HA.out _ ra.sl (by omega) ra.sl (by omega) 1018).mono ?_
      rintro e u25 ⟨ad25, n25, cap25, rfl, ru, bl⟩
      have z25 := bl.size
      replace ra := ra.below bl (by omega)
      replace rb := rb.below bl (by omega)
      replace rs := rs.below bl (by omega)
      replace rv := rv.below bl (by omega)
      replace frm := frm.trans (bl.mono (by omega))
      clear bl
      have lu := ru.len
      go_wp2_with fail
      go_at_call 28
      refine (G6.out ▸ HL.out _ ru.sl (by omega)).mono ?_
      rintro e u26 ⟨rfl, bl⟩
      have z26 := bl.size
      replace ra := ra.below bl (by omega)
      replace rb := rb.below bl (by omega)
      replace rs := rs.below bl (by omega)
      replace rv := rv.below bl (by omega)
      replace ru := ru.below bl (by omega)
      replace frm := frm.trans (bl.mono (by omega))
      clear bl
      go_wp2
      go_ret
      exact ⟨rfl, frm⟩
end Go.Proofs.Ytecijpfcnhbkcaa.LawVec
