/-
  FnCombinations: the law's own text walked, over the contracts of what it calls.
-/
import Derived.Test.YtecijpfcnhbkcaaLawVec
import Derived.Test.YtecijpfcnhbkcaaComb
import Derived.Deep.RegionHeld3
namespace Go.Proofs.Ytecijpfcnhbkcaa.LawComb
open Go.ChangeShapes Go.WideShapes Go.ChangeAt Go.RowKit
open Go.Proofs.Ytecijpfcnhbkcaa.Kit Go.Proofs.Ytecijpfcnhbkcaa.Seq Go.Proofs.Ytecijpfcnhbkcaa.Help Go.Proofs.Ytecijpfcnhbkcaa.Draw Go.Proofs.Ytecijpfcnhbkcaa.DrawInt Go.Proofs.Ytecijpfcnhbkcaa.DrawVec Go.Proofs.Ytecijpfcnhbkcaa.Field Go.Proofs.Ytecijpfcnhbkcaa.FieldW Go.Proofs.Ytecijpfcnhbkcaa.Vec Go.Proofs.Ytecijpfcnhbkcaa.VecW Go.Proofs.Ytecijpfcnhbkcaa.CombW Go.Proofs.Ytecijpfcnhbkcaa.VecOps

theorem combine_le {xss : List (List Int)} {cs : List Int} (_ : ∀ xs ∈ xss, xs.length ≤ 200) : (combine xss cs).length ≤ 200 := Nat.le_trans (combine_le40 xss cs) (by decide)
set_option maxRecDepth 100000 in
set_option maxHeartbeats 3200000 in
theorem combinations (cC : CombOp) (cU : UnitOp) (w : World) (v : Value) (ad : Option Addr) (n cap : Nat) (ia : IntsAt .u8 w v ad n cap) :
    Calls Try.prog 4 #[v] w fun e w' => e = .returned (.bool true) ∧ Below w.heap.size w w' := by
  have hv := LawVec.bytes_at ia
  obtain ⟨ds, rfl, sc⟩ := of_ints ia
  rcases Nat.lt_or_ge 1048576 n with big | big
  · go_enter Try.func4, Try.ntmps4
    go_wp2_with (go_at_call 14; refine (Same.big_yes _ _ _ _ big).mono ?_; rintro e w' ⟨rfl, rfl⟩)
    go_ret
    exact ⟨rfl, Below.refl _ _⟩
  have HC := Lib.hid cC
  have HU := Lib.hid cU
  clear cC cU
  go_enter Try.func4, Try.ntmps4
  go_wp2_with fail
  go_at_call 14
  refine (Same.big_no _ _ _ _ big).mono ?_
  rintro e w' ⟨rfl, rfl⟩
  go_wp2_with fail
  go_at_call 29
  refine (drawCombine w _ ad n cap big hv).mono ?_
  rintro e w1 ⟨adl, m, capl, xss, adc, nc, capc, cs, rfl, hm, hnc, hsh, sx, rc, frm⟩
  have z0 := frm.size
  have HSH := Lib.hid hsh
  have hrows := Lib.hid (fun (xs : List Int) (h : xs ∈ xss) => show xs.length ≤ 17592186044416 by have := hsh xs h; omega)
  clear hv hsh
  go_wp2_with fail
  go_at_call 30
  refine (HC.out w1 sx (by omega) hrows.out rc.sl (by omega)).mono ?_
  rintro e w2 ⟨adx, nx, capx, rfl, rx, b2⟩
  have z2 := b2.size
  replace sx := sx.below b2 (by omega)
  replace rc := rc.below b2 (by omega)
  replace frm := frm.trans (b2.mono (by omega))
  clear b2
  go_wp2_with fail
  go_at_call 31
  refine (spec_comb w2 sx rc.sl hrows.out).mono ?_
  rintro e w3 ⟨ady, ny, capy, rfl, ry, b3⟩
  have z3 := b3.size
  replace sx := sx.below b3 (by omega)
  replace rc := rc.below b3 (by omega)
  replace rx := rx.below b3 (by omega)
  replace frm := frm.trans (b3.mono (by omega))
  clear b3
  have hxl : nx ≤ 200 := by
    have := rx.len
    have h2 := combine_le (cs := cs) HSH.out
    omega
  go_wp2_with fail
  go_at_call 21
  refine (Same.sameInts w3 rx.sl ry.sl (by omega) rfl).mono ?_
  rintro e w4 ⟨rfl, b4⟩
  have z4 := b4.size
  replace sx := sx.below b4 (by omega)
  replace rc := rc.below b4 (by omega)
  replace rx := rx.below b4 (by omega)
  replace frm := frm.trans (b4.mono (by omega))
  clear b4 ry
  by_cases hm0 : m = 0
  · subst hm0
    go_wp2
    go_ret
    exact ⟨rfl, frm⟩
  have em0 : ((m : Int) == 0) = false := by simp; omega
  by_cases hx0 : nx = 0
  · subst hx0
    go_wp2
    go_ret
    exact ⟨rfl, frm⟩
  have ex0 : ((nx : Int) == 0) = false := by simp; omega
  have hne : combine xss cs ≠ [] := fun h => by
    have := rx.len
    rw [h] at this
    exact hx0 this.symm
  have hlx := sx.len
  have hlc := rc.len
  obtain ⟨hlm, hvc⟩ : m = nc ∧ isVec cs = true := by
    refine ⟨?_, ?_⟩
    · rw [← hlx, ← hlc]; exact Classical.byContradiction fun h => hne (combine_len h)
    · cases h : isVec cs
      · exact absurd (combine_cs h) hne
      · rfl
  subst hlm
  have HF := Lib.hid (fun (dd : List Int) (hd : Els dd) (hl : dd.length = m) => comb_facts hne hd (hl.trans hlc.symm))
  have HLX := Lib.hid hlx
  clear hne hlc hvc hlx
  have sc4 := sc.below frm (.inl (Nat.le_refl _))
  go_wp2_with fail
  go_at_call 19
  refine (Same.at_ w4 sc4 big 0 (by omega)).mono ?_
  rintro e w' ⟨x, rfl, hx, rfl⟩
  have hmod : ((x : Int)).tmod (m : Int) = ((x % m : Nat) : Int) := by rw [Int.ofNat_tmod]
  have hmod2 : (x : Int) % (m : Int) = ((x % m : Nat) : Int) := by rw [← Int.natCast_emod]
  have hk : x % m < m := Nat.mod_lt _ (by omega)
  generalize x % m = k at hmod hmod2 hk
  go_wp2_with (at_make; refine wpList_mk Try.underlying24 info_int (fits_i64.2 (by omega)) (by unfold maxLen; omega) (by omega) rfl _ _ rfl rfl rfl ?_; intro w5 r5 b5)
  clear hmod hmod2 sc4
  have z5 := b5.size
  replace sx := sx.below b5 (by omega)
  replace rc := rc.below b5 (by omega)
  replace rx := rx.below b5 (by omega)
  replace frm := frm.trans (b5.mono (by omega))
  clear b5
  have HSX := Lib.hid sx
  have HRC := Lib.hid rc
  have HRX := Lib.hid rx
  clear sx rc rx
  go_loopw [8] (fun i wr => ∃ (j : Nat) (vs : List Int), j ≤ m ∧ i = .int .i64 j ∧ Els vs ∧ Row wr w4.heap.size w5.heap.size .i64 3 (some ⟨w4.heap.size, 0, none⟩) m m vs ∧ Mv w5 wr w4.heap.size w5.heap.size) (fun i _ => m - (intOf i).toNat)
  case atStart => exact ⟨0, _, Nat.zero_le _, rfl, (fun y hy => by rw [List.eq_of_mem_replicate hy]; rfl), r5, Mv.refl _ _ _⟩
  case round =>
    obtain ⟨j, vs, hj, rfl, hvs, rv, mv⟩ := hrel
    have zm := mv.size
    have frm2 := frm.trans (mv.below (B := w.heap.size) (by omega) (by omega))
    by_cases hlt : j < m
    · have sc' := sc.below frm2 (.inl (Nat.le_refl _))
      go_wp2_with fail
      go_at_call 19
      refine (Same.at_ wr sc' big j (by omega)).mono ?_
      rintro e w' ⟨y, rfl, hy, rfl⟩
      obtain ⟨y0, _, _, hy0, hf⟩ := rv.there hlt
      have hst := Lib.hid (rv.set hlt (fits_i64.2 (show -9223372036854775808 ≤ (y : Int) ∧ (y : Int) ≤ 9223372036854775807 by omega)))
      have hel : isEl (y : Int) = true := isEl_iff.2 ⟨by omega, by omega⟩
      have HE := Lib.hid hel
      have HM := Lib.hid mv
      clear rv hel frm2 mv
      go_wp2
      go_roundw
      case rel => exact ⟨j + 1, _, by omega, by go_num, (fun y hy => (List.mem_or_eq_of_mem_set hy).elim (hvs y) (fun e => e ▸ HE.out)), hst.out.1, HM.out.trans hst.out.2⟩
      case measure => simp [intOf]; omega
    · obtain rfl : j = m := by omega
      have sx := HSX.out.mv mv (.inl (by omega))
      have rc := HRC.out.mv mv (.inl (by omega))
      have rx := HRX.out.mv mv (.inl (by omega))
      obtain ⟨f1, f2, f3⟩ := HF.out vs hvs rv.len
      obtain ⟨a, adk, nk, capk, xk, rfl, hxk, hck⟩ := sx.at_ hk
      have hk1 := f1 k xk hxk.get
      rw [HLX.out] at hk1
      have sk := hxk.sl
      have hnk : nk ≤ 200 := by rw [← sk.len]; exact HSH.out _ (List.mem_of_getElem? hxk.get)
      have F1 := Lib.hid hk1
      have F2 := Lib.hid f2.symm
      have F3 := Lib.hid f3.symm
      have lv := rv.len
      have lcs := rc.len
      have la1 := addScaled_le cs vs 1
      have ls1 := scale_le cs 7
      have lx1 := Lib.hid (combine_le (cs := addScaled cs vs 1) HSH.out)
      have lx2 := Lib.hid (combine_le (cs := vs) HSH.out)
      have lx3 := Lib.hid (combine_le (cs := scale cs 7) HSH.out)
      have lx4 := Lib.hid (combine_le (cs := unit (j : Int) (k : Int)) HSH.out)
      have lu1 := units_le (j : Int) (k : Int)
      have B0 : Below wr.heap.size wr wr.drew := (Below.refl _ wr).drew
      have hcs : ∀ w', Below wr.heap.size wr w' → w'.cell? (a.add k) = some (.slice adk nk capk) := fun w' h => (h.cell (World.block_lt_of_cell? wr _ hck)).trans hck
      replace frm := frm2
      clear HSX HRC HRX HF f1 f2 f3 hk1 mv frm2 r5 hj hlt hvs hxk
      go_wp2
      go_region_held3 (fun w' => w'.cell? (a.add k) = some (.slice adk nk capk) ∧ Below wr.heap.size wr w')
        (first | exact ⟨hcs _ B17, B17⟩ | exact ⟨hcs _ B16, B16⟩ | exact ⟨hcs _ B15, B15⟩ | exact ⟨hcs _ B14, B14⟩ | exact ⟨hcs _ B13, B13⟩ | exact ⟨hcs _ B12, B12⟩ | exact ⟨hcs _ B11, B11⟩ | exact ⟨hcs _ B10, B10⟩ | exact ⟨hcs _ B9, B9⟩ | exact ⟨hcs _ B8, B8⟩ | exact ⟨hcs _ B7, B7⟩ | exact ⟨hcs _ B6, B6⟩ | exact ⟨hcs _ B0, B0⟩)
        (first
        | (go_at_call 21; refine (Same.sameInts w16 rcs.sl rxs.sl (by have := rcs.len; have := lx3.out; omega) F3.out).mono ?_; rintro e w17 ⟨rfl, b17⟩; have B17 := B16.trans (b17.mono B16.size))
        | (go_at_call 21; refine (Same.sameInts w12 rlcd.sl rv2.sl (by have := rlcd.len; have := lx1.out; omega) F2.out).mono ?_; rintro e w13 ⟨rfl, b13⟩; have B13 := B12.trans (b13.mono B12.size); clear rlcd rv2 b13)
        | (go_at_call 21; refine (Same.sameInts w7 rlu.sl (sk.below B7 (.inr (Nat.le_refl _))) (by have := rlu.len; have := lx4.out; omega) F1.out).mono ?_; rintro e w8 ⟨rfl, b8⟩; have B8 := B7.trans (b8.mono B7.size); clear rlu b8)
        | (go_at_call 32; refine (HU.out _ (j : Int) (k : Int) (by omega) (by omega) (by omega) (by omega)).mono ?_; rintro e w6 ⟨adu, nu, capu, rfl, ru, b6⟩; have B6 := B0.trans (b6.mono B0.size); clear b6)
        | (go_at_call 30; refine (HC.out w14 (sx.below B14 (.inr (Nat.le_refl _))) (by omega) hrows.out rsc.sl (by have := rsc.len; omega)).mono ?_; rintro e w15 ⟨ad15, n15, cap15, rfl, rcs, b15⟩; have B15 := B14.trans (b15.mono B14.size); clear rsc b15)
        | (go_at_call 30; refine (HC.out w10 (sx.below B10 (.inr (Nat.le_refl _))) (by omega) hrows.out (rv.sl.below B10 (.inr (Nat.le_refl _))) (by omega)).mono ?_; rintro e w11 ⟨ad11, n11, cap11, rfl, rld, b11⟩; have B11 := B10.trans (b11.mono B10.size); replace rlcd := rlcd.below b11 (.inl (Nat.le_refl _)); clear b11)
        | (go_at_call 30; refine (HC.out w9 (sx.below B9 (.inr (Nat.le_refl _))) (by omega) hrows.out rcd.sl (by have := rcd.len; omega)).mono ?_; rintro e w10 ⟨ad10, n10, cap10, rfl, rlcd, b10⟩; have B10 := B9.trans (b10.mono B9.size); clear rcd b10)
        | (go_at_call 30; refine (HC.out w6 (sx.below B6 (.inr (Nat.le_refl _))) (by omega) hrows.out ru.sl (by have := ru.len; omega)).mono ?_; rintro e w7 ⟨ad7, n7, cap7, rfl, rlu, b7⟩; have B7 := B6.trans (b7.mono B6.size); clear ru b7)
        | (go_at_call 33; refine (spec_addv w11 (rx.sl.below B11 (.inr (Nat.le_refl _))) rld.sl).mono ?_; rintro e w12 ⟨ad12, n12, cap12, rfl, rv2, b12⟩; have B12 := B11.trans (b12.mono B11.size); replace rlcd := rlcd.below b12 (.inr (Nat.le_refl _)); clear rld b12)
        | (go_at_call 33; refine (spec_addv w8 (rc.sl.below B8 (.inr (Nat.le_refl _))) (rv.sl.below B8 (.inr (Nat.le_refl _)))).mono ?_; rintro e w9 ⟨ad9, n9, cap9, rfl, rcd, b9⟩; have B9 := B8.trans (b9.mono B8.size); clear b9)
        | (go_at_call 34; refine (spec_scale w15 (rx.sl.below B15 (.inr (Nat.le_refl _))) 7).mono ?_; rintro e w16 ⟨ad16, n16, cap16, rfl, rxs, b16⟩; have B16 := B15.trans (b16.mono B15.size); replace rcs := rcs.below b16 (.inl (Nat.le_refl _)); clear b16)
        | (go_at_call 34; refine (spec_scale w13 (rc.sl.below B13 (.inr (Nat.le_refl _))) 7).mono ?_; rintro e w14 ⟨ad14, n14, cap14, rfl, rsc, b14⟩; have B14 := B13.trans (b14.mono B13.size); clear b14))
      go_wp2
      go_ret
      exact ⟨rfl, frm.trans (B17.mono frm.size)⟩
end Go.Proofs.Ytecijpfcnhbkcaa.LawComb
