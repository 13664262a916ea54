/-
  Combinations of vectors, of the model: what Combine answers.
-/
import Derived.Test.YtecijpfcnhbkcaaVecW
import Derived.Test.YtecijpfcnhbkcaaHelp2
import Derived.StillTailTactics
namespace Go.Proofs.Ytecijpfcnhbkcaa.CombW
open Go.ChangeShapes Go.WideShapes Go.ChangeAt Go.RowKit
open Go.Proofs.Ytecijpfcnhbkcaa.Seq Go.Proofs.Ytecijpfcnhbkcaa.Help Go.Proofs.Ytecijpfcnhbkcaa.Field Go.Proofs.Ytecijpfcnhbkcaa.FieldW Go.Proofs.Ytecijpfcnhbkcaa.Vec Go.Proofs.Ytecijpfcnhbkcaa.VecW

set_option maxRecDepth 100000 in
theorem spec_comb (w : World) {l h l2 h2 : Nat} {ad ad2 : Option Addr} {n cap n2 cap2 : Nat} {xss : List (List Int)} {cs : List Int} (s : Sls w l h ad n cap xss) (s2 : Sl w l2 h2 .i64 ad2 n2 cap2 cs) (hr : ∀ xs ∈ xss, xs.length ≤ 17592186044416) :
    Calls Try.prog 31 #[.slice ad n cap, .slice ad2 n2 cap2] w (Gives .i64 3 (combine xss cs) w) := by
  have hbig := s.big
  have hcap := s.le
  have hbig2 := s2.big
  have hcap2 := s2.le
  unfold maxLen at hbig hbig2
  have HR := Lib.hid hr
  have h1 := spec_isVec w s2
  clear hr
  by_cases hn0 : n = 0
  · subst hn0
    have hx0 : xss = [] := List.eq_nil_of_length_eq_zero s.len
    subst hx0
    clear h1
    go_enter Try.func31, Try.ntmps31
    go_wp2
    go_ret
    exact ⟨_, _, _, rfl, Row.nil _ _ _ _ _ _, (Below.refl _ _).alloc (Nat.le_refl _) _⟩
  by_cases hnn : n = n2
  case neg =>
    have hE := combine_len (xss := xss) (cs := cs) (by rw [s.len, s2.len]; exact hnn)
    have hnn2 : ((n : Int) == n2) = false := by simp; omega
    have hnn3 : ((n : Int) != n2) = true := by simp; omega
    have hn00 : ((n : Int) == 0) = false := by simp; omega
    rw [hE]
    clear h1 hE hnn
    go_enter Try.func31, Try.ntmps31
    go_wp2
    go_ret
    exact ⟨_, _, _, rfl, Row.nil _ _ _ _ _ _, (Below.refl _ _).alloc (Nat.le_refl _) _⟩
  subst hnn
  have hn00 : ((n : Int) == 0) = false := by simp; omega
  cases hv : isVec cs
  · rw [hv] at h1
    rw [combine_cs hv]
    have H1 := Lib.hid h1
    clear h1 hv
    go_enter Try.func31, Try.ntmps31
    go_wp2_with fail
    go_at_call 17
    refine H1.out.mono ?_
    rintro e w' ⟨rfl, rfl⟩
    go_wp2
    go_ret
    exact ⟨_, _, _, rfl, Row.nil _ _ _ _ _ _, (Below.refl _ _).alloc (Nat.le_refl _) _⟩
  · rw [hv] at h1
    have H1 := Lib.hid h1
    have HV := Lib.hid hv
    have hn40 : n ≤ 40 := by rw [← s2.len]; exact (isVec_iff.1 hv).2
    have HL := Lib.hid (show xss.length = cs.length by rw [s.len, s2.len])
    clear h1 hv
    obtain ⟨a, ad0, n0, cap0, x0, rfl, hx0, hc0⟩ := s.at_ (j := 0) (by omega)
    have H0 := Lib.hid hx0.get
    have hn0m : n0 ≤ 17592186044416 := by rw [← hx0.sl.len]; exact HR.out _ (List.mem_of_getElem? hx0.get)
    have L0 := Lib.hid hx0.sl.len
    rw [add_0] at hc0
    clear hx0
    go_enter Try.func31, Try.ntmps31
    go_wp2_with fail
    go_at_call 17
    refine H1.out.mono ?_
    rintro e w' ⟨rfl, rfl⟩
    go_wp2_with (at_make; refine wpList_mk Try.underlying24 info_int (fits_i64.2 (by omega)) (by unfold maxLen; omega) (by omega) rfl _ _ rfl rfl rfl ?_; intro w1 hr1 hb1)
    have hz1 := hb1.size
    have e0 : List.replicate n0 (0 : Int) = combs n0 (xss.take 0) (cs.take 0) := rfl
    rw [e0] at hr1
    go_loopw [5, 6] (fun v i wr => ∃ (j m' : Nat) (ad' : Option Addr) (cap' : Nat), j ≤ n ∧ i = .int .i64 j ∧ v = .slice ad' m' cap' ∧ Row wr w.heap.size wr.heap.size .i64 3 ad' m' cap' (combs n0 (xss.take j) (cs.take j)) ∧ Hid (∀ y ∈ xss.take j, (isVec y && (y.length == n0)) = true) ∧ Below w.heap.size w wr) (fun _ i _ => n - (intOf i).toNat)
    case atStart => exact ⟨0, n0, _, _, Nat.zero_le _, rfl, rfl, hr1, fun y hy => by simp at hy, hb1⟩
    case round =>
      obtain ⟨j, m', ad', cap', hj, rfl, rfl, hr, HOK, hb⟩ := hrel
      have zb := hb.size
      by_cases hlt : j < n
      · have t := s.below hb (.inr (Nat.le_refl _))
        obtain ⟨a1, ad3, n3, cap3, xs, e1, hx, hc⟩ := t.at_ hlt
        obtain rfl := Option.some.inj e1
        obtain ⟨a2, c, rfl, hy, hc2⟩ := (s2.below hb (.inr (Nat.le_refl _))).at_ hlt
        have hc0' : wr.cell? a = some (.slice ad0 n0 cap0) := by
          obtain ⟨a3, ad4, n4, cap4, x4, e3, hx4, hc4⟩ := t.at_ (j := 0) (by omega)
          obtain rfl := Option.some.inj e3
          obtain ⟨a5, ad5, n5, cap5, x5, e5, hx5, hc5⟩ := s.at_ (j := 0) (by omega)
          obtain rfl := Option.some.inj e5
          have := (hb.cell (World.block_lt_of_cell? w _ hc0)).trans hc0
          exact this
        have hle3 := hx.sl.le
        have hbg3 := hx.sl.big
        unfold maxLen at hbg3
        have HX := Lib.hid hx.get
        have HY := Lib.hid hy.get
        have HX3 := Lib.hid hx.sl.len
        have hV := fun q => spec_isVec (wr.drewN q) (hx.sl.drewN q)
        have hsl := Lib.hid hx.sl
        clear hx hy t
        cases hvx : isVec xs
        · have hV' : ∀ q, Calls Try.prog 17 #[.slice ad3 n3 cap3] (wr.drewN q) fun e w' => e = .returned (.bool false) ∧ w' = wr.drewN q := fun q => (hV q).mono fun _ _ h => ⟨by rw [h.1, hvx], h.2.symm⟩
          have HE := Lib.hid (combine_row (cs := cs) H0.out HX.out (by rw [hvx]; rfl))
          have HV' := Lib.hid hV'
          have HRow := Lib.hid hr
          clear hV hV' hvx hr
          go_wp2
          go_quiet (exact Calls.quiet_of_same (HV'.out _))
          go_wp2
          go_ret
          rw [HE.out]
          exact ⟨_, _, _, rfl, Row.nil _ _ _ _ _ _, (below_drewN hb _).alloc zb _⟩
        · have hV' : ∀ q, Calls Try.prog 17 #[.slice ad3 n3 cap3] (wr.drewN q) fun e w' => e = .returned (.bool true) ∧ w' = wr.drewN q := fun q => (hV q).mono fun _ _ h => ⟨by rw [h.1, hvx], h.2.symm⟩
          have HV' := Lib.hid hV'
          by_cases hl3 : n3 = n0
          case neg =>
            have HE := Lib.hid (combine_row (cs := cs) H0.out HX.out (by rw [HX3.out, L0.out, hvx]; simpa using hl3))
            have hl4 : ((n3 : Int) == n0) = false := by simp; omega
            have hl5 : ((n3 : Int) != n0) = true := by simp; omega
            have HRow := Lib.hid hr
            clear hV hV' hvx hr hl3
            go_wp2
            go_quiet (exact Calls.quiet_of_same (HV'.out _))
            go_wp2
            go_ret
            rw [HE.out]
            exact ⟨_, _, _, rfl, Row.nil _ _ _ _ _ _, (below_drewN hb _).alloc zb _⟩
          subst hl3
          have HMore := Lib.hid (rows_more HX.out HOK.out (by rw [HX3.out, hvx]; simp))
          have HC := Lib.hid (combs_more (ws := n3) HX.out HY.out)
          have HRow := Lib.hid hr
          clear hV hV' hvx hr
          go_wp2
          go_quiet (exact Calls.quiet_of_same (HV'.out _))
          go_wp2
          have hbW : Below w.heap.size w (wr.drewN nq) := below_drewN hb nq
          have hcW : (wr.drewN nq).cell? (a.add j) = some (.slice ad3 n3 cap3) := hc
          have hcW2 : (wr.drewN nq).cell? (a2.add j) = some (.int .i64 c) := hc2
          have hRW : Row (wr.drewN nq) w.heap.size (wr.drewN nq).heap.size .i64 3 ad' m' cap' _ := HRow.out.drewN nq
          have hsW := hsl.out.drewN nq
          clear HRow hsl hc hc2 hc0' hb HV' zb
          generalize wr.drewN nq = W at *
          have HRW := Lib.hid hRW
          have HSW := Lib.hid hsW
          clear hRW hsW
          refine wp_region_still_tail 9 (by kernel_rfl) (by kernel_rfl) ?_
          simp only [List.take_succ_cons, List.take_zero, List.drop_succ_cons, List.drop_zero]
          repeat still_step
          refine wpStill_nil ?_
          change wpList _ _ _ _ _ W.drew
          have hA := spec_adds W.drew (HRW.out.drewN 1).sl (HSW.out.drewN 1) c
          rw [← HC.out] at hA
          have HA := Lib.hid hA
          have hbD : Below w.heap.size w W.drew := hbW.drew
          clear hA hcW hcW2 HRW HSW
          generalize W.drew = D at *
          have zD := hbD.size
          go_wp2_with fail
          go_at_call 39
          refine HA.out.mono ?_
          rintro e w5 ⟨ad5, n5, cap5, rfl, r5, b5⟩
          have HR5 := Lib.hid (r5.lo (l' := w.heap.size) zD)
          have HB5 := Lib.hid (hbD.trans (b5.mono zD))
          clear r5 b5 hbW hbD HA
          go_wp2
          go_roundw
          case rel => exact ⟨j + 1, _, _, _, by omega, by go_num, rfl, HR5.out, HMore.out, HB5.out⟩
          case measure => simp [intOf]; omega
      · obtain rfl : j = n := by omega
        have HE := Lib.hid (combine_ok H0.out s.len HL.out HV.out (by rw [L0.out]; exact HOK.out))
        have HRow := Lib.hid hr
        clear hr
        go_wp2
        go_ret
        rw [HE.out, L0.out]
        exact ⟨_, _, _, rfl, HRow.out.lt, hb⟩
end Go.Proofs.Ytecijpfcnhbkcaa.CombW
