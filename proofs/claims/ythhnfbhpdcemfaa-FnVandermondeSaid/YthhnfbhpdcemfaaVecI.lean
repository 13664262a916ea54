/-
  Vectors, of the program: Combine, ScaleVector.
-/
import Derived.Test.YthhnfbhpdcemfaaVecIc
import Derived.Test.YthhnfbhpdcemfaaVecId
namespace Go.Proofs.Ythhnfbhpdcemfaa.VecI
open Go.ChangeShapes Go.WideShapes Go.ChangeAt Go.RowKit
open Go.Proofs.Ythhnfbhpdcemfaa.Seq Go.Proofs.Ythhnfbhpdcemfaa.Help Go.Proofs.Ythhnfbhpdcemfaa.Field Go.Proofs.Ythhnfbhpdcemfaa.FieldW Go.Proofs.Ythhnfbhpdcemfaa.Vec Go.Proofs.Ythhnfbhpdcemfaa.VecW Go.Proofs.Ythhnfbhpdcemfaa.VecOps

theorem add_empty (ys : List Int) (k : Int) : addScaled [] ys k = [] := List.eq_nil_of_length_eq_zero (by have := addScaled_le [] ys k; simpa using this)
/-- Once empty, it stays so. -/
theorem combs_bad (ps : List (List Int × Int)) (ws : Nat) (acc : List Int) (hacc : acc.length = ws ∨ acc = []) (y : List Int) (hy : y ∈ ps.map (·.1)) (hbad : (Vec.isVec y && (y.length == ws)) = false) :
    ps.foldl (fun acc p => addScaled acc p.1 p.2) acc = [] := by
  have hnil : ∀ ps : List (List Int × Int), ps.foldl (fun acc p => addScaled acc p.1 p.2) [] = [] := by
    intro ps
    induction ps with
    | nil => rfl
    | cons p ps ih => rw [List.foldl_cons, add_empty]; exact ih
  induction ps generalizing acc with
  | nil => simp at hy
  | cons p ps ih =>
    rw [List.foldl_cons]
    rcases hacc with hacc | rfl
    · by_cases hp : y = p.1
      · have : addScaled acc p.1 p.2 = [] := by
          subst hp
          unfold addScaled
          cases h1 : Vec.isVec p.1
          · simp
          · rw [h1] at hbad
            have h2 : (acc.length == p.1.length) = false := by
              rw [Bool.true_and] at hbad
              rw [hacc]
              simp only [beq_eq_false_iff_ne, ne_eq] at hbad ⊢
              omega
            rw [h2]; simp
        rw [this]; exact hnil _
      · have hy2 : y ∈ ps.map (·.1) := by
          simp only [List.map_cons, List.mem_cons] at hy
          exact hy.resolve_left hp
        refine ih _ ?_ hy2
        unfold addScaled
        cases h : (Vec.isVec acc && Vec.isVec p.1 && (acc.length == p.1.length)) && isEl p.2
        · exact .inr rfl
        · refine .inl ?_
          simp only [Bool.and_eq_true, beq_iff_eq] at h
          show (mac acc p.1 p.2).length = ws
          rw [mac_len _ h.1.2, hacc]
    · rw [add_empty]; exact hnil _
theorem combine_combs {xss : List (List Int)} {cs xs : List Int} (h0 : xss[0]? = some xs) (hl : xss.length = cs.length) (hv : Vec.isVec cs = true) : combine xss cs = combs xs.length xss cs := by
  by_cases hok : ∀ ys ∈ xss, (Vec.isVec ys && (ys.length == xs.length)) = true
  · have := combine_ok h0 rfl hl hv (fun ys hy => hok ys (List.mem_of_mem_take hy))
    rwa [List.take_length, List.take_of_length_le (by omega)] at this
  · simp only [Classical.not_forall] at hok
    obtain ⟨ys, hy, hb⟩ := hok
    obtain ⟨j, hj⟩ := List.getElem?_of_mem hy
    rw [combine_row h0 hj (by simpa using hb)]
    refine (combs_bad _ xs.length _ (.inl (by simp)) ys ?_ (by simpa using hb)).symm
    rw [List.map_fst_zip (by omega)]; exact hy

set_option maxRecDepth 100000 in
theorem comb : CombOp := fun w l h l2 h2 ad ad2 n cap n2 cap2 xss cs s hn hr s2 hn2 => by
  have hbig := s.big
  have hcap := s.le
  have hbig2 := s2.big
  have hcap2 := s2.le
  unfold maxLen at hbig hbig2
  have HR := Lib.hid hr
  clear hr
  by_cases hn0 : n = 0
  · subst hn0
    have hx0 : xss = [] := List.eq_nil_of_length_eq_zero s.len
    subst hx0
    go_enter Try.func52, Try.ntmps52
    go_wp2
    go_ret
    exact ⟨_, _, _, rfl, Row.nil _ _ _ _ _ _, (Below.refl _ _).alloc (Nat.le_refl _) _⟩
  by_cases hnn : n = n2
  case neg =>
    have hE := combine_len (xss := xss) (cs := cs) (by rw [s.len, s2.len]; exact hnn)
    have hnn2 : ((n : Int) == n2) = false := by simp; omega
    have hnn3 : ((n : Int) != n2) = true := by simp; omega
    have hn00 : ((n : Int) == 0) = false := by simp; omega
    rw [hE]
    clear hE hnn
    go_enter Try.func52, Try.ntmps52
    go_wp2
    go_ret
    exact ⟨_, _, _, rfl, Row.nil _ _ _ _ _ _, (Below.refl _ _).alloc (Nat.le_refl _) _⟩
  subst hnn
  have hn00 : ((n : Int) == 0) = false := by simp; omega
  have h1 := isVec_is w s2
  cases hv : Vec.isVec cs
  · rw [hv] at h1
    rw [combine_cs hv]
    have H1 := Lib.hid h1
    clear h1 hv
    go_enter Try.func52, Try.ntmps52
    go_wp2_with fail
    go_at_call 58
    refine H1.out.mono ?_
    rintro e w' ⟨rfl, rfl⟩
    go_wp2
    go_ret
    exact ⟨_, _, _, rfl, Row.nil _ _ _ _ _ _, (Below.refl _ _).alloc (Nat.le_refl _) _⟩
  rw [hv] at h1
  have H1 := Lib.hid h1
  have hn40 : n ≤ 40 := by rw [← s2.len]; exact (isVec_iff.1 hv).2
  obtain ⟨a, ad0, n0, cap0, x0, rfl, hx0, hc0⟩ := s.at_ (j := 0) (by omega)
  have HE := Lib.hid (combine_combs hx0.get (by rw [s.len, s2.len]) hv)
  have hn0m : n0 ≤ 17592186044416 := by rw [← hx0.sl.len]; exact HR.out _ (List.mem_of_getElem? hx0.get)
  have L0 := Lib.hid hx0.sl.len
  rw [add_0] at hc0
  clear hx0 h1 hv
  rw [HE.out, L0.out]
  go_enter Try.func52, Try.ntmps52
  go_wp2_with fail
  go_at_call 58
  refine H1.out.mono ?_
  rintro e w' ⟨rfl, rfl⟩
  go_wp2_with (at_make; refine wpList_mk Try.underlying30 info_int (fits_i64.2 (by omega)) (by unfold maxLen; omega) (by omega) rfl _ _ rfl rfl rfl ?_; intro w1 hr1 hb1)
  have hz1 := hb1.size
  have e0 : List.replicate n0 (0 : Int) = combs n0 (xss.take 0) (cs.take 0) := rfl
  rw [e0] at hr1
  go_loopw [5, 31] (fun v i wr => ∃ (j m' : Nat) (ad' : Option Addr) (cap' : Nat), j ≤ n ∧ i = .int .i64 j ∧ v = .slice ad' m' cap' ∧ m' ≤ 17592186044416 ∧ Row wr w.heap.size wr.heap.size .i64 3 ad' m' cap' (combs n0 (xss.take j) (cs.take j)) ∧ Below w.heap.size w wr) (fun _ i _ => n - (intOf i).toNat)
  case atStart => exact ⟨0, n0, _, _, Nat.zero_le _, rfl, rfl, hn0m, hr1, hb1⟩
  case round =>
    obtain ⟨j, m', ad', cap', hj, rfl, rfl, hm', hr, hb⟩ := hrel
    have zb := hb.size
    by_cases hlt : j < n
    · have t := s.below hb (.inr (Nat.le_refl _))
      obtain ⟨a1, ad3, n3, cap3, xs, e1, hx, hc⟩ := t.at_ hlt
      obtain rfl := Option.some.inj e1
      obtain ⟨a2, c, rfl, hy, hc2⟩ := (s2.below hb (.inr (Nat.le_refl _))).at_ hlt
      have hle3 := hx.sl.le
      have hbg3 := hx.sl.big
      unfold maxLen at hbg3
      have hn3m : n3 ≤ 17592186044416 := by rw [← hx.sl.len]; exact HR.out _ (List.mem_of_getElem? hx.get)
      have HC := Lib.hid (combs_more (ws := n0) hx.get hy.get)
      have hA := adds wr hr.sl hm' hx.sl hn3m c
      rw [← HC.out] at hA
      have HA := Lib.hid hA
      have hML := Lib.hid (show (combs n0 (xss.take (j + 1)) (cs.take (j + 1))).length ≤ m' by rw [HC.out, ← hr.len]; exact addScaled_le _ _ _)
      clear hA hx hy t hr
      go_wp2_with fail
      go_at_call 77
      refine HA.out.mono ?_
      rintro e w5 ⟨ad5, n5, cap5, rfl, r5, b5⟩
      have hn5 : n5 ≤ 17592186044416 := by have := r5.len; have := hML.out; omega
      have HR5 := Lib.hid (r5.lo (l' := w.heap.size) zb)
      have HB5 := Lib.hid (hb.trans (b5.mono zb))
      clear r5 b5 hb HA
      go_wp2
      go_roundw
      case rel => exact ⟨j + 1, _, _, _, by omega, by go_num, rfl, hn5, HR5.out, HB5.out⟩
      case measure => simp [intOf]; omega
    · obtain rfl : j = n := by omega
      rw [List.take_of_length_le (Nat.le_of_eq s.len), List.take_of_length_le (Nat.le_of_eq s2.len)] at hr
      have HRow := Lib.hid hr
      clear hr
      go_wp2
      go_ret
      exact ⟨_, _, _, rfl, HRow.out.lt, hb⟩

end Go.Proofs.Ythhnfbhpdcemfaa.VecI
