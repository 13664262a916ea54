/-
  Matrices, of the model: equality and products.
-/
import Derived.Test.YthhnfbhpdcemfaaMatV
namespace Go.Proofs.Ythhnfbhpdcemfaa.MatW
open Go.ChangeShapes Go.WideShapes Go.ChangeAt Go.RowKit
open Go.Proofs.Ythhnfbhpdcemfaa.Seq Go.Proofs.Ythhnfbhpdcemfaa.Help Go.Proofs.Ythhnfbhpdcemfaa.Eq Go.Proofs.Ythhnfbhpdcemfaa.Field Go.Proofs.Ythhnfbhpdcemfaa.FieldW Go.Proofs.Ythhnfbhpdcemfaa.Vec Go.Proofs.Ythhnfbhpdcemfaa.VecW Go.Proofs.Ythhnfbhpdcemfaa.Mat

def sameM (a b : List (List Int)) : Bool := decide (a = b)
theorem rows_no {a b : List (List Int)} {j : Nat} {x y : List Int} (hx : a[j]? = some x) (hy : b[j]? = some y) (h : same x y = false) : sameM a b = false :=
  decide_eq_false fun e => by
    subst e
    obtain rfl : x = y := Option.some.inj (hx.symm.trans hy)
    rw [same_yes rfl] at h; cases h
theorem same_iff {x y : List Int} : same x y = true ↔ x = y := decide_eq_true_iff
theorem steps {α : Type} {xs ys : List α} {j : Nat} {x : α} (h : xs.take j = ys.take j) (hx : xs[j]? = some x) (hy : ys[j]? = some x) : xs.take (j + 1) = ys.take (j + 1) := by
  rw [take_more hx, take_more hy, h]
set_option maxRecDepth 100000 in
theorem spec_eqM (w : World) {l h l2 h2 : Nat} {ad ad2 : Option Addr} {n cap n2 cap2 : Nat} {a b : List (List Int)} (s : Sls w l h ad n cap a) (s2 : Sls w l2 h2 ad2 n2 cap2 b) (hr : ∀ xs ∈ a, xs.length ≤ 17592186044416) :
    Calls Try.prog 44 #[.slice ad n cap, .slice ad2 n2 cap2] w (Quiet (.bool (sameM a b)) w) := by
  have hbig := s.big
  have hcap := s.le
  have hbig2 := s2.big
  have hcap2 := s2.le
  unfold maxLen at hbig hbig2
  have HR := Lib.hid hr
  clear hr
  by_cases hnn : n = n2
  case neg =>
    have HE := Lib.hid (show sameM a b = false from decide_eq_false fun e => hnn (by rw [← s.len, ← s2.len, e]))
    have hn1 : ((n : Int) == n2) = false := by simp; omega
    have hn2 : ((n : Int) != n2) = true := by simp; omega
    rw [HE.out]
    go_enter Try.func44, Try.ntmps44
    go_wp2
    go_ret
    exact ⟨rfl, 0, rfl⟩
  subst hnn
  have HL := Lib.hid s.len
  have HL2 := Lib.hid s2.len
  go_enter Try.func44, Try.ntmps44
  go_wp2
  go_loopw [5] (fun i wr => ∃ j q : Nat, j ≤ n ∧ i = .int .i64 j ∧ Hid (a.take j = b.take j) ∧ wr = w.drewN q) (fun i _ => n - (intOf i).toNat)
  case atStart => exact ⟨0, 0, Nat.zero_le _, rfl, by simp [Hid], rfl⟩
  case round =>
    obtain ⟨j, q, hj, rfl, HT, hq⟩ := hrel
    have t := hq ▸ s.drewN q
    have t2 := hq ▸ s2.drewN q
    have HQ := Lib.hid hq
    clear hq
    by_cases hlt : j < n
    · obtain ⟨a1, ad3, n3, cap3, x, rfl, hx, hc⟩ := t.at_ hlt
      obtain ⟨a2, ad4, n4, cap4, y, rfl, hy, hc2⟩ := t2.at_ hlt
      have hn3 : n3 ≤ 17592186044416 := by rw [← hx.sl.len]; exact HR.out _ (List.mem_of_getElem? hx.get)
      have KQ := Lib.hid (fun r => spec_eqIQ (wr.drewN r) (hx.sl.drewN r) (hy.sl.drewN r) hn3)
      cases hxy : same x y
      · have HE := Lib.hid (rows_no hx.get hy.get hxy)
        rw [hxy] at KQ
        clear hx hy t t2
        rw [HE.out]
        go_wp2
        go_quiet (exact Calls.quiet_of (KQ.out _))
        go_wp2
        go_ret
        exact ⟨rfl, _, by rw [HQ.out, World.drewN_drewN]⟩
      · obtain rfl := same_iff.1 hxy
        rw [hxy] at KQ
        have HS := Lib.hid (steps HT.out hx.get hy.get)
        clear hx hy t t2 hxy
        go_wp2
        go_quiet (exact Calls.quiet_of (KQ.out _))
        go_wp2
        go_roundw
        case rel => exact ⟨j + 1, _, by omega, by go_num, HS.out, by rw [HQ.out, World.drewN_drewN]⟩
        case measure => simp [intOf]; omega
    · obtain rfl : j = n := by omega
      have HE := Lib.hid (show sameM a b = true from decide_eq_true (by have := HT.out; rwa [List.take_of_length_le (Nat.le_of_eq HL.out), List.take_of_length_le (Nat.le_of_eq HL2.out)] at this))
      go_wp2
      go_ret
      exact ⟨by rw [HE.out]; rfl, q, HQ.out⟩
set_option maxRecDepth 100000 in
set_option maxHeartbeats 800000 in
theorem spec_mulMat (w : World) {l h l2 h2 : Nat} {ad ad2 : Option Addr} {n cap n2 cap2 : Nat} {a b : List (List Int)} (s : Sls w l h ad n cap a) (s2 : Sls w l2 h2 ad2 n2 cap2 b) :
    Calls Try.prog 38 #[.slice ad n cap, .slice ad2 n2 cap2] w (Gives2 (mulMat a b) w) := by
  have hL := Lib.hid s.len
  have hL2 := Lib.hid s2.len
  have K1 := Lib.hid (fun o => spec_isMat (w.alloc o) (s.alloc o))
  have K2 := Lib.hid (fun o q => spec_isMat ((w.alloc o).drewN q) ((s2.alloc o).drewN q))
  have K3 := Lib.hid (fun o q => spec_cols ((w.alloc o).drewN q) ((s.alloc o).drewN q))
  go_enter Try.func38, Try.ntmps38
  go_wp2_with fail
  go_at_call 16
  refine (K1.out _).mono ?_
  rintro e w1 ⟨rfl, q, hq⟩
  cases hm : isMat a
  · have HE := Lib.hid (mulMat_no (a := a) (b := b) (by rw [hm]; rfl))
    have HQ := Lib.hid hq
    clear hq hm
    go_wp2
    go_ret
    exact ⟨_, _, _, _, rfl, by rw [HE.out]; exact Grid.nil _ _ _ _ _ _, by rw [HQ.out]; exact below_drewN ((Below.refl _ _).alloc (Nat.le_refl _) _) _⟩
  have hn40 : n ≤ 40 := by rw [← hL.out]; exact (isMat_iff.1 hm).2
  subst hq
  have HM := Lib.hid hm
  clear hm
  go_wp2_with fail
  go_at_call 16
  refine (K2.out _ _).mono ?_
  rintro e w1 ⟨rfl, q2, hq⟩
  rw [World.drewN_drewN] at hq
  cases hm2 : isMat b
  · have HE := Lib.hid (mulMat_no (a := a) (b := b) (by rw [hm2]; simp))
    have HQ := Lib.hid hq
    clear hq hm2
    go_wp2
    go_ret
    exact ⟨_, _, _, _, rfl, by rw [HE.out]; exact Grid.nil _ _ _ _ _ _, by rw [HQ.out]; exact below_drewN ((Below.refl _ _).alloc (Nat.le_refl _) _) _⟩
  have hn240 : n2 ≤ 40 := by rw [← hL2.out]; exact (isMat_iff.1 hm2).2
  have hC40 := colsOf_le hm2
  subst hq
  have HM2 := Lib.hid hm2
  clear hm2
  go_wp2_with fail
  go_at_call 17
  refine (K3.out _ _).mono ?_
  rintro e w1 ⟨rfl, rfl⟩
  by_cases hc : colsOf a = n2
  case neg =>
    have HE := Lib.hid (mulMat_no (a := a) (b := b) (by rw [hL2.out]; simp [hc]))
    have hc1 : ((colsOf a : Int) == (n2 : Int)) = false := by simp; omega
    have hc2 : ((colsOf a : Int) != (n2 : Int)) = true := by simp; omega
    clear hc
    go_wp2
    go_ret
    exact ⟨_, _, _, _, rfl, by rw [HE.out]; exact Grid.nil _ _ _ _ _ _, below_drewN ((Below.refl _ _).alloc (Nat.le_refl _) _) _⟩
  have HE := Lib.hid (mulMat_ok (a := a) (b := b) (by rw [HM.out, HM2.out, hL2.out]; simp [hc]))
  have hc3 : ((colsOf a : Int) != (n2 : Int)) = false := by simp; omega
  have HC := Lib.hid hc
  have hb0 : Below w.heap.size w ((w.alloc (.cells #[] 30)).drewN (q + q2)) := below_drewN ((Below.refl _ _).alloc (Nat.le_refl _) _) _
  have hz0 : w.heap.size < ((w.alloc (.cells #[] 30)).drewN (q + q2)).heap.size := by show w.heap.size < (w.alloc _).heap.size; simp
  clear hc K2 K3 K1
  have KB := Lib.hid (fun w' (t : Sls w' l2 h2 ad2 n2 cap2 b) => spec_cols w' t)
  obtain ⟨C, hCC⟩ : ∃ C, C = colsOf b := ⟨_, rfl⟩
  have HCC := Lib.hid hCC
  rw [← hCC] at KB hC40
  clear hCC
  go_wp2
  go_loopw [5, 6] (fun o i wr => ∃ (j : Nat) (ad' : Option Addr) (cap' : Nat) (us : List Value), j ≤ n ∧ i = .int .i64 j ∧ o = .slice ad' j cap' ∧ (∀ g, ad' = some ⟨g, 0, none⟩ → g < wr.heap.size) ∧
    Grid wr w.heap.size wr.heap.size 3 30 ad' j cap' us ((a.take j).map fun xs => rowMul xs b) ∧ Below w.heap.size w wr) (fun _ i _ => n - (intOf i).toNat)
  case atStart => exact ⟨0, _, 0, [], Nat.zero_le _, rfl, rfl, (fun g hg => by obtain rfl := (Addr.mk.inj (Option.some.inj hg)).1; exact hz0), by simpa using Grid.nil _ _ _ _ _ _, hb0⟩
  case round =>
    obtain ⟨j, ad', cap', us, hj, rfl, rfl, had, hr, hb⟩ := hrel
    have zb := hb.size
    by_cases hlt : j < n
    · have KC := Lib.hid (KB.out wr (s2.below hb (.inr (Nat.le_refl _))))
      obtain ⟨a1, ad3, n3, cap3, xs, e1, hx, hcl⟩ := (s.below hb (.inr (Nat.le_refl _))).at_ hlt
      have hn3 : n3 = n2 := by rw [← hx.sl.len, (isMat_at HM.out hx.get).2, HC.out]
      subst hn3
      have HVx := Lib.hid (isMat_at HM.out hx.get).1
      have hl3 := hx.sl.len
      have HR1 := Lib.hid (map_more (f := fun xs => rowMul xs b) hx.get)
      have hs3 := Lib.hid hx.sl
      subst e1
      clear hx
      go_wp2_with fail
      go_at_call 17
      refine KC.out.mono ?_
      rintro e w' ⟨rfl, rfl⟩
      go_wp2_with (at_make; refine wpList_mk (n := C) Try.underlying30 info_int (fits_i64.2 (by omega)) (by unfold maxLen; omega) (by omega) rfl _ _ rfl rfl rfl ?_; intro w1 hr1 hb1)
      have hz1 := hb1.size
      have e0 : List.replicate C (0 : Int) = combs C (b.take 0) (xs.take 0) := rfl
      rw [e0] at hr1
      go_loopw [7, 8] (fun o i w2 => ∃ (k m' : Nat) (ad2' : Option Addr) (cap2' : Nat), k ≤ n3 ∧ i = .int .i64 k ∧ o = .slice ad2' m' cap2' ∧ Row w2 wr.heap.size w2.heap.size .i64 3 ad2' m' cap2' (combs C (b.take k) (xs.take k)) ∧ Below wr.heap.size wr w2) (fun _ i _ => n3 - (intOf i).toNat)
      case atStart => exact ⟨0, C, _, _, Nat.zero_le _, rfl, rfl, hr1, hb1⟩
      case round =>
        obtain ⟨k, m', ad2', cap2', hk, rfl, rfl, r2, b2⟩ := hrel
        have z2 := b2.size
        by_cases hlk : k < n3
        · obtain ⟨b1, adb, nb, capb, ys, e2, hy, hcb⟩ := (s2.below (hb.trans (b2.mono zb)) (.inr (Nat.le_refl _))).at_ hlk
          obtain ⟨x1, y, e3, hxk, hck⟩ := (hs3.out.below b2 (.inr (Nat.le_refl _))).at_ hlk
          have hcl2 := (b2.cell (World.block_lt_of_cell? _ _ hcl)).trans hcl
          obtain ⟨y0, y1⟩ := vec_el HVx.out hxk.get
          have HCm := Lib.hid (combs_more (ws := C) hy.get hxk.get)
          have hsy := Lib.hid hy.sl
          have L3 := hy.sl.le
          have G3 := hy.sl.big
          have L4 := hs3.out.le
          have G4 := hs3.out.big
          unfold maxLen at G3 G4
          subst e2 e3
          clear hy hxk hcl
          go_wp2
          have HR2 := Lib.hid r2
          clear r2
          refine wp_region_still_tail 12 (by kernel_rfl) (by kernel_rfl) ?_
          simp only [List.take_succ_cons, List.take_zero, List.drop_succ_cons, List.drop_zero]
          repeat still_step
          refine wpStill_nil ?_
          change wpList _ _ _ _ _ wr.drew
          have hA := spec_adds wr.drew (HR2.out.drewN 1).sl (hsy.out.drewN 1) y
          rw [← HCm.out] at hA
          have HA := Lib.hid hA
          have hbD : Below _ _ wr.drew := b2.drew
          clear hA hcb hck hcl2 hsy HR2 b2
          generalize wr.drew = D at *
          have zD := hbD.size
          go_wp2_with fail
          go_at_call 69
          refine HA.out.mono ?_
          rintro e w5 ⟨ad5, n5, cap5, rfl, r5, b5⟩
          have HR5 := Lib.hid (Row.lo r5 zD)
          have HB5 := Lib.hid (hbD.trans (b5.mono zD))
          clear r5 b5 hbD HA
          go_wp2
          go_roundw
          case rel => exact ⟨k + 1, _, _, _, by omega, by go_num, rfl, HR5.out, HB5.out⟩
          case measure => simp [intOf]; omega
        · obtain rfl : k = n3 := by omega
          rw [List.take_of_length_le (Nat.le_of_eq hL2.out), List.take_of_length_le (Nat.le_of_eq hl3)] at r2
          have er : combs C b xs = rowMul xs b := by unfold rowMul; rw [← HCC.out]
          rw [er] at r2
          clear er
          have hr4 := (hr.below b2 (.inr (Nat.le_refl _))).alloc (.cells #[.slice ad2' m' cap2'] 30)
          have ho4 := (OwnInts.of r2).below ((Below.refl _ wr).alloc (Nat.le_refl _) (.cells #[.slice ad2' m' cap2'] 30)) (.inl (Nat.le_refl _))
          clear r2
          go_wp2_with (at_builtin; refine wpList_snoc hr4.out (u := .slice ad2' m' cap2') (by rw [World.cell?_alloc_new]; rfl) rfl Try.underlying24 info_ints rfl (by unfold maxLen; omega) (by omega) rfl _ _ rfl rfl rfl ?_; intro g5 cap5 w5 o5 p5)
          have hA := hr4.add ho4 had o5 p5 (by simp; omega) zb
          have hb5 := ((hb.trans (b2.mono zb)).alloc (by omega) (.cells #[.slice ad2' m' cap2'] 30)).trans (p5.below (Nat.le_refl _) (by simp; omega))
          go_roundw
          case rel => exact ⟨j + 1, _, _, _, by omega, by go_num, rfl, hA.2, HR1.out ▸ hA.1, hb5⟩
          case measure => simp [intOf]; omega
    · obtain rfl : j = n := by omega
      rw [List.take_of_length_le (Nat.le_of_eq hL.out)] at hr
      have HG := Lib.hid hr
      clear hr
      go_wp2
      go_ret
      exact ⟨_, _, _, _, rfl, by rw [HE.out]; exact HG.out, hb⟩
end Go.Proofs.Ythhnfbhpdcemfaa.MatW
