/-
  Matrices, of the program: products and transposed matrices.
-/
import Derived.Test.YthhnfbhpdcemfaaMatIb
import Derived.Deep.RegionHeld3
namespace Go.Proofs.Ythhnfbhpdcemfaa.MatI
open Go.ChangeShapes Go.WideShapes Go.ChangeAt Go.RowKit
open Go.Proofs.Ythhnfbhpdcemfaa.Seq Go.Proofs.Ythhnfbhpdcemfaa.Help Go.Proofs.Ythhnfbhpdcemfaa.Field Go.Proofs.Ythhnfbhpdcemfaa.FieldW Go.Proofs.Ythhnfbhpdcemfaa.Vec Go.Proofs.Ythhnfbhpdcemfaa.VecW Go.Proofs.Ythhnfbhpdcemfaa.VecOps Go.Proofs.Ythhnfbhpdcemfaa.Mat Go.Proofs.Ythhnfbhpdcemfaa.MatW Go.Proofs.Ythhnfbhpdcemfaa.MatOps

/-- A row's product by Combine. -/
theorem combine_rowMul {b : List (List Int)} {xs : List Int} (hl : b.length = xs.length) (hv : Vec.isVec xs = true) : combine b xs = rowMul xs b := by
  cases b with
  | nil => 
    obtain rfl : xs = [] := List.eq_nil_of_length_eq_zero (by simpa using hl.symm)
    rfl
  | cons y r => exact VecI.combine_combs (xs := y) rfl hl hv

theorem clMulV (w : World) (g : Nat) {l h l2 h2 : Nat} {ad ad2 : Option Addr} {n cap n2 cap2 : Nat} {xs v : List Int} (s : Sl w l h .i64 ad n cap xs) (hn : n ≤ 17592186044416) (s2 : Sl w l2 h2 .i64 ad2 n2 cap2 v) (hn2 : n2 ≤ 17592186044416)
    (hc : w.cell? ⟨g, 0, none⟩ = some (.slice ad2 n2 cap2)) :
    Calls Try.prog 59 #[.slice ad n cap, .pointer (some ⟨g, 0, none⟩)] w (SaysI (dot xs v) w) := by
  have HD := Lib.hid (VecI.dot w s hn s2 hn2)
  generalize dot xs v = d at *
  go_enter Try.func59, Try.ntmps59
  go_wp2_with fail
  go_at_call 60
  refine HD.out.mono ?_
  rintro e w2 ⟨rfl, b2⟩
  go_wp2
  go_ret
  exact ⟨rfl, b2⟩
set_option maxRecDepth 100000 in
set_option maxHeartbeats 800000 in
theorem mulVec : MulVOp := fun w l h l2 h2 ad ad2 n cap n2 cap2 m v s hn hsh s2 hn2 => by
  have hL := Lib.hid s.len
  have hL2 := Lib.hid s2.len
  have hb0 : Below w.heap.size w (w.alloc (.cells #[.slice ad2 n2 cap2] 30)) := (Below.refl _ _).alloc (Nat.le_refl _) _
  have hz0 : (w.alloc (.cells #[.slice ad2 n2 cap2] 30)).heap.size = w.heap.size + 1 := by simp
  have hc0 : (w.alloc (.cells #[.slice ad2 n2 cap2] 30)).cell? ⟨w.heap.size, 0, none⟩ = some (.slice ad2 n2 cap2) := by rw [World.cell?_alloc_new]; rfl
  have s1 := s.alloc (.cells #[.slice ad2 n2 cap2] 30)
  have t1 := s2.alloc (.cells #[.slice ad2 n2 cap2] 30)
  go_enter Try.func23, Try.ntmps23
  generalize hW : w.alloc (.cells #[.slice ad2 n2 cap2] 30) = W at *
  have K1 := fun r => isMat_is (W.drewN r) (s1.drewN r)
  have K2 := fun r => VecI.isVec_is (W.drewN r) (t1.drewN r)
  have K3 := fun r => cols_is (W.drewN r) (s1.drewN r)
  cases hm : Mat.isMat m
  · rw [hm] at K1
    have HE := Lib.hid (mulVec_no (m := m) (v := v) (by rw [hm]; rfl))
    have K1 := Lib.hid (fun r => (K1 r).mono fun _ _ (h : _ ∧ _) => (⟨h.1, h.2.symm⟩ : _ ∧ _))
    clear hm K2 K3 s1 t1
    rw [HE.out]
    go_wp2
    go_quiet (exact Calls.quiet_of_same (K1.out _))
    go_wp2
    go_ret
    exact ⟨_, _, _, rfl, Row.nil _ _ _ _ _ _, (below_drewN hb0 _).alloc (by show w.heap.size ≤ W.heap.size; omega) _⟩
  rw [hm] at K1
  have hm40 := (isMat_iff.1 hm).2
  rw [hL.out] at hm40
  cases hv : Vec.isVec v
  · rw [hv] at K2
    have HE := Lib.hid (mulVec_no (m := m) (v := v) (by rw [hv]; simp))
    have K1 := Lib.hid (fun r => (K1 r).mono fun _ _ (h : _ ∧ _) => (⟨h.1, h.2.symm⟩ : _ ∧ _))
    have K2 := Lib.hid (fun r => (K2 r).mono fun _ _ (h : _ ∧ _) => (⟨h.1, h.2.symm⟩ : _ ∧ _))
    clear hm hv K3 s1 t1
    rw [HE.out]
    go_wp2
    go_quiet (first | exact Calls.quiet_of_same (K1.out _) | exact Calls.quiet_of_same (K2.out _))
    go_wp2
    go_ret
    exact ⟨_, _, _, rfl, Row.nil _ _ _ _ _ _, (below_drewN hb0 _).alloc (by show w.heap.size ≤ W.heap.size; omega) _⟩
  rw [hv] at K2
  obtain ⟨c, hcc⟩ : ∃ c, c = colsOf m := ⟨_, rfl⟩
  rw [← hcc] at K3
  have HK1 := Lib.hid (fun r => (K1 r).mono fun _ _ (h : _ ∧ _) => (⟨h.1, h.2.symm⟩ : _ ∧ _))
  have HK2 := Lib.hid (fun r => (K2 r).mono fun _ _ (h : _ ∧ _) => (⟨h.1, h.2.symm⟩ : _ ∧ _))
  have HK3 := Lib.hid (fun r => (K3 r).mono fun _ _ (h : _ ∧ _) => (⟨h.1, h.2.symm⟩ : _ ∧ _))
  by_cases hc : n2 = c
  case neg =>
    have HE := Lib.hid (mulVec_no (m := m) (v := v) (by rw [hL2.out, ← hcc]; simp [hc]))
    have hc1 : ((n2 : Int) == (c : Int)) = false := by simp; omega
    have hc2 : ((n2 : Int) != (c : Int)) = true := by simp; omega
    clear hm hv K1 K2 K3 s1 t1 hcc hc
    rw [HE.out]
    go_wp2
    go_quiet (first | exact Calls.quiet_of_same (HK1.out _) | exact Calls.quiet_of_same (HK2.out _) | exact Calls.quiet_of_same (HK3.out _))
    go_wp2
    go_ret
    exact ⟨_, _, _, rfl, Row.nil _ _ _ _ _ _, (below_drewN hb0 _).alloc (by show w.heap.size ≤ W.heap.size; omega) _⟩
  subst hc
  have HE := Lib.hid (mulVec_ok (m := m) (v := v) (by rw [hm, hv, hL2.out, ← hcc]; simp))
  have KM := Lib.hid (fun q => mapMulMatrixVector (W.drewN q) (s1.drewN q) (by omega) (.pointer (some ⟨w.heap.size, 0, none⟩)) (fun xs => dot xs v)
    (fun w' ad3 n3 cap3 xs hb hx sx => by
      have hl3 : n3 ≤ 40 := by rw [← sx.len]; exact (isVec_iff.1 ((isMat_iff.1 hm).1 xs hx).1).2
      have hdi := dot_in xs v
      exact ⟨fits_i64.2 (by omega), clMulV w' w.heap.size sx (by omega) ((t1.drewN q).below hb (.inr (Nat.le_refl _))) hn2 ((hb.cell (by show w.heap.size < W.heap.size; omega)).trans hc0)⟩))
  generalize (m.map fun xs => dot xs v) = ys at *
  rw [HE.out]
  clear hm hv K1 K2 K3 s1 t1 hcc
  go_wp2
  go_quiet (first | exact Calls.quiet_of_same (HK1.out _) | exact Calls.quiet_of_same (HK2.out _) | exact Calls.quiet_of_same (HK3.out _))
  go_wp2_with fail
  go_at_call 54
  refine (KM.out _).mono ?_
  rintro e w2 ⟨ad3, n3, cap3, rfl, r3, b3⟩
  have HR := Lib.hid (r3.lo (l' := w.heap.size) (by show w.heap.size ≤ W.heap.size; omega))
  have HB := Lib.hid ((below_drewN hb0 _).trans (b3.mono (by show w.heap.size ≤ W.heap.size; omega)))
  clear r3 b3
  go_wp2
  go_ret
  exact ⟨_, _, _, rfl, HR.out, HB.out⟩

theorem clMulM (w : World) (g : Nat) {l h l2 h2 : Nat} {ad ad2 : Option Addr} {n cap n2 cap2 : Nat} {xs : List Int} {b : List (List Int)} (s2 : Sls w l2 h2 ad2 n2 cap2 b) (hn2 : n2 ≤ 1099511627776) (hb : Short b) (s : Sl w l h .i64 ad n cap xs) (hn : n ≤ 17592186044416)
    (hc : w.cell? ⟨g, 0, none⟩ = some (.slice ad2 n2 cap2)) :
    Calls Try.prog 51 #[.slice ad n cap, .pointer (some ⟨g, 0, none⟩)] w (Gives .i64 3 (combine b xs) w) := by
  have HD := Lib.hid (VecI.comb w s2 hn2 hb s hn)
  generalize combine b xs = d at *
  go_enter Try.func51, Try.ntmps51
  go_wp2_with fail
  go_at_call 52
  refine HD.out.mono ?_
  rintro e w2 ⟨ad3, n3, cap3, rfl, r3, b3⟩
  have HR := Lib.hid r3
  clear r3
  go_wp2
  go_ret
  exact ⟨_, _, _, rfl, HR.out, b3⟩
set_option maxRecDepth 100000 in
set_option maxHeartbeats 800000 in
theorem mulMat : MulMOp := fun w l h l2 h2 ad ad2 n cap n2 cap2 a b s hn hsa s2 hn2 hsb => by
  have hL := Lib.hid s.len
  have hL2 := Lib.hid s2.len
  have hb0 : Below w.heap.size w (w.alloc (.cells #[.slice ad2 n2 cap2] 24)) := (Below.refl _ _).alloc (Nat.le_refl _) _
  have hz0 : (w.alloc (.cells #[.slice ad2 n2 cap2] 24)).heap.size = w.heap.size + 1 := by simp
  have hc0 : (w.alloc (.cells #[.slice ad2 n2 cap2] 24)).cell? ⟨w.heap.size, 0, none⟩ = some (.slice ad2 n2 cap2) := by rw [World.cell?_alloc_new]; rfl
  have s1 := s.alloc (.cells #[.slice ad2 n2 cap2] 24)
  have t1 := s2.alloc (.cells #[.slice ad2 n2 cap2] 24)
  go_enter Try.func15, Try.ntmps15
  generalize hW : w.alloc (.cells #[.slice ad2 n2 cap2] 24) = W at *
  have K1 := fun r => isMat_is (W.drewN r) (s1.drewN r)
  have K2 := fun r => isMat_is (W.drewN r) (t1.drewN r)
  have K3 := fun r => cols_is (W.drewN r) (s1.drewN r)
  cases hm : Mat.isMat a
  · rw [hm] at K1
    have HE := Lib.hid (mulMat_no (a := a) (b := b) (by rw [hm]; rfl))
    have K1 := Lib.hid (fun r => (K1 r).mono fun _ _ (h : _ ∧ _) => (⟨h.1, h.2.symm⟩ : _ ∧ _))
    clear hm K2 K3 s1 t1
    rw [HE.out]
    go_wp2
    go_quiet (with_reducible exact Calls.quiet_of_same (K1.out _))
    go_wp2
    go_ret
    exact ⟨_, _, _, _, rfl, Grid.nil _ _ _ _ _ _, (below_drewN hb0 _).alloc (by show w.heap.size ≤ W.heap.size; omega) _⟩
  rw [hm] at K1
  have hm40 := (isMat_iff.1 hm).2
  rw [hL.out] at hm40
  cases hv : Mat.isMat b
  · rw [hv] at K2
    have HE := Lib.hid (mulMat_no (a := a) (b := b) (by rw [hv]; simp))
    have K1 := Lib.hid (fun r => (K1 r).mono fun _ _ (h : _ ∧ _) => (⟨h.1, h.2.symm⟩ : _ ∧ _))
    have K2 := Lib.hid (fun r => (K2 r).mono fun _ _ (h : _ ∧ _) => (⟨h.1, h.2.symm⟩ : _ ∧ _))
    clear hm hv K3 s1 t1
    rw [HE.out]
    go_wp2
    go_quiet (first | with_reducible exact Calls.quiet_of_same (K1.out _) | with_reducible exact Calls.quiet_of_same (K2.out _))
    go_wp2
    go_ret
    exact ⟨_, _, _, _, rfl, Grid.nil _ _ _ _ _ _, (below_drewN hb0 _).alloc (by show w.heap.size ≤ W.heap.size; omega) _⟩
  rw [hv] at K2
  obtain ⟨c, hcc⟩ : ∃ c, c = colsOf a := ⟨_, rfl⟩
  rw [← hcc] at K3
  have HK1 := Lib.hid (fun r => (K1 r).mono fun _ _ (h : _ ∧ _) => (⟨h.1, h.2.symm⟩ : _ ∧ _))
  have HK2 := Lib.hid (fun r => (K2 r).mono fun _ _ (h : _ ∧ _) => (⟨h.1, h.2.symm⟩ : _ ∧ _))
  have HK3 := Lib.hid (fun r => (K3 r).mono fun _ _ (h : _ ∧ _) => (⟨h.1, h.2.symm⟩ : _ ∧ _))
  by_cases hc : c = n2
  case neg =>
    have HE := Lib.hid (mulMat_no (a := a) (b := b) (by rw [hL2.out, ← hcc]; simp [hc]))
    have hc1 : ((c : Int) == (n2 : Int)) = false := by simp; omega
    have hc2 : ((c : Int) != (n2 : Int)) = true := by simp; omega
    clear hm hv K1 K2 K3 s1 t1 hcc hc
    rw [HE.out]
    go_wp2
    go_quiet (first | with_reducible exact Calls.quiet_of_same (HK1.out _) | with_reducible exact Calls.quiet_of_same (HK2.out _) | with_reducible exact Calls.quiet_of_same (HK3.out _))
    go_wp2
    go_ret
    exact ⟨_, _, _, _, rfl, Grid.nil _ _ _ _ _ _, (below_drewN hb0 _).alloc (by show w.heap.size ≤ W.heap.size; omega) _⟩
  subst hc
  have HE := Lib.hid (mulMat_ok (a := a) (b := b) (by rw [hm, hv, hL2.out, ← hcc]; simp))
  have HM := Lib.hid (List.map_congr_left (l := a) (f := fun xs => rowMul xs b) (g := fun xs => combine b xs) fun xs hx => by
    obtain ⟨h1, h2⟩ := (isMat_iff.1 hm).1 xs hx
    exact (combine_rowMul (by rw [hL2.out, h2, hcc]) h1).symm)
  have KM := Lib.hid (fun q => mapMulMatrices (W.drewN q) (s1.drewN q) (by omega) (.pointer (some ⟨w.heap.size, 0, none⟩)) (fun xs => combine b xs)
    (fun w' ad3 n3 cap3 xs hb hx sx => by
      have hl3 : n3 ≤ 40 := by rw [← sx.len]; exact (isVec_iff.1 ((isMat_iff.1 hm).1 xs hx).1).2
      exact clMulM w' w.heap.size ((t1.drewN q).below hb (.inr (Nat.le_refl _))) hn2 hsb sx (by omega) ((hb.cell (by show w.heap.size < W.heap.size; omega)).trans hc0)))
  rw [HE.out, HM.out]
  generalize (a.map fun xs => combine b xs) = ys at *
  clear hm hv K1 K2 K3 s1 t1 hcc
  go_wp2
  go_quiet (first | with_reducible exact Calls.quiet_of_same (HK1.out _) | with_reducible exact Calls.quiet_of_same (HK2.out _) | with_reducible exact Calls.quiet_of_same (HK3.out _))
  go_wp2_with fail
  go_at_call 50
  refine (KM.out _).mono ?_
  rintro e w2 ⟨ad3, n3, cap3, us, rfl, r3, b3⟩
  have HR := Lib.hid (r3.lo (l' := w.heap.size) (by show w.heap.size ≤ W.heap.size; omega))
  have HB := Lib.hid ((below_drewN hb0 _).trans (b3.mono (by show w.heap.size ≤ W.heap.size; omega)))
  clear r3 b3
  go_wp2
  go_ret
  exact ⟨_, _, _, _, rfl, HR.out, HB.out⟩

theorem clTrans (w : World) (g k : Nat) {l h : Nat} {ad : Option Addr} {n cap : Nat} {xs : List Int} {y : Int} (s : Sl w l h .i64 ad n cap xs) (hy : xs[k]? = some y) (hc : w.cell? ⟨g, 0, none⟩ = some (.int .i64 k)) :
    Calls Try.prog 55 #[.slice ad n cap, .pointer (some ⟨g, 0, none⟩)] w (SaysI y w) := by
  have hlt : k < n := by rw [← s.len]; exact (List.getElem?_eq_some_iff.1 hy).1
  obtain ⟨a, x, rfl, hx, hcx⟩ := s.at_ hlt
  obtain rfl : y = x := Option.some.inj (hy.symm.trans hx.get)
  have hle := s.le
  have hbg := s.big
  unfold maxLen at hbg
  clear hx hy
  go_enter Try.func55, Try.ntmps55
  go_wp2
  go_ret
  exact ⟨rfl, Below.refl _ _⟩
set_option maxRecDepth 100000 in
set_option maxHeartbeats 800000 in
theorem transpose : TransOp := fun w l h ad n cap m s hn hsh => by
  have hL := Lib.hid s.len
  have K1 := isMat_is w s
  have K2 := cols_is w s
  cases hm : Mat.isMat m
  · rw [hm] at K1
    have HE := Lib.hid (transpose_no hm)
    have K1 := Lib.hid K1
    clear hm K2
    rw [HE.out]
    go_enter Try.func20, Try.ntmps20
    go_wp2_with fail
    go_at_call 26
    refine K1.out.mono ?_
    rintro e w' ⟨rfl, rfl⟩
    go_wp2
    go_ret
    exact ⟨_, _, _, _, rfl, Grid.nil _ _ _ _ _ _, (Below.refl _ _).alloc (Nat.le_refl _) _⟩
  rw [hm] at K1
  have hm40 := (isMat_iff.1 hm).2
  rw [hL.out] at hm40
  have hc40 := colsOf_le hm
  have HT := Lib.hid (transpose_ok hm)
  have HM := Lib.hid hm
  have K1 := Lib.hid K1
  obtain ⟨c, hcc⟩ : ∃ c, c = colsOf m := ⟨_, rfl⟩
  rw [HT.out, ← hcc]
  rw [← hcc] at K2 hc40
  have HCC := Lib.hid hcc
  have hyl : ((List.range c).map (column m)).length = c := by simp
  have hyg : ∀ j, j < c → ((List.range c).map (column m))[j]? = some (column m j) := fun j hj => by simp [hj]
  generalize (List.range c).map (column m) = yss at *
  have K2 := Lib.hid K2
  clear hm hcc
  go_enter Try.func20, Try.ntmps20
  go_wp2_with fail
  go_at_call 26
  refine K1.out.mono ?_
  rintro e w' ⟨rfl, rfl⟩
  go_wp2_with fail
  go_at_call 33
  refine K2.out.mono ?_
  rintro e w' ⟨rfl, rfl⟩
  go_wp2_with (at_make; refine wpList_mkV (n := c) Try.underlying24 info_ints rfl rfl (by unfold maxLen; omega) (by omega) rfl _ _ rfl rfl rfl ?_; intro w1 hr1 hb1)
  have hcol := Grid.made (e := 3) hr1
  rw [show List.replicate c ([] : List Int) = yss.take 0 ++ (List.replicate c []).drop 0 by simp] at hcol
  go_loopw [14] (fun i wr => ∃ (j : Nat) (us : List Value), j ≤ c ∧ i = .int .i64 j ∧ Grid wr w.heap.size wr.heap.size 3 30 (some ⟨w.heap.size, 0, none⟩) c c us (yss.take j ++ (List.replicate c []).drop j) ∧ Below w.heap.size w wr) (fun i _ => c - (intOf i).toNat)
  case atStart => exact ⟨0, _, Nat.zero_le _, rfl, hcol, hb1⟩
  case round =>
    obtain ⟨j, us, hj, rfl, hr, hb⟩ := hrel
    have zb := hb.size
    by_cases hlt : j < c
    · have hcA : (wr.alloc (.cells #[.int .i64 j] 3)).cell? ⟨wr.heap.size, 0, none⟩ = some (.int .i64 j) := by rw [World.cell?_alloc_new]; rfl
      have hbA : Below w.heap.size w (wr.alloc (.cells #[.int .i64 j] 3)) := hb.alloc zb _
      have hzA : (wr.alloc (.cells #[.int .i64 j] 3)).heap.size = wr.heap.size + 1 := by simp
      have hrA := (hr.alloc (.cells #[.int .i64 j] 3)).mono (h' := wr.heap.size + 1) (by omega)
      have HY := Lib.hid (hyg j hlt)
      have hzlt : w.heap.size < wr.heap.size := by
        obtain ⟨g, e1, _, e2⟩ := hr.out.pos (by omega)
        obtain rfl := (Addr.mk.inj (Option.some.inj e1)).1
        exact e2
      go_wp2
      generalize wr.alloc (.cells #[.int .i64 j] 3) = W at *
      have sW := s.below hbA (.inr (Nat.le_refl _))
      have hcD : W.drew.cell? ⟨wr.heap.size, 0, none⟩ = some (.int .i64 j) := hcA
      have hbD : Below w.heap.size w W.drew := hbA.drew
      have hrD : Grid W.drew w.heap.size (wr.heap.size + 1) 3 30 (some ⟨w.heap.size, 0, none⟩) c c us (yss.take j ++ (List.replicate c []).drop j) := hrA.drewN 1
      have hzD : W.drew.heap.size = wr.heap.size + 1 := hzA
      have KM := Lib.hid (mapTranspose W.drew (sW.drewN 1) (by omega) (.pointer (some ⟨wr.heap.size, 0, none⟩)) (fun xs => xs[j]?.getD 0)
        (fun w' ad3 n3 cap3 xs hb hx sx => by
          obtain ⟨h1, h2⟩ := (isMat_iff.1 HM.out).1 xs hx
          have h3 : j < xs.length := by rw [h2, ← HCC.out]; exact hlt
          have hy : xs[j]? = some xs[j] := List.getElem?_eq_getElem h3
          have hin := vec_el h1 hy
          simp only [hy, Option.getD_some]
          exact ⟨fits_i64.2 (by omega), clTrans w' wr.heap.size j sx hy ((hb.cell (by show wr.heap.size < W.drew.heap.size; omega)).trans hcD)⟩))
      have hcol : (m.map fun xs => xs[j]?.getD 0) = column m j := rfl
      rw [hcol] at KM
      clear hcol hrA sW hbA hcA hr hb
      have hgz := (hrD.out.pos (by omega))
      have hold := fun (i b : Nat) (v : Value) (hv : us[i]? = some v) (hb : blockOf v = some b) => (hrD.block hv hb).2.2
      have HD := Lib.hid (And.intro hrD hold)
      clear hrD hold
      go_region_held3 (fun w' => w'.cell? ⟨wr.heap.size, 0, none⟩ = some (.int .i64 j))
        (first | exact hcD | exact hc2 | exact hc3)
        (first | (go_at_call 54; refine KM.out.mono ?_; rintro e w2 ⟨ad3, n3, cap3, rfl, r3, b3⟩; have hc2 : w2.cell? ⟨wr.heap.size, 0, none⟩ = some (.int .i64 j) := (b3.cell (by show wr.heap.size < W.drew.heap.size; omega)).trans hcD; have hc3 : (w2.setCell ⟨w.heap.size, j, none⟩ (.slice ad3 n3 cap3)).cell? ⟨wr.heap.size, 0, none⟩ = some (.int .i64 j) := (World.cell?_setCell_far _ _ _ _ (by show w.heap.size ≠ wr.heap.size; omega)).trans hc2; obtain ⟨u0, _, hc0, hf0⟩ := (HD.out.1.below b3 (.inr (Nat.le_refl _))).out.there hlt))
      have z3 := b3.size
      have hr2 := (HD.out.1.below b3 (.inr (Nat.le_refl _))).mono (h' := w2.heap.size) (by omega)
      have hnew := fun (b : Nat) (hb : blockOf (.slice ad3 n3 cap3) = some b) => ((OwnInts.of r3).block hb).1
      have hput := hr2.put hlt ((OwnInts.of r3).lo (by omega)) (fun b hb => by
        obtain ⟨g, e1, _, e2⟩ := hgz
        obtain rfl := (Addr.mk.inj (Option.some.inj e1)).1
        have := hnew b hb
        omega) (fun i v b _ hv hb hb' => by
        have h1 := HD.out.2 i b v hv hb
        have h2 := hnew b hb'
        omega)
      rw [over2 (n := c) (by simp) hyl hlt HY.out] at hput
      have HP := Lib.hid hput
      have hb2 := Lib.hid (hbD.trans (b3.mono (by omega)))
      clear hput hr2 HD hnew b3 r3 KM
      go_wp2
      go_roundw
      case rel => exact ⟨j + 1, _, by omega, by go_num, HP.out.1.lt, hb2.out.trans (HP.out.2.below (Nat.le_refl _) hb2.out.size)⟩
      case measure => simp [intOf]; omega
    · obtain rfl : j = c := by omega
      rw [List.take_of_length_le (Nat.le_of_eq hyl), List.drop_eq_nil_of_le (by simp), List.append_nil] at hr
      have HG := Lib.hid hr
      clear hr
      go_wp2
      go_ret
      exact ⟨_, _, _, _, rfl, HG.out, hb⟩
end Go.Proofs.Ythhnfbhpdcemfaa.MatI
