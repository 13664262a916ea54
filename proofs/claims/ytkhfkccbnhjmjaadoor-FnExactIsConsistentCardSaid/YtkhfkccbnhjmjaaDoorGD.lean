/-
  Matrices, of the model: what its functions answer.
  Matrices, of the model: products, transposed matrices, Vandermonde's matrices.
  Matrices, of the model: equality and products.
  What the laws on matrices ask of the program's functions; the answers of chapter 6 are small.
-/
import Derived.Test.YtkhfkccbnhjmjaaDoorGC
import Derived.Test.YtkhfkccbnhjmjaaDoorGB
import Derived.StillTailTactics
namespace Go.Proofs.YtkhfkccbnhjmjaaDoor.MatW
open Go.ChangeShapes Go.WideShapes Go.ChangeAt Go.RowKit
open Go.Proofs.YtkhfkccbnhjmjaaDoor.Seq Go.Proofs.YtkhfkccbnhjmjaaDoor.Help Go.Proofs.YtkhfkccbnhjmjaaDoor.Field Go.Proofs.YtkhfkccbnhjmjaaDoor.FieldW Go.Proofs.YtkhfkccbnhjmjaaDoor.Vec Go.Proofs.YtkhfkccbnhjmjaaDoor.VecW Go.Proofs.YtkhfkccbnhjmjaaDoor.Mat

/-- An answer; the world has drawn alone. -/
def Quiet (v : Value) (w : World) (e : Ending) (w' : World) : Prop := e = .returned v ∧ ∃ q, w' = w.drewN q

theorem spec_cols (w : World) {l h : Nat} {ad : Option Addr} {n cap : Nat} {m : List (List Int)} (s : Sls w l h ad n cap m) :
    Calls Tryd.prog 44 #[.slice ad n cap] w (Is (colsOf m) w) := by
  have hbig := s.big
  have hcap := s.le
  unfold maxLen at hbig
  by_cases hn0 : n = 0
  · subst hn0
    have hx0 : m = [] := List.eq_nil_of_length_eq_zero s.len
    subst hx0
    go_enter Tryd.func44, Tryd.ntmps44
    go_wp2
    go_ret
    exact ⟨rfl, rfl⟩
  · have hn00 : ((n : Int) == 0) = false := by simp; omega
    obtain ⟨a, ad0, n0, cap0, x0, rfl, hx0, hc0⟩ := s.at_ (j := 0) (by omega)
    rw [add_0] at hc0
    have H0 := Lib.hid ((colsOf_get hx0.get).trans hx0.sl.len)
    clear hx0
    rw [H0.out]
    go_enter Tryd.func44, Tryd.ntmps44
    go_wp2
    go_ret
    exact ⟨rfl, rfl⟩
set_option maxRecDepth 100000 in
theorem spec_isMat (w : World) {l h : Nat} {ad : Option Addr} {n cap : Nat} {m : List (List Int)} (s : Sls w l h ad n cap m) :
    Calls Tryd.prog 43 #[.slice ad n cap] w (Quiet (.bool (isMat m)) w) := by
  have hbig := s.big
  have hcap := s.le
  unfold maxLen at hbig
  have HL := Lib.hid s.len
  go_enter Tryd.func43, Tryd.ntmps43
  go_wp2
  go_loopw [3] (fun i wr => ∃ (j q : Nat), j ≤ n ∧ i = .int .i64 j ∧ Hid (∀ y ∈ m.take j, (isVec y && (y.length == colsOf m)) = true) ∧ wr = w.drewN q) (fun i _ => n - (intOf i).toNat)
  case atStart => exact ⟨0, 0, Nat.zero_le _, rfl, fun y hy => by simp at hy, rfl⟩
  case round =>
    obtain ⟨j, q, hj, rfl, HOK, hq⟩ := hrel
    have t := hq ▸ s.drewN q
    have HQ := Lib.hid hq
    clear hq
    by_cases hlt : j < n
    · obtain ⟨a, ad0, n0, cap0, x0, rfl, hx0, hc0⟩ := t.at_ (j := 0) (by omega)
      obtain ⟨a1, ad3, n3, cap3, xs, e1, hx, hc⟩ := t.at_ hlt
      obtain rfl := Option.some.inj e1
      rw [add_0] at hc0
      have hle3 := hx.sl.le
      have hbg3 := hx.sl.big
      have hle0 := hx0.sl.le
      have hbg0 := hx0.sl.big
      unfold maxLen at hbg3 hbg0
      have H0 := Lib.hid hx0.get
      have HX := Lib.hid hx.get
      have L0 := Lib.hid hx0.sl.len
      have L3 := Lib.hid hx.sl.len
      have hV := fun r => spec_isVec (wr.drewN r) (hx.sl.drewN r)
      clear hx hx0 t e1
      cases hvx : isVec xs
      · have hV' : ∀ r, Calls Tryd.prog 11 #[.slice ad3 n3 cap3] (wr.drewN r) fun e w' => e = .returned (.bool false) ∧ w' = wr.drewN r := fun r => (hV r).mono fun _ _ h => ⟨by rw [h.1, hvx], h.2.symm⟩
        have HE := Lib.hid (isMat_row H0.out HX.out (by rw [hvx]; rfl))
        have HV' := Lib.hid hV'
        clear hV hV' hvx
        go_wp2
        go_quiet (exact Calls.quiet_of_same (HV'.out _))
        go_wp2
        go_ret
        rw [HE.out]
        exact ⟨rfl, _, by rw [HQ.out, World.drewN_drewN]⟩
      · have hV' : ∀ r, Calls Tryd.prog 11 #[.slice ad3 n3 cap3] (wr.drewN r) fun e w' => e = .returned (.bool true) ∧ w' = wr.drewN r := fun r => (hV r).mono fun _ _ h => ⟨by rw [h.1, hvx], h.2.symm⟩
        have HV' := Lib.hid hV'
        by_cases hl3 : n3 = n0
        case neg =>
          have HE := Lib.hid (isMat_row H0.out HX.out (by rw [L3.out, L0.out, hvx]; simpa using hl3))
          have hl4 : ((n3 : Int) == n0) = false := by simp; omega
          have hl5 : ((n3 : Int) != n0) = true := by simp; omega
          clear hV hV' hvx hl3
          go_wp2
          go_quiet (exact Calls.quiet_of_same (HV'.out _))
          go_wp2
          go_ret
          rw [HE.out]
          exact ⟨rfl, _, by rw [HQ.out, World.drewN_drewN]⟩
        subst hl3
        have HMore := Lib.hid (rows_more HX.out HOK.out (by rw [L3.out, colsOf_get H0.out, L0.out, hvx]; simp))
        clear hV hV' hvx
        go_wp2
        go_quiet (exact Calls.quiet_of_same (HV'.out _))
        go_wp2
        go_roundw
        case rel => exact ⟨j + 1, _, by omega, by go_num, HMore.out, by rw [HQ.out, World.drewN_drewN]⟩
        case measure => simp [intOf]; omega
    · obtain rfl : j = n := by omega
      have HE := Lib.hid (isMat_all HL.out rfl HOK.out)
      go_wp2
      go_ret
      exact ⟨by rw [HE.out]; rfl, q, HQ.out⟩
end Go.Proofs.YtkhfkccbnhjmjaaDoor.MatW
namespace Go.Proofs.YtkhfkccbnhjmjaaDoor.MatW
open Go.ChangeShapes Go.WideShapes Go.ChangeAt Go.RowKit
open Go.Proofs.YtkhfkccbnhjmjaaDoor.Seq Go.Proofs.YtkhfkccbnhjmjaaDoor.Help Go.Proofs.YtkhfkccbnhjmjaaDoor.Eq Go.Proofs.YtkhfkccbnhjmjaaDoor.Field Go.Proofs.YtkhfkccbnhjmjaaDoor.FieldW Go.Proofs.YtkhfkccbnhjmjaaDoor.Vec Go.Proofs.YtkhfkccbnhjmjaaDoor.VecW Go.Proofs.YtkhfkccbnhjmjaaDoor.Mat

theorem pow_in (x n : Int) : 0 ≤ Field.pow x n ∧ Field.pow x n ≤ 1018 := by
  unfold Field.pow
  cases (isEl x && (decide (0 ≤ n) && decide (n ≤ 1000000000000)))
  · exact ⟨Int.le_refl 0, show (0 : Int) ≤ 1018 by decide⟩
  · have := pw_lt x.toNat n.toNat (m := 1019) (by omega)
    simp only [cond_true]; omega
theorem spec_eqIQ (w : World) {l h l2 h2 : Nat} {ad ad2 : Option Addr} {n cap n2 cap2 : Nat} {xs ys : List Int} (s : Sl w l h .i64 ad n cap xs) (s2 : Sl w l2 h2 .i64 ad2 n2 cap2 ys) (hn : n ≤ 17592186044416) :
    Calls Tryd.prog 69 #[.slice ad n cap, .slice ad2 n2 cap2] w (Quiet (.bool (same xs ys)) w) := by
  have hl := s.len
  have hl2 := s2.len
  by_cases hnn : n = n2
  · subst hnn
    have HL := Lib.hid hl
    have HL2 := Lib.hid hl2
    clear hl hl2
    go_enter Tryd.func69, Tryd.ntmps69
    go_wp2
    go_loopw [5] (fun i wr => ∃ j : Nat, j ≤ n ∧ i = .int .i64 j ∧ Hid (xs.take j = ys.take j) ∧ ∃ q, wr = w.drewN q) (fun i _ => n - (intOf i).toNat)
    case atStart => exact ⟨0, Nat.zero_le _, rfl, by simp [Hid], 0, rfl⟩
    case round =>
      obtain ⟨j, hj, rfl, HT, q, hq⟩ := hrel
      have t := hq ▸ s.drewN q
      have t2 := hq ▸ s2.drewN q
      have HQ := Lib.hid hq
      clear hq
      by_cases hlt : j < n
      · obtain ⟨a, x, rfl, hx, hc⟩ := t.at_ hlt
        obtain ⟨a2, y, rfl, hy, hc2⟩ := t2.at_ hlt
        by_cases hxy : x = y
        · subst hxy
          go_wp2
          go_quiet (fail)
          go_wp2
          go_roundw
          case rel => exact ⟨j + 1, by omega, by go_num, Eq.step HT.out hx.get hy.get, _, by rw [HQ.out, World.drewN_drewN]⟩
          case measure => simp [intOf]; omega
        · have HN := Lib.hid (same_no (differ2 hx.get hy.get hxy))
          have hxb : (x == y) = false := by simp [hxy]
          go_wp2
          go_quiet (fail)
          go_wp2
          go_ret
          exact ⟨by rw [HN.out]; rfl, _, by rw [HQ.out, World.drewN_drewN]⟩
      · obtain rfl : j = n := by omega
        have ht := HT.out
        rw [List.take_of_length_le (Nat.le_of_eq HL.out), List.take_of_length_le (Nat.le_of_eq HL2.out)] at ht
        have HN := Lib.hid (same_yes ht)
        clear ht
        go_wp2
        go_ret
        exact ⟨by rw [HN.out]; rfl, q, HQ.out⟩
  · have HN := Lib.hid (same_no (xs := xs) (ys := ys) (fun e => hnn (by rw [← hl, ← hl2, e])))
    have hnb : (n == n2) = false := by simp [hnn]
    clear hl hl2
    go_enter Tryd.func69, Tryd.ntmps69
    go_wp2
    go_ret
    exact ⟨by rw [HN.out]; rfl, 0, rfl⟩
end Go.Proofs.YtkhfkccbnhjmjaaDoor.MatW
namespace Go.Proofs.YtkhfkccbnhjmjaaDoor.MatW
open Go.ChangeShapes Go.WideShapes Go.ChangeAt Go.RowKit
open Go.Proofs.YtkhfkccbnhjmjaaDoor.Seq Go.Proofs.YtkhfkccbnhjmjaaDoor.Help Go.Proofs.YtkhfkccbnhjmjaaDoor.Eq Go.Proofs.YtkhfkccbnhjmjaaDoor.Field Go.Proofs.YtkhfkccbnhjmjaaDoor.FieldW Go.Proofs.YtkhfkccbnhjmjaaDoor.Vec Go.Proofs.YtkhfkccbnhjmjaaDoor.VecW Go.Proofs.YtkhfkccbnhjmjaaDoor.Mat

def sameM (a b : List (List Int)) : Bool := decide (a = b)
theorem rows_no {a b : List (List Int)} {j : Nat} {x y : List Int} (hx : a[j]? = some x) (hy : b[j]? = some y) (h : same x y = false) : sameM a b = false :=
  decide_eq_false fun e => by
    subst e
    obtain rfl : x = y := Option.some.inj (hx.symm.trans hy)
    rw [same_yes rfl] at h; cases h
theorem same_iff {x y : List Int} : same x y = true ↔ x = y := decide_eq_true_iff
theorem steps {α : Type} {xs ys : List α} {j : Nat} {x : α} (h : xs.take j = ys.take j) (hx : xs[j]? = some x) (hy : ys[j]? = some x) : xs.take (j + 1) = ys.take (j + 1) := by
  rw [take_more hx, take_more hy, h]
end Go.Proofs.YtkhfkccbnhjmjaaDoor.MatW
namespace Go.Proofs.YtkhfkccbnhjmjaaDoor.MatOps
open Go.ChangeShapes Go.WideShapes Go.ChangeAt Go.RowKit
open Go.Proofs.YtkhfkccbnhjmjaaDoor.Seq Go.Proofs.YtkhfkccbnhjmjaaDoor.Help Go.Proofs.YtkhfkccbnhjmjaaDoor.Field Go.Proofs.YtkhfkccbnhjmjaaDoor.FieldW Go.Proofs.YtkhfkccbnhjmjaaDoor.Vec Go.Proofs.YtkhfkccbnhjmjaaDoor.VecOps Go.Proofs.YtkhfkccbnhjmjaaDoor.Mat Go.Proofs.YtkhfkccbnhjmjaaDoor.MatW

/-- Rows of machine size. -/
def Short (m : List (List Int)) : Prop := ∀ xs ∈ m, xs.length ≤ 17592186044416
def IsMatOp : Prop := ∀ (w : World) {l h : Nat} {ad : Option Addr} {n cap : Nat} {m : List (List Int)}, Sls w l h ad n cap m → n ≤ 1099511627776 → Short m →
  Calls Tryd.prog 77 #[.slice ad n cap] w (SaysB (isMat m) w)
def ColsOp : Prop := ∀ (w : World) {l h : Nat} {ad : Option Addr} {n cap : Nat} {m : List (List Int)}, Sls w l h ad n cap m → n ≤ 1099511627776 → Short m →
  Calls Tryd.prog 92 #[.slice ad n cap] w (SaysI (colsOf m) w)

theorem combs_le (W : Nat) (xss : List (List Int)) (cs : List Int) : (combs W xss cs).length ≤ W := by
  unfold combs
  have : ∀ (L : List (List Int × Int)) (acc : List Int), acc.length ≤ W → (L.foldl (fun acc p => addScaled acc p.1 p.2) acc).length ≤ W := by
    intro L
    induction L with
    | nil => intro acc h; exact h
    | cons p r ih => intro acc h; exact ih _ (Nat.le_trans (addScaled_le acc p.1 p.2) h)
  exact this _ _ (by simp)
/-- At most 40 rows of at most 40 numbers. -/
def Few (m : List (List Int)) : Prop := m.length ≤ 40 ∧ ∀ xs ∈ m, xs.length ≤ 40
theorem Few.small {m : List (List Int)} (h : Few m) : Small m := ⟨by have := h.1; omega, fun xs hx => by have := h.2 xs hx; omega⟩
theorem Few.short {m : List (List Int)} (h : Few m) : Short m := fun xs hx => by have := h.2 xs hx; omega
theorem few_nil : Few [] := ⟨Nat.zero_le _, by simp⟩
theorem few_of {m : List (List Int)} (h : isMat m = true) : Few m := ⟨(isMat_iff.1 h).2, fun xs hx => (isVec_iff.1 ((isMat_iff.1 h).1 xs hx).1).2⟩
theorem few_identity (n : Int) : Few (identity n) := by
  obtain ⟨k, hk, he, _⟩ := identity_is n
  rw [he]
  refine ⟨by simpa using hk, fun xs hx => ?_⟩
  obtain ⟨i, _, rfl⟩ := List.mem_map.1 hx
  exact units_le _ _
theorem few_transpose (m : List (List Int)) : Few (transpose m) := by
  cases hm : isMat m
  · rw [transpose_no hm]; exact few_nil
  · rw [transpose_ok hm]
    refine ⟨by simpa using colsOf_le hm, fun xs hx => ?_⟩
    obtain ⟨i, _, rfl⟩ := List.mem_map.1 hx
    unfold column; rw [List.length_map]; exact (few_of hm).1
theorem few_mulMat (a b : List (List Int)) : Few (mulMat a b) := by
  cases h : (isMat a && isMat b) && (colsOf a == b.length)
  · rw [mulMat_no h]; exact few_nil
  · rw [mulMat_ok h]
    simp only [Bool.and_eq_true] at h
    refine ⟨by rw [List.length_map]; exact (few_of h.1.1).1, fun xs hx => ?_⟩
    obtain ⟨i, _, rfl⟩ := List.mem_map.1 hx
    exact Nat.le_trans (combs_le _ _ _) (colsOf_le h.1.2)
theorem few_vander (ps : List Int) (c : Int) : Few (vander ps c) := by
  cases h : isVec ps && (decide (0 ≤ c) && decide (c ≤ 40))
  · rw [vander_no h]; exact few_nil
  · rw [vander_ok h]
    simp only [Bool.and_eq_true, decide_eq_true_eq] at h
    refine ⟨by rw [List.length_map]; exact (isVec_iff.1 h.1).2, fun xs hx => ?_⟩
    obtain ⟨i, _, rfl⟩ := List.mem_map.1 hx
    rw [List.length_map, List.length_range]; omega
theorem mulVec_le (m : List (List Int)) (v : List Int) : (mulVec m v).length ≤ 40 := by
  cases h : (isMat m && isVec v) && (v.length == colsOf m)
  · rw [mulVec_no h]; exact Nat.zero_le _
  · rw [mulVec_ok h]
    simp only [Bool.and_eq_true] at h
    rw [List.length_map]; exact (few_of h.1.1).1
end Go.Proofs.YtkhfkccbnhjmjaaDoor.MatOps
