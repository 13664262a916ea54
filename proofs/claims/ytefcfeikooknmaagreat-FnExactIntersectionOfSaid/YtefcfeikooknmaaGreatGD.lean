/-
  Matrices, of the model: what its functions answer.
  Matrices, of the model: products, transposed matrices, Vandermonde's matrices.
  Matrices, of the model: equality and products.
  What the laws on matrices ask of the program's functions; the answers of chapter 6 are small.
  Matrices, of the program: the number of columns, valid matrices, identities, and what is made of a matrix row by row.
  Matrices, of the program: Vandermonde's matrices, equality.
  Matrices, of the program: products and transposed matrices.
-/
import Derived.Test.YtefcfeikooknmaaGreatGC
import Derived.Test.YtefcfeikooknmaaGreatGB
import Derived.StillTailTactics
import Derived.Deep.RegionHeld3
namespace Go.Proofs.YtefcfeikooknmaaGreat.MatW
open Go.ChangeShapes Go.WideShapes Go.ChangeAt Go.RowKit
open Go.Proofs.YtefcfeikooknmaaGreat.Seq Go.Proofs.YtefcfeikooknmaaGreat.Help Go.Proofs.YtefcfeikooknmaaGreat.Field Go.Proofs.YtefcfeikooknmaaGreat.FieldW Go.Proofs.YtefcfeikooknmaaGreat.Vec Go.Proofs.YtefcfeikooknmaaGreat.VecW Go.Proofs.YtefcfeikooknmaaGreat.Mat

/-- An answer; the world has drawn alone. -/
def Quiet (v : Value) (w : World) (e : Ending) (w' : World) : Prop := e = .returned v ∧ ∃ q, w' = w.drewN q

theorem spec_cols (w : World) {l h : Nat} {ad : Option Addr} {n cap : Nat} {m : List (List Int)} (s : Sls w l h ad n cap m) :
    Calls Tryz.prog 66 #[.slice ad n cap] w (Is (colsOf m) w) := by
  have hbig := s.big
  have hcap := s.le
  unfold maxLen at hbig
  by_cases hn0 : n = 0
  · subst hn0
    have hx0 : m = [] := List.eq_nil_of_length_eq_zero s.len
    subst hx0
    go_enter Tryz.func66, Tryz.ntmps66
    go_wp2
    go_ret
    exact ⟨rfl, rfl⟩
  · have hn00 : ((n : Int) == 0) = false := by simp; omega
    obtain ⟨a, ad0, n0, cap0, x0, rfl, hx0, hc0⟩ := s.at_ (j := 0) (by omega)
    rw [add_0] at hc0
    have H0 := Lib.hid ((colsOf_get hx0.get).trans hx0.sl.len)
    clear hx0
    rw [H0.out]
    go_enter Tryz.func66, Tryz.ntmps66
    go_wp2
    go_ret
    exact ⟨rfl, rfl⟩
set_option maxRecDepth 100000 in
theorem spec_isMat (w : World) {l h : Nat} {ad : Option Addr} {n cap : Nat} {m : List (List Int)} (s : Sls w l h ad n cap m) :
    Calls Tryz.prog 65 #[.slice ad n cap] w (Quiet (.bool (isMat m)) w) := by
  have hbig := s.big
  have hcap := s.le
  unfold maxLen at hbig
  have HL := Lib.hid s.len
  go_enter Tryz.func65, Tryz.ntmps65
  go_wp2
  go_loopw [3] (fun i wr => ∃ (j q : Nat), j ≤ n ∧ i = .int .i64 j ∧ Hid (∀ y ∈ m.take j, (isVec y && (y.length == colsOf m)) = true) ∧ wr = w.drewN q) (fun i _ => n - (intOf i).toNat)
  case atStart => exact ⟨0, 0, Nat.zero_le _, rfl, fun y hy => by simp at hy, rfl⟩
  case round =>
    obtain ⟨j, q, hj, rfl, HOK, hq⟩ := hrel
    have t := hq ▸ s.drewN q
    have HQ := Lib.hid hq
    clear hq
    by_cases hlt : j < n
    · obtain ⟨a, ad0, n0, cap0, x0, rfl, hx0, hc0⟩ := t.at_ (j := 0) (by omega)
      obtain ⟨a1, ad3, n3, cap3, xs, e1, hx, hc⟩ := t.at_ hlt
      obtain rfl := Option.some.inj e1
      rw [add_0] at hc0
      have hle3 := hx.sl.le
      have hbg3 := hx.sl.big
      have hle0 := hx0.sl.le
      have hbg0 := hx0.sl.big
      unfold maxLen at hbg3 hbg0
      have H0 := Lib.hid hx0.get
      have HX := Lib.hid hx.get
      have L0 := Lib.hid hx0.sl.len
      have L3 := Lib.hid hx.sl.len
      have hV := fun r => spec_isVec (wr.drewN r) (hx.sl.drewN r)
      clear hx hx0 t e1
      cases hvx : isVec xs
      · have hV' : ∀ r, Calls Tryz.prog 99 #[.slice ad3 n3 cap3] (wr.drewN r) fun e w' => e = .returned (.bool false) ∧ w' = wr.drewN r := fun r => (hV r).mono fun _ _ h => ⟨by rw [h.1, hvx], h.2.symm⟩
        have HE := Lib.hid (isMat_row H0.out HX.out (by rw [hvx]; rfl))
        have HV' := Lib.hid hV'
        clear hV hV' hvx
        go_wp2
        go_quiet (exact Calls.quiet_of_same (HV'.out _))
        go_wp2
        go_ret
        rw [HE.out]
        exact ⟨rfl, _, by rw [HQ.out, World.drewN_drewN]⟩
      · have hV' : ∀ r, Calls Tryz.prog 99 #[.slice ad3 n3 cap3] (wr.drewN r) fun e w' => e = .returned (.bool true) ∧ w' = wr.drewN r := fun r => (hV r).mono fun _ _ h => ⟨by rw [h.1, hvx], h.2.symm⟩
        have HV' := Lib.hid hV'
        by_cases hl3 : n3 = n0
        case neg =>
          have HE := Lib.hid (isMat_row H0.out HX.out (by rw [L3.out, L0.out, hvx]; simpa using hl3))
          have hl4 : ((n3 : Int) == n0) = false := by simp; omega
          have hl5 : ((n3 : Int) != n0) = true := by simp; omega
          clear hV hV' hvx hl3
          go_wp2
          go_quiet (exact Calls.quiet_of_same (HV'.out _))
          go_wp2
          go_ret
          rw [HE.out]
          exact ⟨rfl, _, by rw [HQ.out, World.drewN_drewN]⟩
        subst hl3
        have HMore := Lib.hid (rows_more HX.out HOK.out (by rw [L3.out, colsOf_get H0.out, L0.out, hvx]; simp))
        clear hV hV' hvx
        go_wp2
        go_quiet (exact Calls.quiet_of_same (HV'.out _))
        go_wp2
        go_roundw
        case rel => exact ⟨j + 1, _, by omega, by go_num, HMore.out, by rw [HQ.out, World.drewN_drewN]⟩
        case measure => simp [intOf]; omega
    · obtain rfl : j = n := by omega
      have HE := Lib.hid (isMat_all HL.out rfl HOK.out)
      go_wp2
      go_ret
      exact ⟨by rw [HE.out]; rfl, q, HQ.out⟩
set_option maxRecDepth 100000 in
theorem spec_identity (w : World) (n : Int) (h0 : -9223372036854775808 ≤ n) (h1 : n ≤ 9223372036854775807) :
    Calls Tryz.prog 39 #[.int .i64 n] w (Gives2 (identity n) w) := by
  obtain ⟨k, hk, he, hkn⟩ := identity_is n
  rw [he]
  clear he
  go_enter Tryz.func39, Tryz.ntmps39
  go_wp2
  have hb0 : Below w.heap.size w (w.alloc (.cells #[] 61)) := (Below.refl _ _).alloc (Nat.le_refl _) _
  go_loopw [3, 4] (fun o i wr => ∃ (j : Nat) (ad' : Option Addr) (cap' : Nat) (us : List Value), j ≤ k ∧ i = .int .i64 j ∧ o = .slice ad' j cap' ∧ (∀ g, ad' = some ⟨g, 0, none⟩ → g < wr.heap.size) ∧
    Grid wr w.heap.size wr.heap.size 3 61 ad' j cap' us (((List.range k).take j).map fun (i : Nat) => unit n i) ∧ Below w.heap.size w wr) (fun _ i _ => k - (intOf i).toNat)
  case atStart => exact ⟨0, _, 0, [], Nat.zero_le _, rfl, rfl, (fun g hg => by obtain rfl := (Addr.mk.inj (Option.some.inj hg)).1; simp), by simpa using Grid.nil _ _ _ _ _ _, hb0⟩
  case round =>
    obtain ⟨j, ad', cap', us, hj, rfl, rfl, had, hr, hb⟩ := hrel
    have zb := hb.size
    by_cases hlt : j < k
    · have hn1 : (j : Int) < n := by omega
      have hn2 : n ≤ 40 := by omega
      have HM := Lib.hid (range_map_more (f := fun (i : Nat) => unit n i) hlt)
      go_wp2_with fail
      go_at_call 64
      refine (spec_unit _ n j h0 h1 (by omega) (by omega)).mono ?_
      rintro e w4 ⟨ad4, m4, cap4, rfl, r4, b4⟩
      have hz4 := b4.size
      have hr4 := (hr.below b4 (.inr (Nat.le_refl _))).alloc (.cells #[.slice ad4 m4 cap4] 61)
      have ho4 := (OwnInts.of r4).below ((Below.refl _ w4).alloc (Nat.le_refl _) (.cells #[.slice ad4 m4 cap4] 61)) (.inl (Nat.le_refl _))
      go_wp2_with (at_builtin; refine wpList_snoc hr4.out (u := .slice ad4 m4 cap4) (by rw [World.cell?_alloc_new]; rfl) rfl Tryz.underlying24 info_ints rfl (by unfold maxLen; omega) (by omega) rfl _ _ rfl rfl rfl ?_; intro g5 cap5 w5 o5 p5)
      have hA := hr4.add ho4 had o5 p5 (by simp; omega) zb
      have hb5 := ((hb.trans (b4.mono zb)).alloc (by omega) (.cells #[.slice ad4 m4 cap4] 61)).trans (p5.below (Nat.le_refl _) (by simp; omega))
      go_roundw
      case rel => exact ⟨j + 1, _, _, _, by omega, by go_num, rfl, hA.2, HM.out ▸ hA.1, hb5⟩
      case measure => simp [intOf]; omega
    · obtain rfl : j = k := by omega
      rw [range_map_full] at hr
      have HG := Lib.hid hr
      clear hr
      by_cases hn40 : n ≤ 40
      · have hn1 : ¬ (j : Int) < n := by omega
        clear hkn
        go_wp2
        go_ret
        exact ⟨_, _, _, _, rfl, HG.out, hb⟩
      · obtain rfl : j = 0 := by omega
        go_wp2
        go_ret
        exact ⟨_, _, _, _, rfl, HG.out, hb⟩
end Go.Proofs.YtefcfeikooknmaaGreat.MatW
namespace Go.Proofs.YtefcfeikooknmaaGreat.MatW
open Go.ChangeShapes Go.WideShapes Go.ChangeAt Go.RowKit
open Go.Proofs.YtefcfeikooknmaaGreat.Seq Go.Proofs.YtefcfeikooknmaaGreat.Help Go.Proofs.YtefcfeikooknmaaGreat.Eq Go.Proofs.YtefcfeikooknmaaGreat.Field Go.Proofs.YtefcfeikooknmaaGreat.FieldW Go.Proofs.YtefcfeikooknmaaGreat.Vec Go.Proofs.YtefcfeikooknmaaGreat.VecW Go.Proofs.YtefcfeikooknmaaGreat.Mat

theorem pow_in (x n : Int) : 0 ≤ Field.pow x n ∧ Field.pow x n ≤ 1018 := by
  unfold Field.pow
  cases (isEl x && (decide (0 ≤ n) && decide (n ≤ 1000000000000)))
  · exact ⟨Int.le_refl 0, show (0 : Int) ≤ 1018 by decide⟩
  · have := pw_lt x.toNat n.toNat (m := 1019) (by omega)
    simp only [cond_true]; omega
theorem spec_eqIQ (w : World) {l h l2 h2 : Nat} {ad ad2 : Option Addr} {n cap n2 cap2 : Nat} {xs ys : List Int} (s : Sl w l h .i64 ad n cap xs) (s2 : Sl w l2 h2 .i64 ad2 n2 cap2 ys) (hn : n ≤ 17592186044416) :
    Calls Tryz.prog 121 #[.slice ad n cap, .slice ad2 n2 cap2] w (Quiet (.bool (same xs ys)) w) := by
  have hl := s.len
  have hl2 := s2.len
  by_cases hnn : n = n2
  · subst hnn
    have HL := Lib.hid hl
    have HL2 := Lib.hid hl2
    clear hl hl2
    go_enter Tryz.func121, Tryz.ntmps121
    go_wp2
    go_loopw [5] (fun i wr => ∃ j : Nat, j ≤ n ∧ i = .int .i64 j ∧ Hid (xs.take j = ys.take j) ∧ ∃ q, wr = w.drewN q) (fun i _ => n - (intOf i).toNat)
    case atStart => exact ⟨0, Nat.zero_le _, rfl, by simp [Hid], 0, rfl⟩
    case round =>
      obtain ⟨j, hj, rfl, HT, q, hq⟩ := hrel
      have t := hq ▸ s.drewN q
      have t2 := hq ▸ s2.drewN q
      have HQ := Lib.hid hq
      clear hq
      by_cases hlt : j < n
      · obtain ⟨a, x, rfl, hx, hc⟩ := t.at_ hlt
        obtain ⟨a2, y, rfl, hy, hc2⟩ := t2.at_ hlt
        by_cases hxy : x = y
        · subst hxy
          go_wp2
          go_quiet (fail)
          go_wp2
          go_roundw
          case rel => exact ⟨j + 1, by omega, by go_num, Eq.step HT.out hx.get hy.get, _, by rw [HQ.out, World.drewN_drewN]⟩
          case measure => simp [intOf]; omega
        · have HN := Lib.hid (same_no (differ2 hx.get hy.get hxy))
          have hxb : (x == y) = false := by simp [hxy]
          go_wp2
          go_quiet (fail)
          go_wp2
          go_ret
          exact ⟨by rw [HN.out]; rfl, _, by rw [HQ.out, World.drewN_drewN]⟩
      · obtain rfl : j = n := by omega
        have ht := HT.out
        rw [List.take_of_length_le (Nat.le_of_eq HL.out), List.take_of_length_le (Nat.le_of_eq HL2.out)] at ht
        have HN := Lib.hid (same_yes ht)
        clear ht
        go_wp2
        go_ret
        exact ⟨by rw [HN.out]; rfl, q, HQ.out⟩
  · have HN := Lib.hid (same_no (xs := xs) (ys := ys) (fun e => hnn (by rw [← hl, ← hl2, e])))
    have hnb : (n == n2) = false := by simp [hnn]
    clear hl hl2
    go_enter Tryz.func121, Tryz.ntmps121
    go_wp2
    go_ret
    exact ⟨by rw [HN.out]; rfl, 0, rfl⟩
end Go.Proofs.YtefcfeikooknmaaGreat.MatW
namespace Go.Proofs.YtefcfeikooknmaaGreat.MatW
open Go.ChangeShapes Go.WideShapes Go.ChangeAt Go.RowKit
open Go.Proofs.YtefcfeikooknmaaGreat.Seq Go.Proofs.YtefcfeikooknmaaGreat.Help Go.Proofs.YtefcfeikooknmaaGreat.Eq Go.Proofs.YtefcfeikooknmaaGreat.Field Go.Proofs.YtefcfeikooknmaaGreat.FieldW Go.Proofs.YtefcfeikooknmaaGreat.Vec Go.Proofs.YtefcfeikooknmaaGreat.VecW Go.Proofs.YtefcfeikooknmaaGreat.Mat

def sameM (a b : List (List Int)) : Bool := decide (a = b)
theorem rows_no {a b : List (List Int)} {j : Nat} {x y : List Int} (hx : a[j]? = some x) (hy : b[j]? = some y) (h : same x y = false) : sameM a b = false :=
  decide_eq_false fun e => by
    subst e
    obtain rfl : x = y := Option.some.inj (hx.symm.trans hy)
    rw [same_yes rfl] at h; cases h
theorem same_iff {x y : List Int} : same x y = true ↔ x = y := decide_eq_true_iff
theorem steps {α : Type} {xs ys : List α} {j : Nat} {x : α} (h : xs.take j = ys.take j) (hx : xs[j]? = some x) (hy : ys[j]? = some x) : xs.take (j + 1) = ys.take (j + 1) := by
  rw [take_more hx, take_more hy, h]
set_option maxRecDepth 100000 in
theorem spec_eqM (w : World) {l h l2 h2 : Nat} {ad ad2 : Option Addr} {n cap n2 cap2 : Nat} {a b : List (List Int)} (s : Sls w l h ad n cap a) (s2 : Sls w l2 h2 ad2 n2 cap2 b) (hr : ∀ xs ∈ a, xs.length ≤ 17592186044416) :
    Calls Tryz.prog 98 #[.slice ad n cap, .slice ad2 n2 cap2] w (Quiet (.bool (sameM a b)) w) := by
  have hbig := s.big
  have hcap := s.le
  have hbig2 := s2.big
  have hcap2 := s2.le
  unfold maxLen at hbig hbig2
  have HR := Lib.hid hr
  clear hr
  by_cases hnn : n = n2
  case neg =>
    have HE := Lib.hid (show sameM a b = false from decide_eq_false fun e => hnn (by rw [← s.len, ← s2.len, e]))
    have hn1 : ((n : Int) == n2) = false := by simp; omega
    have hn2 : ((n : Int) != n2) = true := by simp; omega
    rw [HE.out]
    go_enter Tryz.func98, Tryz.ntmps98
    go_wp2
    go_ret
    exact ⟨rfl, 0, rfl⟩
  subst hnn
  have HL := Lib.hid s.len
  have HL2 := Lib.hid s2.len
  go_enter Tryz.func98, Tryz.ntmps98
  go_wp2
  go_loopw [5] (fun i wr => ∃ j q : Nat, j ≤ n ∧ i = .int .i64 j ∧ Hid (a.take j = b.take j) ∧ wr = w.drewN q) (fun i _ => n - (intOf i).toNat)
  case atStart => exact ⟨0, 0, Nat.zero_le _, rfl, by simp [Hid], rfl⟩
  case round =>
    obtain ⟨j, q, hj, rfl, HT, hq⟩ := hrel
    have t := hq ▸ s.drewN q
    have t2 := hq ▸ s2.drewN q
    have HQ := Lib.hid hq
    clear hq
    by_cases hlt : j < n
    · obtain ⟨a1, ad3, n3, cap3, x, rfl, hx, hc⟩ := t.at_ hlt
      obtain ⟨a2, ad4, n4, cap4, y, rfl, hy, hc2⟩ := t2.at_ hlt
      have hn3 : n3 ≤ 17592186044416 := by rw [← hx.sl.len]; exact HR.out _ (List.mem_of_getElem? hx.get)
      have KQ := Lib.hid (fun r => spec_eqIQ (wr.drewN r) (hx.sl.drewN r) (hy.sl.drewN r) hn3)
      cases hxy : same x y
      · have HE := Lib.hid (rows_no hx.get hy.get hxy)
        rw [hxy] at KQ
        clear hx hy t t2
        rw [HE.out]
        go_wp2
        go_quiet (exact Calls.quiet_of (KQ.out _))
        go_wp2
        go_ret
        exact ⟨rfl, _, by rw [HQ.out, World.drewN_drewN]⟩
      · obtain rfl := same_iff.1 hxy
        rw [hxy] at KQ
        have HS := Lib.hid (steps HT.out hx.get hy.get)
        clear hx hy t t2 hxy
        go_wp2
        go_quiet (exact Calls.quiet_of (KQ.out _))
        go_wp2
        go_roundw
        case rel => exact ⟨j + 1, _, by omega, by go_num, HS.out, by rw [HQ.out, World.drewN_drewN]⟩
        case measure => simp [intOf]; omega
    · obtain rfl : j = n := by omega
      have HE := Lib.hid (show sameM a b = true from decide_eq_true (by have := HT.out; rwa [List.take_of_length_le (Nat.le_of_eq HL.out), List.take_of_length_le (Nat.le_of_eq HL2.out)] at this))
      go_wp2
      go_ret
      exact ⟨by rw [HE.out]; rfl, q, HQ.out⟩
end Go.Proofs.YtefcfeikooknmaaGreat.MatW
namespace Go.Proofs.YtefcfeikooknmaaGreat.MatOps
open Go.ChangeShapes Go.WideShapes Go.ChangeAt Go.RowKit
open Go.Proofs.YtefcfeikooknmaaGreat.Seq Go.Proofs.YtefcfeikooknmaaGreat.Help Go.Proofs.YtefcfeikooknmaaGreat.Field Go.Proofs.YtefcfeikooknmaaGreat.FieldW Go.Proofs.YtefcfeikooknmaaGreat.Vec Go.Proofs.YtefcfeikooknmaaGreat.VecOps Go.Proofs.YtefcfeikooknmaaGreat.Mat Go.Proofs.YtefcfeikooknmaaGreat.MatW

/-- Rows of machine size. -/
def Short (m : List (List Int)) : Prop := ∀ xs ∈ m, xs.length ≤ 17592186044416
def IsMatOp : Prop := ∀ (w : World) {l h : Nat} {ad : Option Addr} {n cap : Nat} {m : List (List Int)}, Sls w l h ad n cap m → n ≤ 1099511627776 → Short m →
  Calls Tryz.prog 71 #[.slice ad n cap] w (SaysB (isMat m) w)
def ColsOp : Prop := ∀ (w : World) {l h : Nat} {ad : Option Addr} {n cap : Nat} {m : List (List Int)}, Sls w l h ad n cap m → n ≤ 1099511627776 → Short m →
  Calls Tryz.prog 58 #[.slice ad n cap] w (SaysI (colsOf m) w)
def IdOp : Prop := ∀ (w : World) (n : Int), -9223372036854775808 ≤ n → n ≤ 9223372036854775807 →
  Calls Tryz.prog 43 #[.int .i64 n] w (Gives2 (identity n) w)
def TransOp : Prop := ∀ (w : World) {l h : Nat} {ad : Option Addr} {n cap : Nat} {m : List (List Int)}, Sls w l h ad n cap m → n ≤ 1099511627776 → Short m →
  Calls Tryz.prog 96 #[.slice ad n cap] w (Gives2 (transpose m) w)
def EqMOp : Prop := ∀ (w : World) {l h l2 h2 : Nat} {ad ad2 : Option Addr} {n cap n2 cap2 : Nat} {a b : List (List Int)}, Sls w l h ad n cap a → n ≤ 1099511627776 → Short a → Sls w l2 h2 ad2 n2 cap2 b → n2 ≤ 1099511627776 → Short b →
  Calls Tryz.prog 34 #[.slice ad n cap, .slice ad2 n2 cap2] w (SaysB (sameM a b) w)

theorem combs_le (W : Nat) (xss : List (List Int)) (cs : List Int) : (combs W xss cs).length ≤ W := by
  unfold combs
  have : ∀ (L : List (List Int × Int)) (acc : List Int), acc.length ≤ W → (L.foldl (fun acc p => addScaled acc p.1 p.2) acc).length ≤ W := by
    intro L
    induction L with
    | nil => intro acc h; exact h
    | cons p r ih => intro acc h; exact ih _ (Nat.le_trans (addScaled_le acc p.1 p.2) h)
  exact this _ _ (by simp)
/-- At most 40 rows of at most 40 numbers. -/
def Few (m : List (List Int)) : Prop := m.length ≤ 40 ∧ ∀ xs ∈ m, xs.length ≤ 40
theorem Few.small {m : List (List Int)} (h : Few m) : Small m := ⟨by have := h.1; omega, fun xs hx => by have := h.2 xs hx; omega⟩
theorem Few.short {m : List (List Int)} (h : Few m) : Short m := fun xs hx => by have := h.2 xs hx; omega
theorem few_nil : Few [] := ⟨Nat.zero_le _, by simp⟩
theorem few_of {m : List (List Int)} (h : isMat m = true) : Few m := ⟨(isMat_iff.1 h).2, fun xs hx => (isVec_iff.1 ((isMat_iff.1 h).1 xs hx).1).2⟩
theorem few_identity (n : Int) : Few (identity n) := by
  obtain ⟨k, hk, he, _⟩ := identity_is n
  rw [he]
  refine ⟨by simpa using hk, fun xs hx => ?_⟩
  obtain ⟨i, _, rfl⟩ := List.mem_map.1 hx
  exact units_le _ _
theorem few_transpose (m : List (List Int)) : Few (transpose m) := by
  cases hm : isMat m
  · rw [transpose_no hm]; exact few_nil
  · rw [transpose_ok hm]
    refine ⟨by simpa using colsOf_le hm, fun xs hx => ?_⟩
    obtain ⟨i, _, rfl⟩ := List.mem_map.1 hx
    unfold column; rw [List.length_map]; exact (few_of hm).1
theorem few_mulMat (a b : List (List Int)) : Few (mulMat a b) := by
  cases h : (isMat a && isMat b) && (colsOf a == b.length)
  · rw [mulMat_no h]; exact few_nil
  · rw [mulMat_ok h]
    simp only [Bool.and_eq_true] at h
    refine ⟨by rw [List.length_map]; exact (few_of h.1.1).1, fun xs hx => ?_⟩
    obtain ⟨i, _, rfl⟩ := List.mem_map.1 hx
    exact Nat.le_trans (combs_le _ _ _) (colsOf_le h.1.2)
theorem few_vander (ps : List Int) (c : Int) : Few (vander ps c) := by
  cases h : isVec ps && (decide (0 ≤ c) && decide (c ≤ 40))
  · rw [vander_no h]; exact few_nil
  · rw [vander_ok h]
    simp only [Bool.and_eq_true, decide_eq_true_eq] at h
    refine ⟨by rw [List.length_map]; exact (isVec_iff.1 h.1).2, fun xs hx => ?_⟩
    obtain ⟨i, _, rfl⟩ := List.mem_map.1 hx
    rw [List.length_map, List.length_range]; omega
theorem mulVec_le (m : List (List Int)) (v : List Int) : (mulVec m v).length ≤ 40 := by
  cases h : (isMat m && isVec v) && (v.length == colsOf m)
  · rw [mulVec_no h]; exact Nat.zero_le _
  · rw [mulVec_ok h]
    simp only [Bool.and_eq_true] at h
    rw [List.length_map]; exact (few_of h.1.1).1
end Go.Proofs.YtefcfeikooknmaaGreat.MatOps
namespace Go.Proofs.YtefcfeikooknmaaGreat.MatI
open Go.ChangeShapes Go.WideShapes Go.ChangeAt Go.RowKit
open Go.Proofs.YtefcfeikooknmaaGreat.Seq Go.Proofs.YtefcfeikooknmaaGreat.Help Go.Proofs.YtefcfeikooknmaaGreat.Field Go.Proofs.YtefcfeikooknmaaGreat.FieldW Go.Proofs.YtefcfeikooknmaaGreat.Vec Go.Proofs.YtefcfeikooknmaaGreat.VecW Go.Proofs.YtefcfeikooknmaaGreat.VecOps Go.Proofs.YtefcfeikooknmaaGreat.Mat Go.Proofs.YtefcfeikooknmaaGreat.MatW Go.Proofs.YtefcfeikooknmaaGreat.MatOps

theorem over_z {xs ms : List Int} {n j : Nat} {x : Int} (hl : xs.length = n) (hm : ms.length = n) (hj : j < n) (hx : ms[j]? = some x) : (ms.take j ++ xs.drop j).set j x = ms.take (j + 1) ++ xs.drop (j + 1) := over2 hl hm hj hx
theorem isMat_bad {m : List (List Int)} {ys : List Int} {j : Nat} (hj : m[j]? = some ys) (h : (Vec.isVec ys && (ys.length == colsOf m)) = false) : Mat.isMat m = false := by
  have h1 : okRows (colsOf m) m = false := by
    unfold okRows
    rw [List.all_eq_false]; exact ⟨ys, List.mem_of_getElem? hj, by rw [h]; simp⟩
  unfold Mat.isMat; rw [h1]; rfl

theorem cols_is (w : World) {l h : Nat} {ad : Option Addr} {n cap : Nat} {m : List (List Int)} (s : Sls w l h ad n cap m) :
    Calls Tryz.prog 58 #[.slice ad n cap] w (Is (colsOf m) w) := by
  have hbig := s.big
  have hcap := s.le
  unfold maxLen at hbig
  by_cases hn0 : n = 0
  · subst hn0
    have hx0 : m = [] := List.eq_nil_of_length_eq_zero s.len
    subst hx0
    go_enter Tryz.func58, Tryz.ntmps58
    go_wp2
    go_ret
    exact ⟨rfl, rfl⟩
  · have hn00 : ((n : Int) == 0) = false := by simp; omega
    obtain ⟨a, ad0, n0, cap0, x0, rfl, hx0, hc0⟩ := s.at_ (j := 0) (by omega)
    rw [add_0] at hc0
    have H0 := Lib.hid ((colsOf_get hx0.get).trans hx0.sl.len)
    clear hx0
    rw [H0.out]
    go_enter Tryz.func58, Tryz.ntmps58
    go_wp2
    go_ret
    exact ⟨rfl, rfl⟩
theorem cols : ColsOp := fun w _ _ _ _ _ _ s _ _ => (cols_is w s).mono is_below

set_option maxRecDepth 100000 in
theorem isMat_is (w : World) {l h : Nat} {ad : Option Addr} {n cap : Nat} {m : List (List Int)} (s : Sls w l h ad n cap m) :
    Calls Tryz.prog 71 #[.slice ad n cap] w (IsB (Mat.isMat m) w) := by
  have hbig := s.big
  have hcap := s.le
  unfold maxLen at hbig
  have HL := Lib.hid s.len
  by_cases hl : 40 < n
  · have HE := Lib.hid (show Mat.isMat m = false from by unfold Mat.isMat; rw [decide_eq_false (by rw [HL.out]; omega), Bool.and_false])
    rw [HE.out]
    go_enter Tryz.func71, Tryz.ntmps71
    go_wp2
    go_ret
    exact ⟨rfl, rfl⟩
  have KC := Lib.hid (cols_is w s)
  go_enter Tryz.func71, Tryz.ntmps71
  go_wp2
  go_loop [10] (fun i => ∃ j : Nat, j ≤ n ∧ i = .int .i64 j ∧ Hid (∀ y ∈ m.take j, (Vec.isVec y && (y.length == colsOf m)) = true)) (fun i => n - (intOf i).toNat)
  case atStart => exact ⟨0, Nat.zero_le _, rfl, fun y hy => by simp at hy⟩
  case round =>
    obtain ⟨j, hj, rfl, HOK⟩ := hrel
    by_cases hlt : j < n
    · obtain ⟨a1, ad3, n3, cap3, xs, rfl, hx, hc⟩ := s.at_ hlt
      have hle3 := hx.sl.le
      have hbg3 := hx.sl.big
      unfold maxLen at hbg3
      have HX := Lib.hid hx.get
      have L3 := Lib.hid hx.sl.len
      have hV := VecI.isVec_is w hx.sl
      clear hx
      obtain ⟨c, hcc⟩ : ∃ c, c = colsOf m := ⟨_, rfl⟩
      have HCC := Lib.hid hcc
      clear hcc
      rw [← HCC.out] at KC
      by_cases hl3 : n3 = c
      case neg =>
        have HE := Lib.hid (isMat_bad HX.out (by rw [L3.out, ← HCC.out]; simp [hl3]))
        have hl4 : ((n3 : Int) == (c : Int)) = false := by simp; omega
        have hl5 : ((n3 : Int) != (c : Int)) = true := by simp; omega
        clear hl3 hV
        rw [HE.out]
        go_wp2_with fail
        go_at_call 58
        refine KC.out.mono ?_
        rintro e w' ⟨rfl, rfl⟩
        go_wp2
        go_ret
        exact ⟨rfl, rfl⟩
      subst hl3
      cases hvx : Vec.isVec xs
      · rw [hvx] at hV
        have HV := Lib.hid hV
        have HE := Lib.hid (isMat_bad HX.out (by rw [hvx]; rfl))
        clear hV hvx
        rw [HE.out]
        go_wp2_with fail
        go_at_call 58
        refine KC.out.mono ?_
        rintro e w' ⟨rfl, rfl⟩
        go_wp2_with fail
        go_at_call 101
        refine HV.out.mono ?_
        rintro e w' ⟨rfl, rfl⟩
        go_wp2
        go_ret
        exact ⟨rfl, rfl⟩
      · rw [hvx] at hV
        have HV := Lib.hid hV
        have HMore := Lib.hid (rows_more HX.out HOK.out (by rw [L3.out, ← HCC.out, hvx]; simp))
        clear hV hvx
        go_wp2_with fail
        go_at_call 58
        refine KC.out.mono ?_
        rintro e w' ⟨rfl, rfl⟩
        go_wp2_with fail
        go_at_call 101
        refine HV.out.mono ?_
        rintro e w' ⟨rfl, rfl⟩
        go_wp2
        go_round
        case rel => exact ⟨j + 1, by omega, by go_num, HMore.out⟩
        case measure => simp [intOf]; omega
    · obtain rfl : j = n := by omega
      have HE := Lib.hid (isMat_all HL.out rfl HOK.out)
      go_wp2
      go_ret
      exact ⟨by rw [HE.out]; simp; omega, rfl⟩
theorem isMat : IsMatOp := fun w _ _ _ _ _ _ s _ _ => (isMat_is w s).mono isB_below

theorem identity_ok {n : Int} (h : (decide (0 ≤ n) && decide (n ≤ 40)) = true) : ∃ k : Nat, k ≤ 40 ∧ n = k ∧ identity n = (List.range k).map (fun (i : Nat) => unit k i) := by
  simp only [Bool.and_eq_true, decide_eq_true_eq] at h
  obtain ⟨k, hk, he, hh⟩ := identity_is n
  obtain rfl : n = k := by omega
  exact ⟨k, hk, rfl, he⟩
theorem identity_no {n : Int} (h : (decide (0 ≤ n) && decide (n ≤ 40)) = false) : identity n = [] := by
  simp only [Bool.and_eq_false_iff, decide_eq_false_iff_not] at h
  obtain ⟨k, hk, he, hh⟩ := identity_is n
  obtain rfl : k = 0 := by omega
  rw [he]; rfl
set_option maxRecDepth 100000 in
theorem identity : IdOp := fun w n hn0 hn1 => by
  have h1 := inRange_is w n 0 40
  cases hp : (decide (0 ≤ n) && decide (n ≤ 40))
  · rw [hp] at h1
    rw [identity_no hp]
    have H1 := Lib.hid h1
    clear h1 hp
    go_enter Tryz.func43, Tryz.ntmps43
    go_wp2_with fail
    go_at_call 56
    refine H1.out.mono ?_
    rintro e w' ⟨rfl, rfl⟩
    go_wp2
    go_ret
    exact ⟨_, _, _, _, rfl, Grid.nil _ _ _ _ _ _, (Below.refl _ _).alloc (Nat.le_refl _) _⟩
  rw [hp] at h1
  obtain ⟨k, hk, rfl, he⟩ := identity_ok hp
  rw [he]
  have H1 := Lib.hid h1
  clear h1 hp he
  have hyl : ((List.range k).map fun (i : Nat) => unit k i).length = k := by simp
  have hyg : ∀ j, j < k → ((List.range k).map fun (i : Nat) => unit k i)[j]? = some (unit k j) := fun j hj => by simp [hj]
  generalize ((List.range k).map fun (i : Nat) => unit k i) = yss at *
  go_enter Tryz.func43, Tryz.ntmps43
  go_wp2_with fail
  go_at_call 56
  refine H1.out.mono ?_
  rintro e w' ⟨rfl, rfl⟩
  go_wp2_with (at_make; refine wpList_mkV (n := k) Tryz.underlying24 info_ints rfl rfl (by unfold maxLen; omega) (by omega) rfl _ _ rfl rfl rfl ?_; intro w1 hr1 hb1)
  have hcol := Grid.made (e := 3) hr1
  rw [show List.replicate k ([] : List Int) = yss.take 0 ++ (List.replicate k []).drop 0 by simp] at hcol
  go_loopw [13] (fun i wr => ∃ (j : Nat) (us : List Value), j ≤ k ∧ i = .int .i64 j ∧ Grid wr w.heap.size wr.heap.size 3 61 (some ⟨w.heap.size, 0, none⟩) k k us (yss.take j ++ (List.replicate k []).drop j) ∧ Below w.heap.size w wr) (fun i _ => k - (intOf i).toNat)
  case atStart => exact ⟨0, _, Nat.zero_le _, rfl, hcol, hb1⟩
  case round =>
    obtain ⟨j, us, hj, rfl, hr, hb⟩ := hrel
    by_cases hlt : j < k
    · go_wp2_with fail
      go_at_call 76
      refine (VecI.unit _ (k : Int) (j : Int) (by omega) (by omega) (by omega) (by omega)).mono ?_
      rintro e w2 ⟨ad3, n3, cap3, rfl, r3, b3⟩
      have z3 := b3.size
      have zb := hb.size
      have hgz := (hr.out.pos (by omega))
      have hold := fun (i b : Nat) (v : Value) (hv : us[i]? = some v) (hb : blockOf v = some b) => (hr.block hv hb).2.2
      replace hr := (hr.below b3 (.inr (Nat.le_refl _))).mono z3
      have hnew := fun (b : Nat) (hb : blockOf (.slice ad3 n3 cap3) = some b) => ((OwnInts.of r3).block hb).1
      have hput := hr.put hlt ((OwnInts.of r3).lo zb) (fun b hb => by
        obtain ⟨g, e1, _, e2⟩ := hgz
        obtain rfl := (Addr.mk.inj (Option.some.inj e1)).1
        have := hnew b hb
        omega) (fun i v b _ hv hb hb' => by
        have h1 := hold i b v hv hb
        have h2 := hnew b hb'
        omega)
      rw [over2 (n := k) (by simp) hyl hlt (hyg j hlt)] at hput
      obtain ⟨u0, _, hc0, hf0⟩ := hr.out.there hlt
      have HP := Lib.hid hput
      have hb2 := Lib.hid (hb.trans (b3.mono zb))
      clear hput hr hold hnew b3 r3
      go_wp2
      go_roundw
      case rel => exact ⟨j + 1, _, by omega, by go_num, HP.out.1.lt, hb2.out.trans (HP.out.2.below (Nat.le_refl _) hb2.out.size)⟩
      case measure => simp [intOf]; omega
    · obtain rfl : j = k := by omega
      rw [List.take_of_length_le (Nat.le_of_eq hyl), List.drop_eq_nil_of_le (by simp), List.append_nil] at hr
      have HG := Lib.hid hr
      clear hr
      go_wp2
      go_ret
      exact ⟨_, _, _, _, rfl, HG.out, hb⟩

set_option maxRecDepth 100000 in
theorem mapTranspose (w : World) {l h : Nat} {ad : Option Addr} {n cap : Nat} {m : List (List Int)} (s : Sls w l h ad n cap m) (hn : n ≤ 1048576) (p : Value) (f : List Int → Int)
    (H : ∀ (w' : World) (ad3 : Option Addr) (n3 cap3 : Nat) (xs : List Int), Below w.heap.size w w' → xs ∈ m → Sl w' l h .i64 ad3 n3 cap3 xs → Fits .i64 (f xs) ∧ Calls Tryz.prog 119 #[.slice ad3 n3 cap3, p] w' (SaysI (f xs) w')) :
    Calls Tryz.prog 73 #[.slice ad n cap, .func (.func 119) #[] #[p]] w (Gives .i64 3 (m.map f) w) := by
  have hcap := s.le
  have hyl : (m.map f).length = n := by rw [List.length_map]; exact s.len
  have hyg : ∀ (j : Nat) (xs : List Int), m[j]? = some xs → (m.map f)[j]? = some (f xs) := fun j xs hj => by simp [hj]
  generalize m.map f = ys at *
  go_enter Tryz.func73, Tryz.ntmps73
  go_wp2_with (at_make; refine wpList_mk (n := n) Tryz.underlying77 info_int (fits_i64.2 (by omega)) (by unfold maxLen; omega) (by omega) rfl _ _ rfl rfl rfl ?_; intro w1 hr1 hb1)
  rw [show List.replicate n (0 : Int) = ys.take 0 ++ (List.replicate n 0).drop 0 by simp] at hr1
  go_loopw [13] (fun i wr => ∃ (j : Nat), j ≤ n ∧ i = .int .i64 j ∧ Row wr w.heap.size wr.heap.size .i64 3 (some ⟨w.heap.size, 0, none⟩) n n (ys.take j ++ (List.replicate n 0).drop j) ∧ Below w.heap.size w wr) (fun i _ => n - (intOf i).toNat)
  case atStart => exact ⟨0, Nat.zero_le _, rfl, hr1, hb1⟩
  case round =>
    obtain ⟨j, hj, rfl, hr, hb⟩ := hrel
    by_cases hlt : j < n
    · obtain ⟨a, ad2, n2, cap2, xs, rfl, hx, hc⟩ := (s.below hb (.inr (Nat.le_refl _))).at_ hlt
      obtain ⟨hf, hcall⟩ := H wr ad2 n2 cap2 xs hb (List.mem_of_getElem? hx.get) hx.sl
      have HO := Lib.hid (over_z (n := n) (xs := List.replicate n 0) (by simp) hyl hlt (hyg j xs hx.get))
      have HC := Lib.hid hcall
      generalize f xs = y at *
      clear hcall hx
      go_wp2_with fail
      go_at_call 119
      refine HC.out.mono ?_
      rintro e w2 ⟨rfl, b3⟩
      have z3 := b3.size
      have zb := hb.size
      replace hr := (hr.below b3 (.inr (Nat.le_refl _))).mono z3
      obtain ⟨y0, _, _, hc0, hf0⟩ := hr.there hlt
      have hput := hr.set hlt hf
      rw [HO.out] at hput
      have HP := Lib.hid hput
      have hb2 := Lib.hid (hb.trans (b3.mono zb))
      clear hput hr b3
      go_wp2
      go_roundw
      case rel => exact ⟨j + 1, by omega, by go_num, HP.out.1.lt, hb2.out.trans (HP.out.2.below (Nat.le_refl _) hb2.out.size)⟩
      case measure => simp [intOf]; omega
    · obtain rfl : j = n := by omega
      rw [List.take_of_length_le (Nat.le_of_eq hyl), List.drop_eq_nil_of_le (by simp), List.append_nil] at hr
      have HG := Lib.hid hr
      clear hr
      go_wp2
      go_ret
      exact ⟨_, _, _, rfl, HG.out, hb⟩


end Go.Proofs.YtefcfeikooknmaaGreat.MatI
namespace Go.Proofs.YtefcfeikooknmaaGreat.MatI
open Go.ChangeShapes Go.WideShapes Go.ChangeAt Go.RowKit
open Go.Proofs.YtefcfeikooknmaaGreat.Seq Go.Proofs.YtefcfeikooknmaaGreat.Help Go.Proofs.YtefcfeikooknmaaGreat.Field Go.Proofs.YtefcfeikooknmaaGreat.FieldW Go.Proofs.YtefcfeikooknmaaGreat.Vec Go.Proofs.YtefcfeikooknmaaGreat.VecW Go.Proofs.YtefcfeikooknmaaGreat.VecOps Go.Proofs.YtefcfeikooknmaaGreat.Mat Go.Proofs.YtefcfeikooknmaaGreat.MatW Go.Proofs.YtefcfeikooknmaaGreat.MatOps



set_option maxRecDepth 100000 in
theorem eqFunc (w : World) {l h l2 h2 : Nat} {ad ad2 : Option Addr} {n cap n2 cap2 : Nat} {a b : List (List Int)} (s : Sls w l h ad n cap a) (hn : n ≤ 1099511627776) (ha : Short a) (s2 : Sls w l2 h2 ad2 n2 cap2 b) (hb2 : Short b) :
    Calls Tryz.prog 59 #[.slice ad n cap, .slice ad2 n2 cap2, .func (.func 60) #[] #[]] w (SaysB (sameM a b) w) := by
  have hbig := s.big
  have hcap := s.le
  have hbig2 := s2.big
  have hcap2 := s2.le
  unfold maxLen at hbig hbig2
  have HA := Lib.hid ha
  have HB := Lib.hid hb2
  clear ha hb2
  by_cases hnn : n = n2
  case neg =>
    have HE := Lib.hid (show sameM a b = false from decide_eq_false fun e => hnn (by rw [← s.len, ← s2.len, e]))
    have hn1 : ((n : Int) == n2) = false := by simp; omega
    have hn2 : ((n : Int) != n2) = true := by simp; omega
    rw [HE.out]
    go_enter Tryz.func59, Tryz.ntmps59
    go_wp2
    go_ret
    exact ⟨rfl, Below.refl _ _⟩
  subst hnn
  have HL := Lib.hid s.len
  have HL2 := Lib.hid s2.len
  go_enter Tryz.func59, Tryz.ntmps59
  go_wp2
  go_loopw [17] (fun i wr => ∃ j : Nat, j ≤ n ∧ i = .int .i64 j ∧ Hid (a.take j = b.take j) ∧ Below w.heap.size w wr) (fun i _ => n - (intOf i).toNat)
  case atStart => exact ⟨0, Nat.zero_le _, rfl, by simp [Hid], Below.refl _ _⟩
  case round =>
    obtain ⟨j, hj, rfl, HT, hw⟩ := hrel
    have zw := hw.size
    by_cases hlt : j < n
    · obtain ⟨a1, ad3, n3, cap3, x, rfl, hx, hc⟩ := (s.below hw (.inr (Nat.le_refl _))).at_ hlt
      obtain ⟨a2, ad4, n4, cap4, y, rfl, hy, hc2⟩ := (s2.below hw (.inr (Nat.le_refl _))).at_ hlt
      have hn3 : n3 ≤ 17592186044416 := by rw [← hx.sl.len]; exact HA.out _ (List.mem_of_getElem? hx.get)
      have hn4 : n4 ≤ 17592186044416 := by rw [← hy.sl.len]; exact HB.out _ (List.mem_of_getElem? hy.get)
      have hle3 := hx.sl.le
      have hbg3 := hx.sl.big
      have hle4 := hy.sl.le
      have hbg4 := hy.sl.big
      unfold maxLen at hbg3 hbg4
      have KQ := Lib.hid (VecI.eqV wr hx.sl hn3 hy.sl hn4)
      cases hxy : Eq.same x y
      · have HE := Lib.hid (rows_no hx.get hy.get hxy)
        rw [hxy] at KQ
        clear hx hy
        rw [HE.out]
        go_wp2_with fail
        go_at_call 60
        refine KQ.out.mono ?_
        rintro e w2 ⟨rfl, b2⟩
        have HB2 := Lib.hid (hw.trans (b2.mono zw))
        clear b2
        go_wp2
        go_ret
        exact ⟨rfl, HB2.out⟩
      · obtain rfl := same_iff.1 hxy
        rw [hxy] at KQ
        have HS := Lib.hid (steps HT.out hx.get hy.get)
        clear hx hy hxy
        go_wp2_with fail
        go_at_call 60
        refine KQ.out.mono ?_
        rintro e w2 ⟨rfl, b2⟩
        have HB2 := Lib.hid (hw.trans (b2.mono zw))
        clear b2
        go_wp2
        go_roundw
        case rel => exact ⟨j + 1, by omega, by go_num, HS.out, HB2.out⟩
        case measure => simp [intOf]; omega
    · obtain rfl : j = n := by omega
      have HE := Lib.hid (show sameM a b = true from decide_eq_true (by have := HT.out; rwa [List.take_of_length_le (Nat.le_of_eq HL.out), List.take_of_length_le (Nat.le_of_eq HL2.out)] at this))
      go_wp2
      go_ret
      exact ⟨by rw [HE.out]; rfl, hw⟩
theorem eqM : EqMOp := fun w l h l2 h2 ad ad2 n cap n2 cap2 a b s hn ha s2 _ hb => by
  have H := Lib.hid (eqFunc w s hn ha s2 hb)
  generalize sameM a b = r at *
  go_enter Tryz.func34, Tryz.ntmps34
  go_wp2_with fail
  go_at_call 59
  refine H.out.mono ?_
  rintro e w' ⟨rfl, bl⟩
  go_wp2
  go_ret
  exact ⟨rfl, bl⟩
end Go.Proofs.YtefcfeikooknmaaGreat.MatI
namespace Go.Proofs.YtefcfeikooknmaaGreat.MatI
open Go.ChangeShapes Go.WideShapes Go.ChangeAt Go.RowKit
open Go.Proofs.YtefcfeikooknmaaGreat.Seq Go.Proofs.YtefcfeikooknmaaGreat.Help Go.Proofs.YtefcfeikooknmaaGreat.Field Go.Proofs.YtefcfeikooknmaaGreat.FieldW Go.Proofs.YtefcfeikooknmaaGreat.Vec Go.Proofs.YtefcfeikooknmaaGreat.VecW Go.Proofs.YtefcfeikooknmaaGreat.VecOps Go.Proofs.YtefcfeikooknmaaGreat.Mat Go.Proofs.YtefcfeikooknmaaGreat.MatW Go.Proofs.YtefcfeikooknmaaGreat.MatOps

/-- A row's product by Combine. -/
theorem combine_rowMul {b : List (List Int)} {xs : List Int} (hl : b.length = xs.length) (hv : Vec.isVec xs = true) : combine b xs = rowMul xs b := by
  cases b with
  | nil => 
    obtain rfl : xs = [] := List.eq_nil_of_length_eq_zero (by simpa using hl.symm)
    rfl
  | cons y r => exact VecI.combine_combs (xs := y) rfl hl hv



theorem clTrans (w : World) (g k : Nat) {l h : Nat} {ad : Option Addr} {n cap : Nat} {xs : List Int} {y : Int} (s : Sl w l h .i64 ad n cap xs) (hy : xs[k]? = some y) (hc : w.cell? ⟨g, 0, none⟩ = some (.int .i64 k)) :
    Calls Tryz.prog 119 #[.slice ad n cap, .pointer (some ⟨g, 0, none⟩)] w (SaysI y w) := by
  have hlt : k < n := by rw [← s.len]; exact (List.getElem?_eq_some_iff.1 hy).1
  obtain ⟨a, x, rfl, hx, hcx⟩ := s.at_ hlt
  obtain rfl : y = x := Option.some.inj (hy.symm.trans hx.get)
  have hle := s.le
  have hbg := s.big
  unfold maxLen at hbg
  clear hx hy
  go_enter Tryz.func119, Tryz.ntmps119
  go_wp2
  go_ret
  exact ⟨rfl, Below.refl _ _⟩
set_option maxRecDepth 100000 in
set_option maxHeartbeats 800000 in
theorem transpose : TransOp := fun w l h ad n cap m s hn hsh => by
  have hL := Lib.hid s.len
  have K1 := isMat_is w s
  have K2 := cols_is w s
  cases hm : Mat.isMat m
  · rw [hm] at K1
    have HE := Lib.hid (transpose_no hm)
    have K1 := Lib.hid K1
    clear hm K2
    rw [HE.out]
    go_enter Tryz.func96, Tryz.ntmps96
    go_wp2_with fail
    go_at_call 71
    refine K1.out.mono ?_
    rintro e w' ⟨rfl, rfl⟩
    go_wp2
    go_ret
    exact ⟨_, _, _, _, rfl, Grid.nil _ _ _ _ _ _, (Below.refl _ _).alloc (Nat.le_refl _) _⟩
  rw [hm] at K1
  have hm40 := (isMat_iff.1 hm).2
  rw [hL.out] at hm40
  have hc40 := colsOf_le hm
  have HT := Lib.hid (transpose_ok hm)
  have HM := Lib.hid hm
  have K1 := Lib.hid K1
  obtain ⟨c, hcc⟩ : ∃ c, c = colsOf m := ⟨_, rfl⟩
  rw [HT.out, ← hcc]
  rw [← hcc] at K2 hc40
  have HCC := Lib.hid hcc
  have hyl : ((List.range c).map (column m)).length = c := by simp
  have hyg : ∀ j, j < c → ((List.range c).map (column m))[j]? = some (column m j) := fun j hj => by simp [hj]
  generalize (List.range c).map (column m) = yss at *
  have K2 := Lib.hid K2
  clear hm hcc
  go_enter Tryz.func96, Tryz.ntmps96
  go_wp2_with fail
  go_at_call 71
  refine K1.out.mono ?_
  rintro e w' ⟨rfl, rfl⟩
  go_wp2_with fail
  go_at_call 58
  refine K2.out.mono ?_
  rintro e w' ⟨rfl, rfl⟩
  go_wp2_with (at_make; refine wpList_mkV (n := c) Tryz.underlying24 info_ints rfl rfl (by unfold maxLen; omega) (by omega) rfl _ _ rfl rfl rfl ?_; intro w1 hr1 hb1)
  have hcol := Grid.made (e := 3) hr1
  rw [show List.replicate c ([] : List Int) = yss.take 0 ++ (List.replicate c []).drop 0 by simp] at hcol
  go_loopw [14] (fun i wr => ∃ (j : Nat) (us : List Value), j ≤ c ∧ i = .int .i64 j ∧ Grid wr w.heap.size wr.heap.size 3 61 (some ⟨w.heap.size, 0, none⟩) c c us (yss.take j ++ (List.replicate c []).drop j) ∧ Below w.heap.size w wr) (fun i _ => c - (intOf i).toNat)
  case atStart => exact ⟨0, _, Nat.zero_le _, rfl, hcol, hb1⟩
  case round =>
    obtain ⟨j, us, hj, rfl, hr, hb⟩ := hrel
    have zb := hb.size
    by_cases hlt : j < c
    · have hcA : (wr.alloc (.cells #[.int .i64 j] 3)).cell? ⟨wr.heap.size, 0, none⟩ = some (.int .i64 j) := by rw [World.cell?_alloc_new]; rfl
      have hbA : Below w.heap.size w (wr.alloc (.cells #[.int .i64 j] 3)) := hb.alloc zb _
      have hzA : (wr.alloc (.cells #[.int .i64 j] 3)).heap.size = wr.heap.size + 1 := by simp
      have hrA := (hr.alloc (.cells #[.int .i64 j] 3)).mono (h' := wr.heap.size + 1) (by omega)
      have HY := Lib.hid (hyg j hlt)
      have hzlt : w.heap.size < wr.heap.size := by
        obtain ⟨g, e1, _, e2⟩ := hr.out.pos (by omega)
        obtain rfl := (Addr.mk.inj (Option.some.inj e1)).1
        exact e2
      go_wp2
      generalize wr.alloc (.cells #[.int .i64 j] 3) = W at *
      have sW := s.below hbA (.inr (Nat.le_refl _))
      have hcD : W.drew.cell? ⟨wr.heap.size, 0, none⟩ = some (.int .i64 j) := hcA
      have hbD : Below w.heap.size w W.drew := hbA.drew
      have hrD : Grid W.drew w.heap.size (wr.heap.size + 1) 3 61 (some ⟨w.heap.size, 0, none⟩) c c us (yss.take j ++ (List.replicate c []).drop j) := hrA.drewN 1
      have hzD : W.drew.heap.size = wr.heap.size + 1 := hzA
      have KM := Lib.hid (mapTranspose W.drew (sW.drewN 1) (by omega) (.pointer (some ⟨wr.heap.size, 0, none⟩)) (fun xs => xs[j]?.getD 0)
        (fun w' ad3 n3 cap3 xs hb hx sx => by
          obtain ⟨h1, h2⟩ := (isMat_iff.1 HM.out).1 xs hx
          have h3 : j < xs.length := by rw [h2, ← HCC.out]; exact hlt
          have hy : xs[j]? = some xs[j] := List.getElem?_eq_getElem h3
          have hin := vec_el h1 hy
          simp only [hy, Option.getD_some]
          exact ⟨fits_i64.2 (by omega), clTrans w' wr.heap.size j sx hy ((hb.cell (by show wr.heap.size < W.drew.heap.size; omega)).trans hcD)⟩))
      have hcol : (m.map fun xs => xs[j]?.getD 0) = column m j := rfl
      rw [hcol] at KM
      clear hcol hrA sW hbA hcA hr hb
      have hgz := (hrD.out.pos (by omega))
      have hold := fun (i b : Nat) (v : Value) (hv : us[i]? = some v) (hb : blockOf v = some b) => (hrD.block hv hb).2.2
      have HD := Lib.hid (And.intro hrD hold)
      clear hrD hold
      go_region_held3 (fun w' => w'.cell? ⟨wr.heap.size, 0, none⟩ = some (.int .i64 j))
        (first | exact hcD | exact hc2 | exact hc3)
        (first | (go_at_call 73; refine KM.out.mono ?_; rintro e w2 ⟨ad3, n3, cap3, rfl, r3, b3⟩; have hc2 : w2.cell? ⟨wr.heap.size, 0, none⟩ = some (.int .i64 j) := (b3.cell (by show wr.heap.size < W.drew.heap.size; omega)).trans hcD; have hc3 : (w2.setCell ⟨w.heap.size, j, none⟩ (.slice ad3 n3 cap3)).cell? ⟨wr.heap.size, 0, none⟩ = some (.int .i64 j) := (World.cell?_setCell_far _ _ _ _ (by show w.heap.size ≠ wr.heap.size; omega)).trans hc2; obtain ⟨u0, _, hc0, hf0⟩ := (HD.out.1.below b3 (.inr (Nat.le_refl _))).out.there hlt))
      have z3 := b3.size
      have hr2 := (HD.out.1.below b3 (.inr (Nat.le_refl _))).mono (h' := w2.heap.size) (by omega)
      have hnew := fun (b : Nat) (hb : blockOf (.slice ad3 n3 cap3) = some b) => ((OwnInts.of r3).block hb).1
      have hput := hr2.put hlt ((OwnInts.of r3).lo (by omega)) (fun b hb => by
        obtain ⟨g, e1, _, e2⟩ := hgz
        obtain rfl := (Addr.mk.inj (Option.some.inj e1)).1
        have := hnew b hb
        omega) (fun i v b _ hv hb hb' => by
        have h1 := HD.out.2 i b v hv hb
        have h2 := hnew b hb'
        omega)
      rw [over2 (n := c) (by simp) hyl hlt HY.out] at hput
      have HP := Lib.hid hput
      have hb2 := Lib.hid (hbD.trans (b3.mono (by omega)))
      clear hput hr2 HD hnew b3 r3 KM
      go_wp2
      go_roundw
      case rel => exact ⟨j + 1, _, by omega, by go_num, HP.out.1.lt, hb2.out.trans (HP.out.2.below (Nat.le_refl _) hb2.out.size)⟩
      case measure => simp [intOf]; omega
    · obtain rfl : j = c := by omega
      rw [List.take_of_length_le (Nat.le_of_eq hyl), List.drop_eq_nil_of_le (by simp), List.append_nil] at hr
      have HG := Lib.hid hr
      clear hr
      go_wp2
      go_ret
      exact ⟨_, _, _, _, rfl, HG.out, hb⟩
end Go.Proofs.YtefcfeikooknmaaGreat.MatI
