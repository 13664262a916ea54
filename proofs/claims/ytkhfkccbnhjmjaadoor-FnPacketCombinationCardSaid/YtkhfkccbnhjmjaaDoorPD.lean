/-
  Matrices, of the model: what its functions answer.
  Matrices, of the model: products, transposed matrices, Vandermonde's matrices.
  Matrices, of the model: equality and products.
  What the laws on matrices ask of the program's functions; the answers of chapter 6 are small.
  Linear algebra over the field of 1019 elements, by functions from the numbers: sums, what vectors span, independence and exchange, reduced rows (determined by what they span), elimination, null vectors and orthogonality, polynomials and rows of powers, dimensions of sum and intersection. No program.
  Matrices as functions of their row and column: what transposing twice, the identity and products give. No program.
-/
import Derived.Test.YtkhfkccbnhjmjaaDoorPC
import Derived.Test.YtkhfkccbnhjmjaaDoorPB
import Derived.StillTailTactics
namespace Go.Proofs.YtkhfkccbnhjmjaaDoor.MatW
open Go.ChangeShapes Go.WideShapes Go.ChangeAt Go.RowKit
open Go.Proofs.YtkhfkccbnhjmjaaDoor.Seq Go.Proofs.YtkhfkccbnhjmjaaDoor.Help Go.Proofs.YtkhfkccbnhjmjaaDoor.Field Go.Proofs.YtkhfkccbnhjmjaaDoor.FieldW Go.Proofs.YtkhfkccbnhjmjaaDoor.Vec Go.Proofs.YtkhfkccbnhjmjaaDoor.VecW Go.Proofs.YtkhfkccbnhjmjaaDoor.Mat

/-- An answer; the world has drawn alone. -/
def Quiet (v : Value) (w : World) (e : Ending) (w' : World) : Prop := e = .returned v ∧ ∃ q, w' = w.drewN q

theorem spec_cols (w : World) {l h : Nat} {ad : Option Addr} {n cap : Nat} {m : List (List Int)} (s : Sls w l h ad n cap m) :
    Calls Tryd.prog 44 #[.slice ad n cap] w (Is (colsOf m) w) := by
  have hbig := s.big
  have hcap := s.le
  unfold maxLen at hbig
  by_cases hn0 : n = 0
  · subst hn0
    have hx0 : m = [] := List.eq_nil_of_length_eq_zero s.len
    subst hx0
    go_enter Tryd.func44, Tryd.ntmps44
    go_wp2
    go_ret
    exact ⟨rfl, rfl⟩
  · have hn00 : ((n : Int) == 0) = false := by simp; omega
    obtain ⟨a, ad0, n0, cap0, x0, rfl, hx0, hc0⟩ := s.at_ (j := 0) (by omega)
    rw [add_0] at hc0
    have H0 := Lib.hid ((colsOf_get hx0.get).trans hx0.sl.len)
    clear hx0
    rw [H0.out]
    go_enter Tryd.func44, Tryd.ntmps44
    go_wp2
    go_ret
    exact ⟨rfl, rfl⟩
set_option maxRecDepth 100000 in
theorem spec_isMat (w : World) {l h : Nat} {ad : Option Addr} {n cap : Nat} {m : List (List Int)} (s : Sls w l h ad n cap m) :
    Calls Tryd.prog 43 #[.slice ad n cap] w (Quiet (.bool (isMat m)) w) := by
  have hbig := s.big
  have hcap := s.le
  unfold maxLen at hbig
  have HL := Lib.hid s.len
  go_enter Tryd.func43, Tryd.ntmps43
  go_wp2
  go_loopw [3] (fun i wr => ∃ (j q : Nat), j ≤ n ∧ i = .int .i64 j ∧ Hid (∀ y ∈ m.take j, (isVec y && (y.length == colsOf m)) = true) ∧ wr = w.drewN q) (fun i _ => n - (intOf i).toNat)
  case atStart => exact ⟨0, 0, Nat.zero_le _, rfl, fun y hy => by simp at hy, rfl⟩
  case round =>
    obtain ⟨j, q, hj, rfl, HOK, hq⟩ := hrel
    have t := hq ▸ s.drewN q
    have HQ := Lib.hid hq
    clear hq
    by_cases hlt : j < n
    · obtain ⟨a, ad0, n0, cap0, x0, rfl, hx0, hc0⟩ := t.at_ (j := 0) (by omega)
      obtain ⟨a1, ad3, n3, cap3, xs, e1, hx, hc⟩ := t.at_ hlt
      obtain rfl := Option.some.inj e1
      rw [add_0] at hc0
      have hle3 := hx.sl.le
      have hbg3 := hx.sl.big
      have hle0 := hx0.sl.le
      have hbg0 := hx0.sl.big
      unfold maxLen at hbg3 hbg0
      have H0 := Lib.hid hx0.get
      have HX := Lib.hid hx.get
      have L0 := Lib.hid hx0.sl.len
      have L3 := Lib.hid hx.sl.len
      have hV := fun r => spec_isVec (wr.drewN r) (hx.sl.drewN r)
      clear hx hx0 t e1
      cases hvx : isVec xs
      · have hV' : ∀ r, Calls Tryd.prog 11 #[.slice ad3 n3 cap3] (wr.drewN r) fun e w' => e = .returned (.bool false) ∧ w' = wr.drewN r := fun r => (hV r).mono fun _ _ h => ⟨by rw [h.1, hvx], h.2.symm⟩
        have HE := Lib.hid (isMat_row H0.out HX.out (by rw [hvx]; rfl))
        have HV' := Lib.hid hV'
        clear hV hV' hvx
        go_wp2
        go_quiet (exact Calls.quiet_of_same (HV'.out _))
        go_wp2
        go_ret
        rw [HE.out]
        exact ⟨rfl, _, by rw [HQ.out, World.drewN_drewN]⟩
      · have hV' : ∀ r, Calls Tryd.prog 11 #[.slice ad3 n3 cap3] (wr.drewN r) fun e w' => e = .returned (.bool true) ∧ w' = wr.drewN r := fun r => (hV r).mono fun _ _ h => ⟨by rw [h.1, hvx], h.2.symm⟩
        have HV' := Lib.hid hV'
        by_cases hl3 : n3 = n0
        case neg =>
          have HE := Lib.hid (isMat_row H0.out HX.out (by rw [L3.out, L0.out, hvx]; simpa using hl3))
          have hl4 : ((n3 : Int) == n0) = false := by simp; omega
          have hl5 : ((n3 : Int) != n0) = true := by simp; omega
          clear hV hV' hvx hl3
          go_wp2
          go_quiet (exact Calls.quiet_of_same (HV'.out _))
          go_wp2
          go_ret
          rw [HE.out]
          exact ⟨rfl, _, by rw [HQ.out, World.drewN_drewN]⟩
        subst hl3
        have HMore := Lib.hid (rows_more HX.out HOK.out (by rw [L3.out, colsOf_get H0.out, L0.out, hvx]; simp))
        clear hV hV' hvx
        go_wp2
        go_quiet (exact Calls.quiet_of_same (HV'.out _))
        go_wp2
        go_roundw
        case rel => exact ⟨j + 1, _, by omega, by go_num, HMore.out, by rw [HQ.out, World.drewN_drewN]⟩
        case measure => simp [intOf]; omega
    · obtain rfl : j = n := by omega
      have HE := Lib.hid (isMat_all HL.out rfl HOK.out)
      go_wp2
      go_ret
      exact ⟨by rw [HE.out]; rfl, q, HQ.out⟩
end Go.Proofs.YtkhfkccbnhjmjaaDoor.MatW
namespace Go.Proofs.YtkhfkccbnhjmjaaDoor.MatW
open Go.ChangeShapes Go.WideShapes Go.ChangeAt Go.RowKit
open Go.Proofs.YtkhfkccbnhjmjaaDoor.Seq Go.Proofs.YtkhfkccbnhjmjaaDoor.Help Go.Proofs.YtkhfkccbnhjmjaaDoor.Eq Go.Proofs.YtkhfkccbnhjmjaaDoor.Field Go.Proofs.YtkhfkccbnhjmjaaDoor.FieldW Go.Proofs.YtkhfkccbnhjmjaaDoor.Vec Go.Proofs.YtkhfkccbnhjmjaaDoor.VecW Go.Proofs.YtkhfkccbnhjmjaaDoor.Mat

end Go.Proofs.YtkhfkccbnhjmjaaDoor.MatW
namespace Go.Proofs.YtkhfkccbnhjmjaaDoor.MatW
open Go.ChangeShapes Go.WideShapes Go.ChangeAt Go.RowKit
open Go.Proofs.YtkhfkccbnhjmjaaDoor.Seq Go.Proofs.YtkhfkccbnhjmjaaDoor.Help Go.Proofs.YtkhfkccbnhjmjaaDoor.Eq Go.Proofs.YtkhfkccbnhjmjaaDoor.Field Go.Proofs.YtkhfkccbnhjmjaaDoor.FieldW Go.Proofs.YtkhfkccbnhjmjaaDoor.Vec Go.Proofs.YtkhfkccbnhjmjaaDoor.VecW Go.Proofs.YtkhfkccbnhjmjaaDoor.Mat

end Go.Proofs.YtkhfkccbnhjmjaaDoor.MatW
namespace Go.Proofs.YtkhfkccbnhjmjaaDoor.MatOps
open Go.ChangeShapes Go.WideShapes Go.ChangeAt Go.RowKit
open Go.Proofs.YtkhfkccbnhjmjaaDoor.Seq Go.Proofs.YtkhfkccbnhjmjaaDoor.Help Go.Proofs.YtkhfkccbnhjmjaaDoor.Field Go.Proofs.YtkhfkccbnhjmjaaDoor.FieldW Go.Proofs.YtkhfkccbnhjmjaaDoor.Vec Go.Proofs.YtkhfkccbnhjmjaaDoor.VecOps Go.Proofs.YtkhfkccbnhjmjaaDoor.Mat Go.Proofs.YtkhfkccbnhjmjaaDoor.MatW

end Go.Proofs.YtkhfkccbnhjmjaaDoor.MatOps
namespace Go.Proofs.YtkhfkccbnhjmjaaDoor.Lin
open Go.Proofs.YtkhfkccbnhjmjaaDoor.Vec (F)

/-! sums -/
def sum : Nat → (Nat → F) → F
  | 0, _ => 0
  | n + 1, f => sum n f + f n
theorem sum_congr {n : Nat} {f g : Nat → F} (h : ∀ i, i < n → f i = g i) : sum n f = sum n g := by
  induction n with
  | zero => rfl
  | succ n ih => rw [sum, sum, ih fun i hi => h i (by omega), h n (by omega)]
theorem sum_add (n : Nat) (f g : Nat → F) : sum n (fun i => f i + g i) = sum n f + sum n g := by
  induction n with
  | zero => simp [sum]
  | succ n ih => rw [sum, ih, sum, sum]; grind
theorem sum_mul (n : Nat) (c : F) (f : Nat → F) : sum n (fun i => c * f i) = c * sum n f := by
  induction n with
  | zero => show (0 : F) = c * 0; grind
  | succ n ih => rw [sum, ih, sum]; grind
theorem sum_zero {n : Nat} {f : Nat → F} (h : ∀ i, i < n → f i = 0) : sum n f = 0 := by
  induction n with
  | zero => rfl
  | succ n ih => rw [sum, ih fun i hi => h i (by omega), h n (by omega)]; rfl
theorem sum_comm (n m : Nat) (f : Nat → Nat → F) : sum n (fun i => sum m (fun j => f i j)) = sum m (fun j => sum n (fun i => f i j)) := by
  induction n with
  | zero => exact (sum_zero fun _ _ => rfl).symm
  | succ n ih => rw [sum, ih, ← sum_add]; rfl
theorem sum_one {n i : Nat} (hi : i < n) {f : Nat → F} (h : ∀ j, j < n → j ≠ i → f j = 0) : sum n f = f i := by
  induction n with
  | zero => omega
  | succ n ih =>
    rw [sum]
    by_cases e : i = n
    · subst e
      rw [sum_zero fun j hj => h j (by omega) (by omega)]; grind
    · rw [ih (by omega) fun j hj => h j (by omega), h n (by omega) (fun e' => e e'.symm)]; grind
/-- All indices but one. -/
def leap (i0 i : Nat) : Nat := if i < i0 then i else i + 1
theorem sum_leap {n i0 : Nat} (h : i0 ≤ n) (f : Nat → F) : sum (n + 1) f = sum n (fun i => f (leap i0 i)) + f i0 := by
  induction n with
  | zero =>
    obtain rfl : i0 = 0 := by omega
    rfl
  | succ n ih =>
    by_cases e : i0 = n + 1
    · subst e
      rw [sum]
      congr 1
      exact sum_congr fun i hi => by rw [leap, if_pos hi]
    · rw [sum, ih (by omega), sum]
      rw [show leap i0 n = n + 1 by rw [leap, if_neg (by omega)]]
      grind

abbrev V := Nat → F
def lin (n : Nat) (S : Nat → V) (c : Nat → F) : V := fun j => sum n (fun i => c i * S i j)
def Span (n : Nat) (S : Nat → V) (v : V) : Prop := ∃ c, v = lin n S c
def Indep (n : Nat) (S : Nat → V) : Prop := ∀ c, (∀ j, lin n S c j = 0) → ∀ i, i < n → c i = 0

theorem lin_add (n : Nat) (S : Nat → V) (c d : Nat → F) (j : Nat) : lin n S (fun i => c i + d i) j = lin n S c j + lin n S d j := by
  unfold lin; rw [← sum_add]; exact sum_congr fun i _ => by grind
theorem lin_mul (n : Nat) (S : Nat → V) (k : F) (c : Nat → F) (j : Nat) : lin n S (fun i => k * c i) j = k * lin n S c j := by
  unfold lin; rw [← sum_mul]; exact sum_congr fun i _ => by grind
theorem lin_congr {n : Nat} {S T : Nat → V} {c d : Nat → F} (h : ∀ i, i < n → c i = d i) (h2 : ∀ i, i < n → S i = T i) : lin n S c = lin n T d := by
  funext j; exact sum_congr fun i hi => by rw [h i hi, h2 i hi]
def ind (i : Nat) : Nat → F := fun k => if k = i then 1 else 0
theorem ind_same (i : Nat) : ind i i = 1 := if_pos rfl
theorem ind_ne {i k : Nat} (h : k ≠ i) : ind i k = 0 := if_neg h
theorem lin_ind {n : Nat} (S : Nat → V) {i : Nat} (hi : i < n) (j : Nat) : lin n S (ind i) j = S i j := by
  unfold lin
  rw [sum_one hi fun k _ hk => by rw [ind_ne hk]; grind, ind_same]; grind
theorem span_mem {n : Nat} {S : Nat → V} {i : Nat} (hi : i < n) : Span n S (S i) := by
  exact ⟨ind i, by funext j; rw [lin_ind S hi]⟩
theorem span_lin {n m : Nat} {S T : Nat → V} (h : ∀ i, i < m → Span n S (T i)) (c : Nat → F) : Span n S (lin m T c) := by
  have hch : ∀ i, ∃ d : Nat → F, i < m → T i = lin n S d := fun i => by
    by_cases hi : i < m
    · obtain ⟨d, hd⟩ := h i hi; exact ⟨d, fun _ => hd⟩
    · exact ⟨fun _ => 0, fun h => absurd h hi⟩
  obtain ⟨D, hD⟩ := Classical.axiomOfChoice hch
  refine ⟨fun k => sum m fun i => c i * D i k, ?_⟩
  funext j
  unfold lin
  rw [sum_congr (g := fun i => sum n fun k => c i * (D i k * S k j)) fun i hi => by
    rw [hD i hi, sum_mul]; rfl]
  rw [sum_comm]
  refine sum_congr fun k _ => ?_
  rw [show (sum m fun i => c i * D i k) * S k j = S k j * (sum m fun i => c i * D i k) by grind, ← sum_mul]
  exact sum_congr fun i _ => by grind
theorem span_trans {n m : Nat} {S T : Nat → V} {v : V} (h : ∀ i, i < m → Span n S (T i)) (hv : Span m T v) : Span n S v := by
  obtain ⟨c, rfl⟩ := hv; exact span_lin h c
theorem span_add {n : Nat} {S : Nat → V} {u v : V} (hu : Span n S u) (hv : Span n S v) (k : F) : Span n S (fun j => u j + k * v j) := by
  obtain ⟨c, rfl⟩ := hu
  obtain ⟨d, rfl⟩ := hv
  exact ⟨fun i => c i + k * d i, by funext j; rw [lin_add, lin_mul]⟩

/-- Coefficients for all indices out of those for all but one. -/
def fill (i0 : Nat) (a : F) (c : Nat → F) : Nat → F := fun k => if k = i0 then a else c (if k < i0 then k else k - 1)
theorem fill_same (i0 : Nat) (a : F) (c : Nat → F) : fill i0 a c i0 = a := if_pos rfl
theorem fill_leap (i0 : Nat) (a : F) (c : Nat → F) (i : Nat) : fill i0 a c (leap i0 i) = c i := by
  unfold fill leap
  by_cases h : i < i0
  · rw [if_pos h, if_neg (by omega), if_pos h]
  · rw [if_neg h, if_neg (by omega), if_neg (by omega)]; rfl

theorem exchange (inv : F → F) (hinv : ∀ x : F, x ≠ 0 → x * inv x = 1) (n : Nat) : ∀ (m : Nat) (S T : Nat → V), Indep m T → (∀ i, i < m → Span n S (T i)) → m ≤ n := by
  induction n with
  | zero =>
    intro m S T hT hs
    refine Nat.le_of_not_lt fun hm => ?_
    have h0 : ∀ j, lin m T (ind 0) j = 0 := fun j => by
      rw [lin_ind T hm]
      obtain ⟨c, hc⟩ := hs 0 hm
      rw [hc]
      rfl
    have := hT _ h0 0 hm
    rw [ind_same] at this
    exact absurd this (by decide)
  | succ n ih =>
    intro m S T hT hs
    have hch : ∀ i, ∃ d : Nat → F, i < m → T i = lin (n + 1) S d := fun i => by
      by_cases hi : i < m
      · obtain ⟨d, hd⟩ := hs i hi; exact ⟨d, fun _ => hd⟩
      · exact ⟨fun _ => 0, fun h => absurd h hi⟩
    obtain ⟨D, hD⟩ := Classical.axiomOfChoice hch
    by_cases hall : ∀ i, i < m → D i n = 0
    · refine Nat.le_succ_of_le (ih m S T hT fun i hi => ⟨D i, ?_⟩)
      rw [hD i hi]
      funext j
      show sum n (fun k => D i k * S k j) + D i n * S n j = _
      rw [hall i hi]; unfold lin; grind
    · obtain ⟨i0, hi0⟩ := Classical.not_forall.1 hall
      obtain ⟨hi0, ha⟩ := Classical.not_imp.1 hi0
      obtain ⟨m', rfl⟩ : ∃ m', m = m' + 1 := ⟨m - 1, by omega⟩
      have hai := hinv _ ha
      have hsk : ∀ i, i < m' → leap i0 i < m' + 1 := fun i hi => by unfold leap; split <;> omega
      refine Nat.succ_le_succ (ih m' S (fun i j => T (leap i0 i) j + (0 - D (leap i0 i) n * inv (D i0 n)) * T i0 j) ?_ ?_)
      · intro c hc i hi
        have key := hT (fill i0 (0 - sum m' fun i => c i * (D (leap i0 i) n * inv (D i0 n))) c) (fun j => by
          unfold lin
          rw [sum_leap (i0 := i0) (by omega), fill_same, sum_congr (g := fun i => c i * T (leap i0 i) j) fun i _ => by rw [fill_leap]]
          have h1 : sum m' (fun i => c i * (T (leap i0 i) j + (0 - D (leap i0 i) n * inv (D i0 n)) * T i0 j)) = 0 := hc j
          have e2 : sum m' (fun i => c i * (T (leap i0 i) j + (0 - D (leap i0 i) n * inv (D i0 n)) * T i0 j)) = sum m' (fun i => c i * T (leap i0 i) j) + sum m' (fun i => (0 - T i0 j) * (c i * (D (leap i0 i) n * inv (D i0 n)))) := by
            rw [← sum_add]; exact sum_congr fun i _ => by grind
          rw [e2, sum_mul] at h1
          grind) (leap i0 i) (hsk i hi)
        rw [fill_leap] at key
        exact key
      · intro i hi
        refine ⟨fun k => D (leap i0 i) k + (0 - D (leap i0 i) n * inv (D i0 n)) * D i0 k, ?_⟩
        funext j
        show T (leap i0 i) j + _ * T i0 j = _
        rw [lin_add, lin_mul, hD _ (hsk i hi), hD _ hi0]
        show (sum n (fun k => D (leap i0 i) k * S k j) + D (leap i0 i) n * S n j) + (0 - D (leap i0 i) n * inv (D i0 n)) * (sum n (fun k => D i0 k * S k j) + D i0 n * S n j) = _
        unfold lin
        grind


/-- Rows in reduced form: each has a 1 at its pivot, the others have 0 there, nothing stands ahead of it; pivots increase. -/
structure Red (n w : Nat) (R : Nat → V) (p : Nat → Nat) : Prop where
  lt : ∀ i, i < n → p i < w
  up : ∀ i k, i < k → k < n → p i < p k
  one : ∀ i, i < n → R i (p i) = 1
  zero : ∀ i k, i < n → k < n → k ≠ i → R i (p k) = 0
  ahead : ∀ i j, i < n → j < p i → R i j = 0

section
variable {n w n' w' : Nat} {R R' : Nat → V} {p p' : Nat → Nat}
theorem Red.at_ (h : Red n w R p) (c : Nat → F) {i : Nat} (hi : i < n) : lin n R c (p i) = c i := by
  unfold lin
  rw [sum_one hi fun k hk hne => by rw [h.zero k i hk hi (fun e => hne e.symm)]; grind, h.one i hi]; grind
theorem Red.indep (h : Red n w R p) : Indep n R := fun c hc i hi => by rw [← h.at_ c hi]; exact hc _
theorem Red.coeffs (h : Red n w R p) {v : V} (hv : Span n R v) : v = lin n R (fun i => v (p i)) := by
  obtain ⟨c, rfl⟩ := hv
  exact lin_congr (fun i hi => (h.at_ c hi).symm) fun _ _ => rfl
/-- What is in the span and has 0 at all pivots is 0. -/
theorem Red.none (h : Red n w R p) {v : V} (hv : Span n R v) (h0 : ∀ i, i < n → v (p i) = 0) (j : Nat) : v j = 0 := by
  rw [h.coeffs hv]
  exact sum_zero fun i hi => by show v (p i) * R i j = 0; rw [h0 i hi]; grind
/-- The first place of a vector of the span that is not 0 is a pivot. -/
theorem Red.lead (h : Red n w R p) {v : V} (hv : Span n R v) {j : Nat} (hj : v j ≠ 0) (ha : ∀ k, k < j → v k = 0) : ∃ i, i < n ∧ p i = j := by
  have hex : ∃ i, i < n ∧ v (p i) ≠ 0 := Classical.byContradiction fun hn => hj (h.none hv (fun i hi => Classical.byContradiction fun hne => hn ⟨i, hi, hne⟩) j)
  -- the least such i
  obtain ⟨i, ⟨hi, hne⟩, hmin⟩ : ∃ i, (i < n ∧ v (p i) ≠ 0) ∧ ∀ k, (k < n ∧ v (p k) ≠ 0) → i ≤ k := by
    obtain ⟨i, hi⟩ := hex
    induction i using Nat.strongRecOn with
    | _ i ih =>
      by_cases hs : ∃ k, k < i ∧ (k < n ∧ v (p k) ≠ 0)
      · obtain ⟨k, hk, hk2⟩ := hs; exact ih k hk hk2
      · exact ⟨i, hi, fun k hk => Nat.le_of_not_lt fun hlt => hs ⟨k, hlt, hk⟩⟩
  refine ⟨i, hi, ?_⟩
  have h1 : ¬ p i < j := fun hlt => hne (ha _ hlt)
  have h2 : ¬ j < p i := fun hlt => by
    apply hj
    rw [h.coeffs hv]
    refine sum_zero fun k hk => ?_
    by_cases hki : k < i
    · have : v (p k) = 0 := Classical.byContradiction fun hne2 => absurd (hmin k ⟨hk, hne2⟩) (by omega)
      show v (p k) * R k j = 0
      rw [this]; grind
    · have hlt2 : j < p k := by
        rcases Nat.lt_or_eq_of_le (Nat.le_of_not_lt hki) with h3 | rfl
        · exact Nat.lt_trans hlt (h.up i k h3 hk)
        · exact hlt
      rw [h.ahead k j hk hlt2]; grind
  omega
theorem mono_le {n : Nat} {p : Nat → Nat} (h : ∀ i k, i < k → k < n → p i < p k) {i k : Nat} (hk : k < n) (hik : i ≤ k) : p i ≤ p k := by
  rcases Nat.lt_or_eq_of_le hik with h1 | rfl
  · exact Nat.le_of_lt (h i k h1 hk)
  · exact Nat.le_refl _
/-- Increasing sequences with one image are one. -/
theorem one_image {n : Nat} {p q : Nat → Nat} (hp : ∀ i k, i < k → k < n → p i < p k) (hq : ∀ i k, i < k → k < n → q i < q k)
    (h1 : ∀ i, i < n → ∃ k, k < n ∧ q k = p i) (h2 : ∀ i, i < n → ∃ k, k < n ∧ p k = q i) : ∀ i, i < n → p i = q i := by
  intro i
  induction i using Nat.strongRecOn with
  | _ i ih =>
    intro hi
    obtain ⟨k, hk, e⟩ := h1 i hi
    obtain ⟨m, hm, e2⟩ := h2 i hi
    have a1 : ¬ k < i := fun hlt => by
      have h3 := ih k hlt hk
      have h4 := hp k i hlt hi
      omega
    have a2 : ¬ m < i := fun hlt => by
      have h3 := ih m hlt hm
      have h4 := hq m i hlt hi
      omega
    have b1 := mono_le hq hk (Nat.le_of_not_lt a1)
    have b2 := mono_le hp hm (Nat.le_of_not_lt a2)
    omega
/-- Reduced rows are determined by what they span. -/
theorem Red.uniq (inv : F → F) (hinv : ∀ x : F, x ≠ 0 → x * inv x = 1) (h : Red n w R p) (h' : Red n' w' R' p') (h1 : ∀ i, i < n → Span n' R' (R i)) (h2 : ∀ i, i < n' → Span n R (R' i)) :
    n = n' ∧ (∀ i, i < n → p i = p' i) ∧ ∀ i, i < n → R i = R' i := by
  have e : n = n' := Nat.le_antisymm (exchange inv hinv n' n R' R h.indep h1) (exchange inv hinv n n' R R' h'.indep h2)
  subst e
  have hone : (1 : F) ≠ 0 := by decide
  have hp : ∀ i, i < n → p i = p' i := one_image h.up h'.up
    (fun i hi => h'.lead (h1 i hi) (by rw [h.one i hi]; exact hone) fun k hk => h.ahead i k hi hk)
    (fun i hi => h.lead (h2 i hi) (by rw [h'.one i hi]; exact hone) fun k hk => h'.ahead i k hi hk)
  refine ⟨rfl, hp, fun i hi => ?_⟩
  rw [h'.coeffs (h1 i hi)]
  funext j
  have : lin n R' (fun k => R i (p' k)) j = lin n R' (ind i) j := by
    refine congrFun (lin_congr (fun k hk => ?_) fun _ _ => rfl) j
    rw [← hp k hk]
    by_cases hki : k = i
    · subst hki; rw [h.one k hk, ind_same]
    · rw [h.zero i k hi hk hki, ind_ne hki]
  rw [this, lin_ind R' hi]
end

/-! elimination -/
section
variable {m w at_ k : Nat} {M : Nat → V} {p : Nat → Nat}
/-- What elimination has reached when the columns below k are done and at_ pivots are found. -/
structure Elim (m at_ k : Nat) (M : Nat → V) (p : Nat → Nat) : Prop where
  le : at_ ≤ m
  lt : ∀ i, i < at_ → p i < k
  up : ∀ i l, i < l → l < at_ → p i < p l
  one : ∀ i, i < at_ → M i (p i) = 1
  zero : ∀ i l, i < at_ → l < m → l ≠ i → M l (p i) = 0
  ahead : ∀ i j, i < at_ → j < p i → M i j = 0
  rest : ∀ l j, at_ ≤ l → l < m → j < k → M l j = 0
theorem Elim.start (m : Nat) (M : Nat → V) (p : Nat → Nat) : Elim m 0 0 M p :=
  ⟨Nat.zero_le _, fun _ h => by omega, fun _ _ _ h => by omega, fun _ h => by omega, fun _ _ h => by omega, fun _ _ h => by omega, fun _ _ _ _ h => by omega⟩
/-- A column without a pivot. -/
theorem Elim.none (h : Elim m at_ k M p) (h0 : ∀ l, at_ ≤ l → l < m → M l k = 0) : Elim m at_ (k + 1) M p :=
  ⟨h.le, fun i hi => Nat.lt_succ_of_lt (h.lt i hi), h.up, h.one, h.zero, h.ahead, fun l j h1 h2 h3 => by
    rcases Nat.lt_or_eq_of_le (Nat.le_of_lt_succ h3) with h4 | rfl
    · exact h.rest l j h1 h2 h4
    · exact h0 l h1 h2⟩
/-- The row that comes to the place of the pivot, before it is scaled: rows q and at_ are swapped. -/
def swapped (M : Nat → V) (a q : Nat) (l : Nat) : V := if l = a then M q else if l = q then M a else M l
/-- The step at a pivot: rows q and at_ are swapped, row at_ is scaled, and the others are cleared in column k. -/
def cleared (inv : F → F) (M : Nat → V) (a q k : Nat) (l : Nat) : V := fun j =>
  if l = a then M q j * inv (M q k) else swapped M a q l j + (M q j * inv (M q k)) * (0 - swapped M a q l k)
theorem swapped_q (M : Nat → V) {a q : Nat} (h : q ≠ a) : swapped M a q q = M a := by unfold swapped; rw [if_neg h, if_pos rfl]
theorem swapped_o (M : Nat → V) {a q l : Nat} (h : l ≠ a) (h2 : l ≠ q) : swapped M a q l = M l := by unfold swapped; rw [if_neg h, if_neg h2]
theorem cleared_a (inv : F → F) (M : Nat → V) (a q k j : Nat) : cleared inv M a q k a j = M q j * inv (M q k) := if_pos rfl
theorem cleared_o (inv : F → F) (M : Nat → V) {a l : Nat} (q k j : Nat) (h : l ≠ a) : cleared inv M a q k l j = swapped M a q l j + (M q j * inv (M q k)) * (0 - swapped M a q l k) := if_neg h
theorem swapped_cases (M : Nat → V) {a q l : Nat} (h : l ≠ a) (P : V → Prop) (h1 : P (M a)) (h2 : l ≠ q → P (M l)) : P (swapped M a q l) := by
  unfold swapped
  rw [if_neg h]
  by_cases e : l = q
  · rw [if_pos e]; exact h1
  · rw [if_neg e]; exact h2 e
/-- The pivots with one more. -/
def more (p : Nat → Nat) (a k : Nat) : Nat → Nat := fun i => if i = a then k else p i
theorem more_a (p : Nat → Nat) (a k : Nat) : more p a k a = k := if_pos rfl
theorem more_o (p : Nat → Nat) {a i : Nat} (k : Nat) (h : i ≠ a) : more p a k i = p i := if_neg h
theorem Elim.pivot (inv : F → F) (hinv : ∀ x : F, x ≠ 0 → x * inv x = 1) (h : Elim m at_ k M p) {q : Nat} (hq1 : at_ ≤ q) (hq2 : q < m) (hne : M q k ≠ 0) :
    Elim m (at_ + 1) (k + 1) (cleared inv M at_ q k) (more p at_ k) := by
  have hi := hinv _ hne
  have ham : at_ < m := by omega
  -- at an old pivot's column the swapped rows hold what they held
  have hsw : ∀ i l, i < at_ → l < m → l ≠ at_ → l ≠ i → swapped M at_ q l (p i) = 0 := fun i l h1 h2 h3 h4 =>
    swapped_cases M h3 (fun v => v (p i) = 0) (h.zero i at_ h1 ham (by omega)) (fun _ => h.zero i l h1 h2 h4)
  have hq0 : ∀ i, i < at_ → M q (p i) = 0 := fun i h1 => h.zero i q h1 hq2 (by omega)
  have hlow : ∀ i, i < at_ → swapped M at_ q i = M i := fun i h1 => swapped_o M (by omega) (by omega)
  refine ⟨by omega, ?_, ?_, ?_, ?_, ?_, ?_⟩
  · intro i h1
    by_cases e : i = at_
    · subst e; rw [more_a]; omega
    · rw [more_o p k e]; have := h.lt i (by omega); omega
  · intro i l h1 h2
    have e1 : i ≠ at_ := by omega
    rw [more_o p k e1]
    by_cases e : l = at_
    · subst e; rw [more_a]; exact h.lt i (by omega)
    · rw [more_o p k e]; exact h.up i l h1 (by omega)
  · intro i h1
    by_cases e : i = at_
    · subst e; rw [more_a, cleared_a]; exact hi
    · rw [more_o p k e, cleared_o inv M q k _ e, hlow i (by omega), hq0 i (by omega), h.one i (by omega)]; grind
  · intro i l h1 h2 h3
    by_cases e : i = at_
    · subst e
      rw [more_a, cleared_o inv M q k _ h3]
      grind
    · rw [more_o p k e]
      by_cases e2 : l = at_
      · subst e2; rw [cleared_a, hq0 i (by omega)]; grind
      · rw [cleared_o inv M q k _ e2, hq0 i (by omega), hsw i l (by omega) h2 e2 h3]; grind
  · intro i j h1 h2
    by_cases e : i = at_
    · subst e
      rw [more_a] at h2
      rw [cleared_a, h.rest q j hq1 hq2 h2]; grind
    · rw [more_o p k e] at h2
      have h3 := h.lt i (by omega)
      rw [cleared_o inv M q k _ e, hlow i (by omega), h.ahead i j (by omega) h2, h.rest q j hq1 hq2 (by omega)]; grind
  · intro l j h1 h2 h3
    have e : l ≠ at_ := by omega
    rw [cleared_o inv M q k _ e]
    rcases Nat.lt_or_eq_of_le (Nat.le_of_lt_succ h3) with h4 | rfl
    · have h5 : swapped M at_ q l j = 0 := swapped_cases M e (fun v => v j = 0) (h.rest at_ j (Nat.le_refl _) ham h4) (fun _ => h.rest l j (by omega) h2 h4)
      rw [h5, h.rest q j hq1 hq2 h4]; grind
    · grind
/-- The step spans what was spanned. -/
theorem cleared_in (inv : F → F) (M : Nat → V) {m a q : Nat} (k : Nat) (ha : a < m) (hq : q < m) : ∀ l, l < m → Span m M (cleared inv M a q k l) := by
  intro l hl
  have hL : Span m M (fun j => M q j * inv (M q k)) := by
    have := span_add (span_mem (S := M) hq) (span_mem (S := M) hq) (inv (M q k) - 1)
    refine (show (fun j => M q j + (inv (M q k) - 1) * M q j) = fun j => M q j * inv (M q k) by funext j; grind) ▸ this
  by_cases e : l = a
  · subst e
    rw [show cleared inv M l q k l = fun j => M q j * inv (M q k) by funext j; exact cleared_a inv M l q k j]
    exact hL
  · have hs : Span m M (swapped M a q l) := swapped_cases M e (fun v => Span m M v) (span_mem ha) (fun _ => span_mem hl)
    have := span_add hs hL (0 - swapped M a q l k)
    rw [show cleared inv M a q k l = fun j => swapped M a q l j + (0 - swapped M a q l k) * (M q j * inv (M q k)) by
      funext j; rw [cleared_o inv M q k j e]; grind]
    exact this
theorem in_cleared (inv : F → F) (hinv : ∀ x : F, x ≠ 0 → x * inv x = 1) (M : Nat → V) {m a q k : Nat} (ha : a < m) (hq : q < m) (hne : M q k ≠ 0) : ∀ l, l < m → Span m (cleared inv M a q k) (M l) := by
  have hi := hinv _ hne
  have hA : Span m (cleared inv M a q k) (cleared inv M a q k a) := span_mem ha
  have hQ : Span m (cleared inv M a q k) (M q) := by
    have := span_add hA hA (M q k - 1)
    refine (show (fun j => cleared inv M a q k a j + (M q k - 1) * cleared inv M a q k a j) = M q by
      funext j; rw [cleared_a]; grind) ▸ this
  -- a swapped row is in the span
  have hS : ∀ l, l < m → l ≠ a → Span m (cleared inv M a q k) (swapped M a q l) := fun l hl e => by
    have := span_add (span_mem (S := cleared inv M a q k) hl) hA (swapped M a q l k)
    refine (show (fun j => cleared inv M a q k l j + swapped M a q l k * cleared inv M a q k a j) = swapped M a q l by
      funext j; rw [cleared_a, cleared_o inv M q k j e]; grind) ▸ this
  intro l hl
  by_cases e : l = q
  · subst e; exact hQ
  · by_cases e2 : l = a
    · subst e2
      have := hS q hq (fun h => e h.symm)
      rwa [swapped_q M (fun h => e h.symm)] at this
    · have := hS l hl e2
      rwa [swapped_o M e2 e] at this
/-- All columns are done. -/
theorem Elim.red (h : Elim m at_ w M p) : Red at_ w M p :=
  ⟨h.lt, h.up, h.one, fun i k hi hk hne => h.zero k i hk (by have := h.le; omega) (fun e => hne e.symm), h.ahead⟩
/-- What all rows span the first ones span, where the others are 0. -/
theorem Elim.span (h : Elim m at_ w M p) (hw : ∀ l j, l < m → w ≤ j → M l j = 0) {v : V} (hv : Span m M v) : Span at_ M v := by
  refine span_trans (T := M) (m := m) (fun i hi => ?_) hv
  by_cases e : i < at_
  · exact span_mem e
  · refine ⟨fun _ => 0, ?_⟩
    funext j
    have h0 : M i j = 0 := by
      by_cases hj : j < w
      · exact h.rest i j (by omega) hi hj
      · exact hw i j hi (by omega)
    rw [h0]
    exact (sum_zero fun k _ => by grind).symm
end

/-! null vectors and orthogonality -/
section
variable {n w : Nat} {R : Nat → V} {p : Nat → Nat}
end

/-! polynomials, and rows of powers -/
/-! every family can be reduced; dimensions of sum and intersection -/
/-- What is 0 from w on. -/
def Supp (w : Nat) (v : V) : Prop := ∀ j, w ≤ j → v j = 0
theorem supp_span {m w : Nat} {M : Nat → V} (h : ∀ l, l < m → Supp w (M l)) {v : V} (hv : Span m M v) : Supp w v := by
  obtain ⟨c, rfl⟩ := hv
  intro j hj
  exact sum_zero fun i hi => by rw [h i hi j hj]; grind
end Go.Proofs.YtkhfkccbnhjmjaaDoor.Lin
namespace Go.Proofs.YtkhfkccbnhjmjaaDoor.MatP
open Go.Proofs.YtkhfkccbnhjmjaaDoor.Field Go.Proofs.YtkhfkccbnhjmjaaDoor.Vec Go.Proofs.YtkhfkccbnhjmjaaDoor.Mat Go.Proofs.YtkhfkccbnhjmjaaDoor.Lin

def vec (n : Nat) (f : Nat → F) : List Int := (List.range n).map fun i => em (f i)
def mk (r c : Nat) (f : Nat → Nat → F) : List (List Int) := (List.range r).map fun i => vec c (f i)
def toF (x : Int) : F := Fin.ofNat 1019 x.toNat
theorem em_toF {x : Int} (h : isEl x = true) : em (toF x) = x := by
  obtain ⟨h0, h1⟩ := isEl_iff.1 h
  unfold em toF
  rw [Fin.val_ofNat, Nat.mod_eq_of_lt (by omega)]; omega
theorem vec_len (n : Nat) (f : Nat → F) : (vec n f).length = n := by simp [vec]
theorem vec_ems (n : Nat) (f : Nat → F) : vec n f = ems ((List.range n).map f) := by simp [vec, ems]
theorem vec_congr {n : Nat} {f g : Nat → F} (h : ∀ i, i < n → f i = g i) : vec n f = vec n g :=
  List.map_congr_left fun i hi => by rw [h i (List.mem_range.1 hi)]
theorem mk_congr {r c : Nat} {f g : Nat → Nat → F} (h : ∀ i j, i < r → j < c → f i j = g i j) : mk r c f = mk r c g :=
  List.map_congr_left fun i hi => vec_congr fun j hj => h i j (List.mem_range.1 hi) hj
theorem of_isVec {xs : List Int} (h : isVec xs = true) : xs = vec xs.length fun j => toF (xs[j]?.getD 0) := by
  apply List.ext_getElem?
  intro j
  unfold vec
  by_cases hj : j < xs.length
  · rw [List.getElem?_map, List.getElem?_range hj, List.getElem?_eq_getElem hj]
    simp only [Option.map_some]
    rw [List.getElem?_eq_getElem hj, Option.getD_some, em_toF ((isVec_iff.1 h).1 _ (List.getElem_mem hj))]
  · rw [List.getElem?_eq_none (by omega), List.getElem?_eq_none (by simp; omega)]
theorem mk_len (r c : Nat) (f : Nat → Nat → F) : (mk r c f).length = r := by simp [mk]
theorem adds_vec {c : Nat} (f g : Nat → F) (k : F) (h : c ≤ 40) : addScaled (vec c f) (vec c g) (em k) = vec c fun j => f j + g j * k := by
  rw [vec_ems, vec_ems, addScaled_ems (by simp) (by simpa using h), vec_ems]
  congr 1
  unfold macF
  rw [List.zipWith_map, List.zipWith_self]
end Go.Proofs.YtkhfkccbnhjmjaaDoor.MatP
