/-
  Linear algebra over the field of 1019 elements, by functions from the numbers: sums, what vectors span, independence and exchange, reduced rows (determined by what they span), elimination, null vectors and orthogonality, polynomials and rows of powers, dimensions of sum and intersection. No program.
-/
import Derived.Test.YthhnfbhpdcemfaaVec
namespace Go.Proofs.Ythhnfbhpdcemfaa.Lin
open Go.Proofs.Ythhnfbhpdcemfaa.Vec (F)

/-! sums -/
def sum : Nat → (Nat → F) → F
  | 0, _ => 0
  | n + 1, f => sum n f + f n
theorem sum_congr {n : Nat} {f g : Nat → F} (h : ∀ i, i < n → f i = g i) : sum n f = sum n g := by
  induction n with
  | zero => rfl
  | succ n ih => rw [sum, sum, ih fun i hi => h i (by omega), h n (by omega)]
theorem sum_add (n : Nat) (f g : Nat → F) : sum n (fun i => f i + g i) = sum n f + sum n g := by
  induction n with
  | zero => simp [sum]
  | succ n ih => rw [sum, ih, sum, sum]; grind
theorem sum_mul (n : Nat) (c : F) (f : Nat → F) : sum n (fun i => c * f i) = c * sum n f := by
  induction n with
  | zero => show (0 : F) = c * 0; grind
  | succ n ih => rw [sum, ih, sum]; grind
theorem sum_zero {n : Nat} {f : Nat → F} (h : ∀ i, i < n → f i = 0) : sum n f = 0 := by
  induction n with
  | zero => rfl
  | succ n ih => rw [sum, ih fun i hi => h i (by omega), h n (by omega)]; rfl
theorem sum_comm (n m : Nat) (f : Nat → Nat → F) : sum n (fun i => sum m (fun j => f i j)) = sum m (fun j => sum n (fun i => f i j)) := by
  induction n with
  | zero => exact (sum_zero fun _ _ => rfl).symm
  | succ n ih => rw [sum, ih, ← sum_add]; rfl
theorem sum_one {n i : Nat} (hi : i < n) {f : Nat → F} (h : ∀ j, j < n → j ≠ i → f j = 0) : sum n f = f i := by
  induction n with
  | zero => omega
  | succ n ih =>
    rw [sum]
    by_cases e : i = n
    · subst e
      rw [sum_zero fun j hj => h j (by omega) (by omega)]; grind
    · rw [ih (by omega) fun j hj => h j (by omega), h n (by omega) (fun e' => e e'.symm)]; grind
/-- All indices but one. -/
def leap (i0 i : Nat) : Nat := if i < i0 then i else i + 1
theorem sum_leap {n i0 : Nat} (h : i0 ≤ n) (f : Nat → F) : sum (n + 1) f = sum n (fun i => f (leap i0 i)) + f i0 := by
  induction n with
  | zero =>
    obtain rfl : i0 = 0 := by omega
    rfl
  | succ n ih =>
    by_cases e : i0 = n + 1
    · subst e
      rw [sum]
      congr 1
      exact sum_congr fun i hi => by rw [leap, if_pos hi]
    · rw [sum, ih (by omega), sum]
      rw [show leap i0 n = n + 1 by rw [leap, if_neg (by omega)]]
      grind

abbrev V := Nat → F
def lin (n : Nat) (S : Nat → V) (c : Nat → F) : V := fun j => sum n (fun i => c i * S i j)
def Span (n : Nat) (S : Nat → V) (v : V) : Prop := ∃ c, v = lin n S c
def Indep (n : Nat) (S : Nat → V) : Prop := ∀ c, (∀ j, lin n S c j = 0) → ∀ i, i < n → c i = 0

theorem lin_add (n : Nat) (S : Nat → V) (c d : Nat → F) (j : Nat) : lin n S (fun i => c i + d i) j = lin n S c j + lin n S d j := by
  unfold lin; rw [← sum_add]; exact sum_congr fun i _ => by grind
theorem lin_mul (n : Nat) (S : Nat → V) (k : F) (c : Nat → F) (j : Nat) : lin n S (fun i => k * c i) j = k * lin n S c j := by
  unfold lin; rw [← sum_mul]; exact sum_congr fun i _ => by grind
theorem lin_congr {n : Nat} {S T : Nat → V} {c d : Nat → F} (h : ∀ i, i < n → c i = d i) (h2 : ∀ i, i < n → S i = T i) : lin n S c = lin n T d := by
  funext j; exact sum_congr fun i hi => by rw [h i hi, h2 i hi]
def ind (i : Nat) : Nat → F := fun k => if k = i then 1 else 0
theorem ind_same (i : Nat) : ind i i = 1 := if_pos rfl
theorem ind_ne {i k : Nat} (h : k ≠ i) : ind i k = 0 := if_neg h
theorem lin_ind {n : Nat} (S : Nat → V) {i : Nat} (hi : i < n) (j : Nat) : lin n S (ind i) j = S i j := by
  unfold lin
  rw [sum_one hi fun k _ hk => by rw [ind_ne hk]; grind, ind_same]; grind
theorem span_mem {n : Nat} {S : Nat → V} {i : Nat} (hi : i < n) : Span n S (S i) := by
  exact ⟨ind i, by funext j; rw [lin_ind S hi]⟩
theorem span_lin {n m : Nat} {S T : Nat → V} (h : ∀ i, i < m → Span n S (T i)) (c : Nat → F) : Span n S (lin m T c) := by
  have hch : ∀ i, ∃ d : Nat → F, i < m → T i = lin n S d := fun i => by
    by_cases hi : i < m
    · obtain ⟨d, hd⟩ := h i hi; exact ⟨d, fun _ => hd⟩
    · exact ⟨fun _ => 0, fun h => absurd h hi⟩
  obtain ⟨D, hD⟩ := Classical.axiomOfChoice hch
  refine ⟨fun k => sum m fun i => c i * D i k, ?_⟩
  funext j
  unfold lin
  rw [sum_congr (g := fun i => sum n fun k => c i * (D i k * S k j)) fun i hi => by
    rw [hD i hi, sum_mul]; rfl]
  rw [sum_comm]
  refine sum_congr fun k _ => ?_
  rw [show (sum m fun i => c i * D i k) * S k j = S k j * (sum m fun i => c i * D i k) by grind, ← sum_mul]
  exact sum_congr fun i _ => by grind
theorem span_trans {n m : Nat} {S T : Nat → V} {v : V} (h : ∀ i, i < m → Span n S (T i)) (hv : Span m T v) : Span n S v := by
  obtain ⟨c, rfl⟩ := hv; exact span_lin h c
theorem span_add {n : Nat} {S : Nat → V} {u v : V} (hu : Span n S u) (hv : Span n S v) (k : F) : Span n S (fun j => u j + k * v j) := by
  obtain ⟨c, rfl⟩ := hu
  obtain ⟨d, rfl⟩ := hv
  exact ⟨fun i => c i + k * d i, by funext j; rw [lin_add, lin_mul]⟩

/-- Coefficients for all indices out of those for all but one. -/
def fill (i0 : Nat) (a : F) (c : Nat → F) : Nat → F := fun k => if k = i0 then a else c (if k < i0 then k else k - 1)
theorem fill_same (i0 : Nat) (a : F) (c : Nat → F) : fill i0 a c i0 = a := if_pos rfl
theorem fill_leap (i0 : Nat) (a : F) (c : Nat → F) (i : Nat) : fill i0 a c (leap i0 i) = c i := by
  unfold fill leap
  by_cases h : i < i0
  · rw [if_pos h, if_neg (by omega), if_pos h]
  · rw [if_neg h, if_neg (by omega), if_neg (by omega)]; rfl

theorem exchange (inv : F → F) (hinv : ∀ x : F, x ≠ 0 → x * inv x = 1) (n : Nat) : ∀ (m : Nat) (S T : Nat → V), Indep m T → (∀ i, i < m → Span n S (T i)) → m ≤ n := by
  induction n with
  | zero =>
    intro m S T hT hs
    refine Nat.le_of_not_lt fun hm => ?_
    have h0 : ∀ j, lin m T (ind 0) j = 0 := fun j => by
      rw [lin_ind T hm]
      obtain ⟨c, hc⟩ := hs 0 hm
      rw [hc]
      rfl
    have := hT _ h0 0 hm
    rw [ind_same] at this
    exact absurd this (by decide)
  | succ n ih =>
    intro m S T hT hs
    have hch : ∀ i, ∃ d : Nat → F, i < m → T i = lin (n + 1) S d := fun i => by
      by_cases hi : i < m
      · obtain ⟨d, hd⟩ := hs i hi; exact ⟨d, fun _ => hd⟩
      · exact ⟨fun _ => 0, fun h => absurd h hi⟩
    obtain ⟨D, hD⟩ := Classical.axiomOfChoice hch
    by_cases hall : ∀ i, i < m → D i n = 0
    · refine Nat.le_succ_of_le (ih m S T hT fun i hi => ⟨D i, ?_⟩)
      rw [hD i hi]
      funext j
      show sum n (fun k => D i k * S k j) + D i n * S n j = _
      rw [hall i hi]; unfold lin; grind
    · obtain ⟨i0, hi0⟩ := Classical.not_forall.1 hall
      obtain ⟨hi0, ha⟩ := Classical.not_imp.1 hi0
      obtain ⟨m', rfl⟩ : ∃ m', m = m' + 1 := ⟨m - 1, by omega⟩
      have hai := hinv _ ha
      have hsk : ∀ i, i < m' → leap i0 i < m' + 1 := fun i hi => by unfold leap; split <;> omega
      refine Nat.succ_le_succ (ih m' S (fun i j => T (leap i0 i) j + (0 - D (leap i0 i) n * inv (D i0 n)) * T i0 j) ?_ ?_)
      · intro c hc i hi
        have key := hT (fill i0 (0 - sum m' fun i => c i * (D (leap i0 i) n * inv (D i0 n))) c) (fun j => by
          unfold lin
          rw [sum_leap (i0 := i0) (by omega), fill_same, sum_congr (g := fun i => c i * T (leap i0 i) j) fun i _ => by rw [fill_leap]]
          have h1 : sum m' (fun i => c i * (T (leap i0 i) j + (0 - D (leap i0 i) n * inv (D i0 n)) * T i0 j)) = 0 := hc j
          have e2 : sum m' (fun i => c i * (T (leap i0 i) j + (0 - D (leap i0 i) n * inv (D i0 n)) * T i0 j)) = sum m' (fun i => c i * T (leap i0 i) j) + sum m' (fun i => (0 - T i0 j) * (c i * (D (leap i0 i) n * inv (D i0 n)))) := by
            rw [← sum_add]; exact sum_congr fun i _ => by grind
          rw [e2, sum_mul] at h1
          grind) (leap i0 i) (hsk i hi)
        rw [fill_leap] at key
        exact key
      · intro i hi
        refine ⟨fun k => D (leap i0 i) k + (0 - D (leap i0 i) n * inv (D i0 n)) * D i0 k, ?_⟩
        funext j
        show T (leap i0 i) j + _ * T i0 j = _
        rw [lin_add, lin_mul, hD _ (hsk i hi), hD _ hi0]
        show (sum n (fun k => D (leap i0 i) k * S k j) + D (leap i0 i) n * S n j) + (0 - D (leap i0 i) n * inv (D i0 n)) * (sum n (fun k => D i0 k * S k j) + D i0 n * S n j) = _
        unfold lin
        grind


/-- Rows in reduced form: each has a 1 at its pivot, the others have 0 there, nothing stands ahead of it; pivots increase. -/
structure Red (n w : Nat) (R : Nat → V) (p : Nat → Nat) : Prop where
  lt : ∀ i, i < n → p i < w
  up : ∀ i k, i < k → k < n → p i < p k
  one : ∀ i, i < n → R i (p i) = 1
  zero : ∀ i k, i < n → k < n → k ≠ i → R i (p k) = 0
  ahead : ∀ i j, i < n → j < p i → R i j = 0

section
variable {n w n' w' : Nat} {R R' : Nat → V} {p p' : Nat → Nat}
theorem Red.at_ (h : Red n w R p) (c : Nat → F) {i : Nat} (hi : i < n) : lin n R c (p i) = c i := by
  unfold lin
  rw [sum_one hi fun k hk hne => by rw [h.zero k i hk hi (fun e => hne e.symm)]; grind, h.one i hi]; grind
theorem Red.indep (h : Red n w R p) : Indep n R := fun c hc i hi => by rw [← h.at_ c hi]; exact hc _
theorem Red.coeffs (h : Red n w R p) {v : V} (hv : Span n R v) : v = lin n R (fun i => v (p i)) := by
  obtain ⟨c, rfl⟩ := hv
  exact lin_congr (fun i hi => (h.at_ c hi).symm) fun _ _ => rfl
/-- What is in the span and has 0 at all pivots is 0. -/
theorem Red.none (h : Red n w R p) {v : V} (hv : Span n R v) (h0 : ∀ i, i < n → v (p i) = 0) (j : Nat) : v j = 0 := by
  rw [h.coeffs hv]
  exact sum_zero fun i hi => by show v (p i) * R i j = 0; rw [h0 i hi]; grind
/-- The first place of a vector of the span that is not 0 is a pivot. -/
theorem Red.lead (h : Red n w R p) {v : V} (hv : Span n R v) {j : Nat} (hj : v j ≠ 0) (ha : ∀ k, k < j → v k = 0) : ∃ i, i < n ∧ p i = j := by
  have hex : ∃ i, i < n ∧ v (p i) ≠ 0 := Classical.byContradiction fun hn => hj (h.none hv (fun i hi => Classical.byContradiction fun hne => hn ⟨i, hi, hne⟩) j)
  -- the least such i
  obtain ⟨i, ⟨hi, hne⟩, hmin⟩ : ∃ i, (i < n ∧ v (p i) ≠ 0) ∧ ∀ k, (k < n ∧ v (p k) ≠ 0) → i ≤ k := by
    obtain ⟨i, hi⟩ := hex
    induction i using Nat.strongRecOn with
    | _ i ih =>
      by_cases hs : ∃ k, k < i ∧ (k < n ∧ v (p k) ≠ 0)
      · obtain ⟨k, hk, hk2⟩ := hs; exact ih k hk hk2
      · exact ⟨i, hi, fun k hk => Nat.le_of_not_lt fun hlt => hs ⟨k, hlt, hk⟩⟩
  refine ⟨i, hi, ?_⟩
  have h1 : ¬ p i < j := fun hlt => hne (ha _ hlt)
  have h2 : ¬ j < p i := fun hlt => by
    apply hj
    rw [h.coeffs hv]
    refine sum_zero fun k hk => ?_
    by_cases hki : k < i
    · have : v (p k) = 0 := Classical.byContradiction fun hne2 => absurd (hmin k ⟨hk, hne2⟩) (by omega)
      show v (p k) * R k j = 0
      rw [this]; grind
    · have hlt2 : j < p k := by
        rcases Nat.lt_or_eq_of_le (Nat.le_of_not_lt hki) with h3 | rfl
        · exact Nat.lt_trans hlt (h.up i k h3 hk)
        · exact hlt
      rw [h.ahead k j hk hlt2]; grind
  omega
theorem mono_le {n : Nat} {p : Nat → Nat} (h : ∀ i k, i < k → k < n → p i < p k) {i k : Nat} (hk : k < n) (hik : i ≤ k) : p i ≤ p k := by
  rcases Nat.lt_or_eq_of_le hik with h1 | rfl
  · exact Nat.le_of_lt (h i k h1 hk)
  · exact Nat.le_refl _
/-- Increasing sequences with one image are one. -/
theorem one_image {n : Nat} {p q : Nat → Nat} (hp : ∀ i k, i < k → k < n → p i < p k) (hq : ∀ i k, i < k → k < n → q i < q k)
    (h1 : ∀ i, i < n → ∃ k, k < n ∧ q k = p i) (h2 : ∀ i, i < n → ∃ k, k < n ∧ p k = q i) : ∀ i, i < n → p i = q i := by
  intro i
  induction i using Nat.strongRecOn with
  | _ i ih =>
    intro hi
    obtain ⟨k, hk, e⟩ := h1 i hi
    obtain ⟨m, hm, e2⟩ := h2 i hi
    have a1 : ¬ k < i := fun hlt => by
      have h3 := ih k hlt hk
      have h4 := hp k i hlt hi
      omega
    have a2 : ¬ m < i := fun hlt => by
      have h3 := ih m hlt hm
      have h4 := hq m i hlt hi
      omega
    have b1 := mono_le hq hk (Nat.le_of_not_lt a1)
    have b2 := mono_le hp hm (Nat.le_of_not_lt a2)
    omega
/-- Reduced rows are determined by what they span. -/
theorem Red.uniq (inv : F → F) (hinv : ∀ x : F, x ≠ 0 → x * inv x = 1) (h : Red n w R p) (h' : Red n' w' R' p') (h1 : ∀ i, i < n → Span n' R' (R i)) (h2 : ∀ i, i < n' → Span n R (R' i)) :
    n = n' ∧ (∀ i, i < n → p i = p' i) ∧ ∀ i, i < n → R i = R' i := by
  have e : n = n' := Nat.le_antisymm (exchange inv hinv n' n R' R h.indep h1) (exchange inv hinv n n' R R' h'.indep h2)
  subst e
  have hone : (1 : F) ≠ 0 := by decide
  have hp : ∀ i, i < n → p i = p' i := one_image h.up h'.up
    (fun i hi => h'.lead (h1 i hi) (by rw [h.one i hi]; exact hone) fun k hk => h.ahead i k hi hk)
    (fun i hi => h.lead (h2 i hi) (by rw [h'.one i hi]; exact hone) fun k hk => h'.ahead i k hi hk)
  refine ⟨rfl, hp, fun i hi => ?_⟩
  rw [h'.coeffs (h1 i hi)]
  funext j
  have : lin n R' (fun k => R i (p' k)) j = lin n R' (ind i) j := by
    refine congrFun (lin_congr (fun k hk => ?_) fun _ _ => rfl) j
    rw [← hp k hk]
    by_cases hki : k = i
    · subst hki; rw [h.one k hk, ind_same]
    · rw [h.zero i k hi hk hki, ind_ne hki]
  rw [this, lin_ind R' hi]
end

/-! elimination -/
section
variable {m w at_ k : Nat} {M : Nat → V} {p : Nat → Nat}
/-- What elimination has reached when the columns below k are done and at_ pivots are found. -/
structure Elim (m at_ k : Nat) (M : Nat → V) (p : Nat → Nat) : Prop where
  le : at_ ≤ m
  lt : ∀ i, i < at_ → p i < k
  up : ∀ i l, i < l → l < at_ → p i < p l
  one : ∀ i, i < at_ → M i (p i) = 1
  zero : ∀ i l, i < at_ → l < m → l ≠ i → M l (p i) = 0
  ahead : ∀ i j, i < at_ → j < p i → M i j = 0
  rest : ∀ l j, at_ ≤ l → l < m → j < k → M l j = 0
theorem Elim.start (m : Nat) (M : Nat → V) (p : Nat → Nat) : Elim m 0 0 M p :=
  ⟨Nat.zero_le _, fun _ h => by omega, fun _ _ _ h => by omega, fun _ h => by omega, fun _ _ h => by omega, fun _ _ h => by omega, fun _ _ _ _ h => by omega⟩
/-- A column without a pivot. -/
theorem Elim.none (h : Elim m at_ k M p) (h0 : ∀ l, at_ ≤ l → l < m → M l k = 0) : Elim m at_ (k + 1) M p :=
  ⟨h.le, fun i hi => Nat.lt_succ_of_lt (h.lt i hi), h.up, h.one, h.zero, h.ahead, fun l j h1 h2 h3 => by
    rcases Nat.lt_or_eq_of_le (Nat.le_of_lt_succ h3) with h4 | rfl
    · exact h.rest l j h1 h2 h4
    · exact h0 l h1 h2⟩
/-- The row that comes to the place of the pivot, before it is scaled: rows q and at_ are swapped. -/
def swapped (M : Nat → V) (a q : Nat) (l : Nat) : V := if l = a then M q else if l = q then M a else M l
/-- The step at a pivot: rows q and at_ are swapped, row at_ is scaled, and the others are cleared in column k. -/
def cleared (inv : F → F) (M : Nat → V) (a q k : Nat) (l : Nat) : V := fun j =>
  if l = a then M q j * inv (M q k) else swapped M a q l j + (M q j * inv (M q k)) * (0 - swapped M a q l k)
theorem swapped_a (M : Nat → V) (a q : Nat) : swapped M a q a = M q := if_pos rfl
theorem swapped_q (M : Nat → V) {a q : Nat} (h : q ≠ a) : swapped M a q q = M a := by unfold swapped; rw [if_neg h, if_pos rfl]
theorem swapped_o (M : Nat → V) {a q l : Nat} (h : l ≠ a) (h2 : l ≠ q) : swapped M a q l = M l := by unfold swapped; rw [if_neg h, if_neg h2]
theorem cleared_a (inv : F → F) (M : Nat → V) (a q k j : Nat) : cleared inv M a q k a j = M q j * inv (M q k) := if_pos rfl
theorem cleared_o (inv : F → F) (M : Nat → V) {a l : Nat} (q k j : Nat) (h : l ≠ a) : cleared inv M a q k l j = swapped M a q l j + (M q j * inv (M q k)) * (0 - swapped M a q l k) := if_neg h
theorem swapped_cases (M : Nat → V) {a q l : Nat} (h : l ≠ a) (P : V → Prop) (h1 : P (M a)) (h2 : l ≠ q → P (M l)) : P (swapped M a q l) := by
  unfold swapped
  rw [if_neg h]
  by_cases e : l = q
  · rw [if_pos e]; exact h1
  · rw [if_neg e]; exact h2 e
/-- The pivots with one more. -/
def more (p : Nat → Nat) (a k : Nat) : Nat → Nat := fun i => if i = a then k else p i
theorem more_a (p : Nat → Nat) (a k : Nat) : more p a k a = k := if_pos rfl
theorem more_o (p : Nat → Nat) {a i : Nat} (k : Nat) (h : i ≠ a) : more p a k i = p i := if_neg h
theorem Elim.pivot (inv : F → F) (hinv : ∀ x : F, x ≠ 0 → x * inv x = 1) (h : Elim m at_ k M p) {q : Nat} (hq1 : at_ ≤ q) (hq2 : q < m) (hne : M q k ≠ 0) :
    Elim m (at_ + 1) (k + 1) (cleared inv M at_ q k) (more p at_ k) := by
  have hi := hinv _ hne
  have ham : at_ < m := by omega
  -- at an old pivot's column the swapped rows hold what they held
  have hsw : ∀ i l, i < at_ → l < m → l ≠ at_ → l ≠ i → swapped M at_ q l (p i) = 0 := fun i l h1 h2 h3 h4 =>
    swapped_cases M h3 (fun v => v (p i) = 0) (h.zero i at_ h1 ham (by omega)) (fun _ => h.zero i l h1 h2 h4)
  have hq0 : ∀ i, i < at_ → M q (p i) = 0 := fun i h1 => h.zero i q h1 hq2 (by omega)
  have hlow : ∀ i, i < at_ → swapped M at_ q i = M i := fun i h1 => swapped_o M (by omega) (by omega)
  refine ⟨by omega, ?_, ?_, ?_, ?_, ?_, ?_⟩
  · intro i h1
    by_cases e : i = at_
    · subst e; rw [more_a]; omega
    · rw [more_o p k e]; have := h.lt i (by omega); omega
  · intro i l h1 h2
    have e1 : i ≠ at_ := by omega
    rw [more_o p k e1]
    by_cases e : l = at_
    · subst e; rw [more_a]; exact h.lt i (by omega)
    · rw [more_o p k e]; exact h.up i l h1 (by omega)
  · intro i h1
    by_cases e : i = at_
    · subst e; rw [more_a, cleared_a]; exact hi
    · rw [more_o p k e, cleared_o inv M q k _ e, hlow i (by omega), hq0 i (by omega), h.one i (by omega)]; grind
  · intro i l h1 h2 h3
    by_cases e : i = at_
    · subst e
      rw [more_a, cleared_o inv M q k _ h3]
      grind
    · rw [more_o p k e]
      by_cases e2 : l = at_
      · subst e2; rw [cleared_a, hq0 i (by omega)]; grind
      · rw [cleared_o inv M q k _ e2, hq0 i (by omega), hsw i l (by omega) h2 e2 h3]; grind
  · intro i j h1 h2
    by_cases e : i = at_
    · subst e
      rw [more_a] at h2
      rw [cleared_a, h.rest q j hq1 hq2 h2]; grind
    · rw [more_o p k e] at h2
      have h3 := h.lt i (by omega)
      rw [cleared_o inv M q k _ e, hlow i (by omega), h.ahead i j (by omega) h2, h.rest q j hq1 hq2 (by omega)]; grind
  · intro l j h1 h2 h3
    have e : l ≠ at_ := by omega
    rw [cleared_o inv M q k _ e]
    rcases Nat.lt_or_eq_of_le (Nat.le_of_lt_succ h3) with h4 | rfl
    · have h5 : swapped M at_ q l j = 0 := swapped_cases M e (fun v => v j = 0) (h.rest at_ j (Nat.le_refl _) ham h4) (fun _ => h.rest l j (by omega) h2 h4)
      rw [h5, h.rest q j hq1 hq2 h4]; grind
    · grind
/-- The step spans what was spanned. -/
theorem cleared_in (inv : F → F) (M : Nat → V) {m a q : Nat} (k : Nat) (ha : a < m) (hq : q < m) : ∀ l, l < m → Span m M (cleared inv M a q k l) := by
  intro l hl
  have hL : Span m M (fun j => M q j * inv (M q k)) := by
    have := span_add (span_mem (S := M) hq) (span_mem (S := M) hq) (inv (M q k) - 1)
    refine (show (fun j => M q j + (inv (M q k) - 1) * M q j) = fun j => M q j * inv (M q k) by funext j; grind) ▸ this
  by_cases e : l = a
  · subst e
    rw [show cleared inv M l q k l = fun j => M q j * inv (M q k) by funext j; exact cleared_a inv M l q k j]
    exact hL
  · have hs : Span m M (swapped M a q l) := swapped_cases M e (fun v => Span m M v) (span_mem ha) (fun _ => span_mem hl)
    have := span_add hs hL (0 - swapped M a q l k)
    rw [show cleared inv M a q k l = fun j => swapped M a q l j + (0 - swapped M a q l k) * (M q j * inv (M q k)) by
      funext j; rw [cleared_o inv M q k j e]; grind]
    exact this
theorem in_cleared (inv : F → F) (hinv : ∀ x : F, x ≠ 0 → x * inv x = 1) (M : Nat → V) {m a q k : Nat} (ha : a < m) (hq : q < m) (hne : M q k ≠ 0) : ∀ l, l < m → Span m (cleared inv M a q k) (M l) := by
  have hi := hinv _ hne
  have hA : Span m (cleared inv M a q k) (cleared inv M a q k a) := span_mem ha
  have hQ : Span m (cleared inv M a q k) (M q) := by
    have := span_add hA hA (M q k - 1)
    refine (show (fun j => cleared inv M a q k a j + (M q k - 1) * cleared inv M a q k a j) = M q by
      funext j; rw [cleared_a]; grind) ▸ this
  -- a swapped row is in the span
  have hS : ∀ l, l < m → l ≠ a → Span m (cleared inv M a q k) (swapped M a q l) := fun l hl e => by
    have := span_add (span_mem (S := cleared inv M a q k) hl) hA (swapped M a q l k)
    refine (show (fun j => cleared inv M a q k l j + swapped M a q l k * cleared inv M a q k a j) = swapped M a q l by
      funext j; rw [cleared_a, cleared_o inv M q k j e]; grind) ▸ this
  intro l hl
  by_cases e : l = q
  · subst e; exact hQ
  · by_cases e2 : l = a
    · subst e2
      have := hS q hq (fun h => e h.symm)
      rwa [swapped_q M (fun h => e h.symm)] at this
    · have := hS l hl e2
      rwa [swapped_o M e2 e] at this
/-- All columns are done. -/
theorem Elim.red (h : Elim m at_ w M p) : Red at_ w M p :=
  ⟨h.lt, h.up, h.one, fun i k hi hk hne => h.zero k i hk (by have := h.le; omega) (fun e => hne e.symm), h.ahead⟩
/-- What all rows span the first ones span, where the others are 0. -/
theorem Elim.span (h : Elim m at_ w M p) (hw : ∀ l j, l < m → w ≤ j → M l j = 0) {v : V} (hv : Span m M v) : Span at_ M v := by
  refine span_trans (T := M) (m := m) (fun i hi => ?_) hv
  by_cases e : i < at_
  · exact span_mem e
  · refine ⟨fun _ => 0, ?_⟩
    funext j
    have h0 : M i j = 0 := by
      by_cases hj : j < w
      · exact h.rest i j (by omega) hi hj
      · exact hw i j hi (by omega)
    rw [h0]
    exact (sum_zero fun k _ => by grind).symm
end

/-! null vectors and orthogonality -/
def dotw (w : Nat) (u v : V) : F := sum w fun j => u j * v j
theorem dotw_comm (w : Nat) (u v : V) : dotw w u v = dotw w v u := sum_congr fun j _ => by grind
theorem dotw_add (w : Nat) (u v x : V) (k : F) : dotw w (fun j => u j + k * v j) x = dotw w u x + k * dotw w v x := by
  unfold dotw; rw [← sum_mul, ← sum_add]; exact sum_congr fun j _ => by grind
theorem dotw_lin (w n : Nat) (S : Nat → V) (c : Nat → F) (x : V) : dotw w (lin n S c) x = sum n fun i => c i * dotw w (S i) x := by
  unfold dotw lin
  rw [sum_congr (g := fun j => sum n fun i => c i * (S i j * x j)) fun j _ => by
    rw [show (sum n fun i => c i * S i j) * x j = x j * (sum n fun i => c i * S i j) by grind, ← sum_mul]; exact sum_congr fun i _ => by grind]
  rw [sum_comm]
  exact sum_congr fun i _ => by rw [sum_mul]
theorem dotw_ind {w j : Nat} (hj : j < w) (x : V) : dotw w (ind j) x = x j := by
  unfold dotw
  rw [sum_one hj fun k _ hk => by rw [ind_ne hk]; grind, ind_same]; grind
theorem dotw_congr {w : Nat} {u u' v v' : V} (h : ∀ j, j < w → u j = u' j) (h2 : ∀ j, j < w → v j = v' j) : dotw w u v = dotw w u' v' := sum_congr fun j hj => by rw [h j hj, h2 j hj]

/-- How many numbers below w have a property. -/
def cnt : Nat → (Nat → Bool) → Nat
  | 0, _ => 0
  | w + 1, f => cnt w f + (if f w then 1 else 0)
theorem cnt_le (w : Nat) (f : Nat → Bool) : cnt w f ≤ w := by
  induction w with
  | zero => exact Nat.le_refl _
  | succ w ih => unfold cnt; split <;> omega
theorem cnt_congr {w : Nat} {f g : Nat → Bool} (h : ∀ j, j < w → f j = g j) : cnt w f = cnt w g := by
  induction w with
  | zero => rfl
  | succ w ih => unfold cnt; rw [ih fun j hj => h j (by omega), h w (by omega)]
theorem cnt_not (w : Nat) (f : Nat → Bool) : cnt w (fun j => !f j) + cnt w f = w := by
  induction w with
  | zero => rfl
  | succ w ih =>
    show cnt w (fun j => !f j) + (if (!f w) = true then 1 else 0) + (cnt w f + (if f w = true then 1 else 0)) = w + 1
    by_cases h : f w = true
    · rw [if_pos h, if_neg (by simp [h])]; omega
    · rw [if_neg h, if_pos (by simpa using h)]; omega
theorem cnt_or {w a : Nat} (ha : a < w) {f : Nat → Bool} (hf : f a = false) : cnt w (fun j => f j || j == a) = cnt w f + 1 := by
  induction w with
  | zero => omega
  | succ w ih =>
    show cnt w (fun j => f j || j == a) + (if (f w || w == a) = true then 1 else 0) = cnt w f + (if f w = true then 1 else 0) + 1
    by_cases e : a = w
    · subst e
      rw [cnt_congr (g := f) fun j hj => by
        have : (j == a) = false := by simp; omega
        rw [this, Bool.or_false], hf]
      simp
    · have : (w == a) = false := by simp; omega
      rw [ih (by omega), this, Bool.or_false]; omega
/-- The numbers with a property, in order. -/
theorem enum (w : Nat) (f : Nat → Bool) : ∃ e : Nat → Nat, (∀ i, i < cnt w f → e i < w ∧ f (e i) = true) ∧ (∀ i k, i < k → k < cnt w f → e i < e k) ∧ ∀ j, j < w → f j = true → ∃ i, i < cnt w f ∧ e i = j := by
  induction w with
  | zero => exact ⟨fun _ => 0, fun i hi => absurd hi (Nat.not_lt_zero _), fun i k _ hk => absurd hk (Nat.not_lt_zero _), fun j hj => absurd hj (Nat.not_lt_zero _)⟩
  | succ w ih =>
    obtain ⟨e, h1, h2, h3⟩ := ih
    cases hf : f w
    · have hc : cnt (w + 1) f = cnt w f := by show cnt w f + (if f w = true then 1 else 0) = cnt w f; rw [hf]; rfl
      rw [hc]
      refine ⟨e, fun i hi => ⟨by have := (h1 i hi).1; omega, (h1 i hi).2⟩, h2, fun j hj hfj => ?_⟩
      rcases Nat.lt_or_eq_of_le (Nat.le_of_lt_succ hj) with h | rfl
      · exact h3 j h hfj
      · rw [hf] at hfj; cases hfj
    · have hc : cnt (w + 1) f = cnt w f + 1 := by show cnt w f + (if f w = true then 1 else 0) = cnt w f + 1; rw [hf]; rfl
      rw [hc]
      refine ⟨fun i => if i < cnt w f then e i else w, fun i hi => ?_, fun i k hik hk => ?_, fun j hj hfj => ?_⟩
      · dsimp only
        by_cases h : i < cnt w f
        · rw [if_pos h]; exact ⟨by have := (h1 i h).1; omega, (h1 i h).2⟩
        · rw [if_neg h]; exact ⟨by omega, hf⟩
      · dsimp only
        rw [if_pos (show i < cnt w f by omega)]
        by_cases h : k < cnt w f
        · rw [if_pos h]; exact h2 i k hik h
        · rw [if_neg h]; exact (h1 i (by omega)).1
      · rcases Nat.lt_or_eq_of_le (Nat.le_of_lt_succ hj) with h | rfl
        · obtain ⟨i, hi, rfl⟩ := h3 j h hfj
          exact ⟨i, by omega, if_pos hi⟩
        · exact ⟨cnt j f, by omega, if_neg (Nat.lt_irrefl _)⟩

/-- Is the column a pivot's? -/
def isPiv (n : Nat) (p : Nat → Nat) (j : Nat) : Bool := (List.range n).any fun i => p i == j
theorem isPiv_iff {n : Nat} {p : Nat → Nat} {j : Nat} : isPiv n p j = true ↔ ∃ i, i < n ∧ p i = j := by
  unfold isPiv; simp
theorem isPiv_no {n : Nat} {p : Nat → Nat} {j : Nat} (h : isPiv n p j = false) {i : Nat} (hi : i < n) : p i ≠ j := fun e => by
  rw [isPiv_iff.2 ⟨i, hi, e⟩] at h; cases h

/-- The null vector of a column without a pivot. -/
def nul (n : Nat) (R : Nat → V) (p : Nat → Nat) (f : Nat) : V := fun j => ind f j + (0 - 1) * lin n (fun i => ind (p i)) (fun i => R i f) j

section
variable {n w : Nat} {R : Nat → V} {p : Nat → Nat}
theorem Red.count (h : Red n w R p) : cnt w (isPiv n p) = n := by
  have key : ∀ k, k ≤ n → cnt w (isPiv k p) = k := fun k => by
    induction k with
    | zero =>
      intro _
      rw [cnt_congr (f := isPiv 0 p) (g := fun _ => false) fun j _ => rfl]
      clear h
      induction w with
      | zero => rfl
      | succ w ih => unfold cnt; rw [ih]; rfl
    | succ k ih =>
      intro hk
      have hno : isPiv k p (p k) = false := by
        cases e : isPiv k p (p k)
        · rfl
        · obtain ⟨i, hi, e2⟩ := isPiv_iff.1 e
          have := h.up i k hi (by omega)
          omega
      rw [cnt_congr (g := fun j => isPiv k p j || j == p k) fun j _ => by
        rw [Bool.eq_iff_iff, Bool.or_eq_true, isPiv_iff, isPiv_iff, beq_iff_eq]
        constructor
        · rintro ⟨i, hi, e⟩
          rcases Nat.lt_or_eq_of_le (Nat.le_of_lt_succ hi) with h3 | rfl
          · exact .inl ⟨i, h3, e⟩
          · exact .inr e.symm
        · rintro (⟨i, hi, e⟩ | e)
          · exact ⟨i, by omega, e⟩
          · exact ⟨k, by omega, e.symm⟩, cnt_or (h.lt k (by omega)) hno, ih (by omega)]
  exact key n (Nat.le_refl _)
theorem Red.count_free (h : Red n w R p) : cnt w (fun j => !isPiv n p j) = w - n := by
  have := cnt_not w (isPiv n p)
  rw [h.count] at this; omega
theorem nul_piv (h : Red n w R p) {f i : Nat} (hf : isPiv n p f = false) (hi : i < n) : nul n R p f (p i) = 0 - R i f := by
  unfold nul
  rw [ind_ne (isPiv_no hf hi)]
  have : lin n (fun i => ind (p i)) (fun i => R i f) (p i) = R i f := by
    unfold lin
    rw [sum_one hi fun k hk hne => by
      have : p i ≠ p k := fun e => by
        rcases Nat.lt_or_gt_of_ne hne with h3 | h3
        · have := h.up k i h3 hi; omega
        · have := h.up i k h3 hk; omega
      dsimp only
      rw [ind_ne this]; grind]
    dsimp only
    rw [ind_same]; grind
  rw [this]; grind
theorem nul_free {f j : Nat} (hj : isPiv n p j = false) : nul n R p f j = ind f j := by
  unfold nul
  have : lin n (fun i => ind (p i)) (fun i => R i f) j = 0 := sum_zero fun i hi => by
    dsimp only
    rw [ind_ne (fun e => isPiv_no hj hi e.symm)]; grind
  rw [this]; grind
/-- Null vectors are orthogonal to the rows. -/
theorem Red.nul_dot (h : Red n w R p) {f : Nat} (hf : f < w) {k : Nat} (hk : k < n) : dotw w (R k) (nul n R p f) = 0 := by
  rw [dotw_comm]
  unfold nul
  rw [dotw_add, dotw_ind hf, dotw_lin, sum_congr (g := fun i => R i f * R k (p i)) fun i hi => by rw [dotw_ind (h.lt i hi)]]
  rw [sum_one hk fun i hi hne => by rw [h.zero k i hk hi hne]; grind, h.one k hk]; grind
/-- What is orthogonal to the rows and has 0 at the free columns is 0. -/
theorem Red.orth_none (h : Red n w R p) {u : V} (hu : ∀ k, k < n → dotw w (R k) u = 0) (h0 : ∀ j, j < w → isPiv n p j = false → u j = 0) : ∀ j, j < w → u j = 0 := by
  intro j hj
  cases e : isPiv n p j
  · exact h0 j hj e
  · obtain ⟨i, hi, rfl⟩ := isPiv_iff.1 e
    have h1 := hu i hi
    unfold dotw at h1
    rw [sum_one hj fun k hk hne => by
      cases e2 : isPiv n p k
      · rw [h0 k hk e2]; grind
      · obtain ⟨i2, hi2, rfl⟩ := isPiv_iff.1 e2
        rw [h.zero i i2 hi hi2 (fun e3 => hne (by rw [e3]))]; grind, h.one i hi] at h1
    grind
/-- The null vectors of all free columns: a family of w - n, orthogonal to the rows; independent; and they span what is orthogonal to the rows. -/
theorem Red.null (h : Red n w R p) : ∃ e : Nat → Nat, (∀ t, t < w - n → e t < w ∧ isPiv n p (e t) = false) ∧ (∀ s t, s < t → t < w - n → e s < e t) ∧ (∀ j, j < w → isPiv n p j = false → ∃ t, t < w - n ∧ e t = j) ∧
    Indep (w - n) (fun t => nul n R p (e t)) ∧ ∀ u : V, (∀ j, w ≤ j → u j = 0) → (∀ k, k < n → dotw w (R k) u = 0) → ∀ j, j < w → u j = lin (w - n) (fun t => nul n R p (e t)) (fun t => u (e t)) j := by
  obtain ⟨e, h1, h2, h3⟩ := enum w (fun j => !isPiv n p j)
  rw [h.count_free] at h1 h2 h3
  have h1' : ∀ t, t < w - n → e t < w ∧ isPiv n p (e t) = false := fun t ht => ⟨(h1 t ht).1, by simpa using (h1 t ht).2⟩
  have h3' : ∀ j, j < w → isPiv n p j = false → ∃ t, t < w - n ∧ e t = j := fun j hj hp => h3 j hj (by rw [hp]; rfl)
  have hinj : ∀ s t, s < w - n → t < w - n → s ≠ t → e s ≠ e t := fun s t hs ht hne => by
    rcases Nat.lt_or_gt_of_ne hne with h4 | h4
    · have := h2 s t h4 ht; omega
    · have := h2 t s h4 hs; omega
  have hat : ∀ (c : Nat → F) t, t < w - n → lin (w - n) (fun t => nul n R p (e t)) c (e t) = c t := fun c t ht => by
    unfold lin
    rw [sum_one ht fun s hs hne => by dsimp only; rw [nul_free (h1' t ht).2, ind_ne (hinj t s ht hs (fun e => hne e.symm))]; grind]
    dsimp only
    rw [nul_free (h1' t ht).2, ind_same]; grind
  refine ⟨e, h1', h2, h3', fun c hc t ht => by rw [← hat c t ht]; exact hc _, fun u hs hu j hj => ?_⟩
  have hd := h.orth_none (u := fun j => u j + (0 - 1) * lin (w - n) (fun t => nul n R p (e t)) (fun t => u (e t)) j) (fun k hk => by
      rw [dotw_comm, dotw_add, dotw_comm, hu k hk, dotw_lin, sum_zero fun t ht => by rw [dotw_comm, h.nul_dot (h1' t ht).1 hk]; grind]; grind)
    (fun j hj hp => by
      obtain ⟨t, ht, rfl⟩ := h3' j hj hp
      show u (e t) + (0 - 1) * lin (w - n) (fun t => nul n R p (e t)) (fun t => u (e t)) (e t) = 0
      rw [hat _ t ht]; grind) j hj
  have hd' : u j + (0 - 1) * lin (w - n) (fun t => nul n R p (e t)) (fun t => u (e t)) j = 0 := hd
  grind
/-- What is orthogonal to all null vectors is in the span of the rows. -/
theorem Red.orth_back (h : Red n w R p) {v : V} (hv : ∀ f, f < w → isPiv n p f = false → dotw w v (nul n R p f) = 0) : ∀ j, j < w → v j = lin n R (fun i => v (p i)) j := by
  have h0 : ∀ i, i < n → v (p i) + (0 - 1) * lin n R (fun i => v (p i)) (p i) = 0 := fun i hi => by rw [h.at_ (fun i => v (p i)) hi]; grind
  intro j hj
  cases e : isPiv n p j
  · have h1 : dotw w (fun j => v j + (0 - 1) * lin n R (fun i => v (p i)) j) (nul n R p j) = 0 := by
      rw [dotw_add, hv j hj e, dotw_lin, sum_zero fun i hi => by rw [h.nul_dot hj hi]; grind]; grind
    unfold dotw at h1
    rw [sum_one hj fun k hk hne => by
      cases e2 : isPiv n p k
      · rw [nul_free e2, ind_ne hne]; grind
      · obtain ⟨i, hi, rfl⟩ := isPiv_iff.1 e2
        show (v (p i) + (0 - 1) * lin n R (fun i => v (p i)) (p i)) * _ = 0
        rw [h0 i hi]; grind, nul_free e, ind_same] at h1
    grind
  · obtain ⟨i, hi, rfl⟩ := isPiv_iff.1 e
    have := h0 i hi
    grind
end

/-! polynomials, and rows of powers -/
theorem mul_ne {inv : F → F} (hinv : ∀ x : F, x ≠ 0 → x * inv x = 1) {a b : F} (ha : a ≠ 0) (hb : b ≠ 0) : a * b ≠ 0 := fun h => by
  have h1 := hinv b hb
  apply ha
  have : a * b * inv b = 0 := by rw [h]; grind
  grind
def evalP : List F → F → F
  | [], _ => 0
  | a :: as, x => a + x * evalP as x
def addc (a : F) : List F → List F
  | [] => [a]
  | b :: bs => (a + b) :: bs
theorem eval_addc (a : F) (bs : List F) (x : F) : evalP (addc a bs) x = a + evalP bs x := by
  cases bs with
  | nil => simp only [addc, evalP]; grind
  | cons b bs => simp only [addc, evalP]; grind
/-- times (x - r) -/
def mulr (r : F) : List F → List F
  | [] => []
  | a :: as => (0 - r * a) :: addc a (mulr r as)
theorem eval_mulr (r : F) (as : List F) (x : F) : evalP (mulr r as) x = (x - r) * evalP as x := by
  induction as with
  | nil => simp only [mulr, evalP]; grind
  | cons a as ih => simp only [mulr, evalP]; rw [eval_addc, ih]; grind
theorem addc_len (a : F) (bs : List F) : (addc a bs).length = max 1 bs.length := by
  cases bs with
  | nil => rfl
  | cons b bs => simp [addc]
theorem mulr_len (r : F) (as : List F) : (mulr r as).length ≤ as.length + 1 := by
  induction as with
  | nil => simp [mulr]
  | cons a as ih => simp only [mulr, List.length_cons, addc_len]; omega
/-- The product of all (x - r). -/
def lagr : List F → List F
  | [] => [1]
  | r :: rs => mulr r (lagr rs)
theorem lagr_len (rs : List F) : (lagr rs).length ≤ rs.length + 1 := by
  induction rs with
  | nil => exact Nat.le_refl _
  | cons r rs ih => have := mulr_len r (lagr rs); simp only [lagr, List.length_cons]; omega
theorem lagr_zero {rs : List F} {x : F} (h : x ∈ rs) : evalP (lagr rs) x = 0 := by
  induction rs with
  | nil => cases h
  | cons r rs ih =>
    simp only [lagr]
    rw [eval_mulr]
    rcases List.mem_cons.1 h with rfl | h
    · grind
    · rw [ih h]; grind
theorem lagr_ne {inv : F → F} (hinv : ∀ x : F, x ≠ 0 → x * inv x = 1) {rs : List F} {x : F} (h : x ∉ rs) : evalP (lagr rs) x ≠ 0 := by
  induction rs with
  | nil => simp only [lagr, evalP]; intro h0; have : (1 : F) = 0 := by grind
           exact absurd this (by decide)
  | cons r rs ih =>
    simp only [lagr]
    rw [eval_mulr]
    refine mul_ne hinv (fun h0 => h ?_) (ih fun hm => h (List.mem_cons_of_mem _ hm))
    have : x = r := by grind
    rw [this]; exact List.mem_cons_self
/-- The row of powers of a point. -/
def prow (c : Nat) (x : F) : V := fun j => if j < c then x ^ j else 0
theorem sum_left (n : Nat) (f : Nat → F) : sum (n + 1) f = f 0 + sum n (fun i => f (i + 1)) := by
  induction n with
  | zero => simp only [sum]; grind
  | succ n ih => rw [sum, ih, sum]; grind
theorem pow_s (x : F) (j : Nat) : x ^ (j + 1) = x * x ^ j := by grind
theorem eval_dot (as : List F) (x : F) (c : Nat) (h : as.length ≤ c) : dotw c (fun j => as.getD j 0) (prow c x) = evalP as x := by
  have key : ∀ (as : List F) (c : Nat), as.length ≤ c → sum c (fun j => as.getD j 0 * x ^ j) = evalP as x := by
    intro as
    induction as with
    | nil => intro c _; exact sum_zero fun j _ => by show (0 : F) * x ^ j = 0; grind
    | cons a as ih =>
      intro c hc
      obtain ⟨c, rfl⟩ : ∃ c', c = c' + 1 := ⟨c - 1, by simp at hc; omega⟩
      rw [sum_left, sum_congr (g := fun j => x * (as.getD j 0 * x ^ j)) fun j _ => by
        rw [List.getD_cons_succ, pow_s]; grind, sum_mul, ih c (by simpa using hc)]
      simp only [evalP, List.getD_cons_zero]
      have : x ^ 0 = (1 : F) := by grind
      rw [this]; grind
  rw [← key as c h]
  unfold dotw
  exact sum_congr fun j hj => by unfold prow; rw [if_pos hj]
/-- Rows of powers of distinct points, not more than columns, are independent. -/
theorem vander {inv : F → F} (hinv : ∀ x : F, x ≠ 0 → x * inv x = 1) {m c : Nat} (hm : m ≤ c) (x : Nat → F) (hx : ∀ i k, i < m → k < m → x i = x k → i = k) : Indep m (fun i => prow c (x i)) := by
  intro a ha i hi
  let rs := ((List.range m).filter (fun k => k != i)).map x
  have hlen : rs.length + 1 ≤ m := by
    show (((List.range m).filter (fun k => k != i)).map x).length + 1 ≤ m
    rw [List.length_map]
    have h1 : ((List.range m).filter (fun k => k != i)).length < (List.range m).length := List.length_filter_lt_length_iff_exists.2 ⟨i, List.mem_range.2 hi, by simp⟩
    rw [List.length_range] at h1; omega
  have hl : (lagr rs).length ≤ c := by have := lagr_len rs; omega
  have h0 : dotw c (lin m (fun i => prow c (x i)) a) (fun j => (lagr rs).getD j 0) = 0 := sum_zero fun j _ => by rw [ha j]; grind
  rw [dotw_lin, sum_one hi fun k hk hne => by
    rw [dotw_comm, eval_dot _ _ _ hl, lagr_zero (List.mem_map.2 ⟨k, List.mem_filter.2 ⟨List.mem_range.2 hk, by simpa using hne⟩, rfl⟩)]; grind] at h0
  rw [dotw_comm, eval_dot _ _ _ hl] at h0
  have hne : evalP (lagr rs) (x i) ≠ 0 := lagr_ne hinv fun hm => by
    obtain ⟨k, hk, e⟩ := List.mem_map.1 hm
    obtain ⟨hk1, hk2⟩ := List.mem_filter.1 hk
    have := hx k i (List.mem_range.1 hk1) hi e
    simp at hk2; exact hk2 this
  exact Classical.byContradiction fun hc => mul_ne hinv hc hne h0
/-- A part of independent vectors is independent. -/
theorem Indep.mono {m m' : Nat} {S : Nat → V} (h : Indep m S) (hm : m' ≤ m) : Indep m' S := by
  intro c hc i hi
  have := h (fun k => if k < m' then c k else 0) (fun j => by
    refine Eq.trans ?_ (hc j)
    show sum m (fun k => (if k < m' then c k else 0) * S k j) = sum m' (fun k => c k * S k j)
    have key : ∀ d, sum (m' + d) (fun k => (if k < m' then c k else 0) * S k j) = sum m' (fun k => c k * S k j) := fun d => by
      induction d with
      | zero => exact sum_congr fun k hk => by rw [if_pos (show k < m' from hk)]
      | succ d ih => 
        show sum (m' + d) (fun k => (if k < m' then c k else 0) * S k j) + (if m' + d < m' then c (m' + d) else 0) * S (m' + d) j = _
        rw [ih, if_neg (by omega)]; grind
    have := key (m - m')
    rwa [show m' + (m - m') = m by omega] at this) i (by omega)
  rwa [if_pos hi] at this
theorem Red.le {n w : Nat} {R : Nat → V} {p : Nat → Nat} (h : Red n w R p) : n ≤ w := by
  have := cnt_le w (isPiv n p)
  rwa [h.count] at this

/-! every family can be reduced; dimensions of sum and intersection -/
theorem exists_elim (inv : F → F) (hinv : ∀ x : F, x ≠ 0 → x * inv x = 1) (m : Nat) (M : Nat → V) (k : Nat) :
    ∃ (a : Nat) (R : Nat → V) (p : Nat → Nat), Elim m a k R p ∧ (∀ l, l < m → Span m M (R l)) ∧ ∀ l, l < m → Span m R (M l) := by
  induction k with
  | zero => exact ⟨0, M, fun _ => 0, Elim.start m M _, fun l hl => span_mem hl, fun l hl => span_mem hl⟩
  | succ k ih =>
    obtain ⟨a, R, p, h, h1, h2⟩ := ih
    by_cases h0 : ∀ l, a ≤ l → l < m → R l k = 0
    · exact ⟨a, R, p, h.none h0, h1, h2⟩
    · obtain ⟨q, hq⟩ := Classical.not_forall.1 h0
      obtain ⟨hq1, hq⟩ := Classical.not_imp.1 hq
      obtain ⟨hq2, hne⟩ := Classical.not_imp.1 hq
      exact ⟨a + 1, cleared inv R a q k, more p a k, h.pivot inv hinv hq1 hq2 hne, fun l hl => span_trans h1 (cleared_in inv R k (by omega) hq2 l hl),
        fun l hl => span_trans (in_cleared inv hinv R (by omega) hq2 hne) (h2 l hl)⟩
/-- What is 0 from w on. -/
def Supp (w : Nat) (v : V) : Prop := ∀ j, w ≤ j → v j = 0
theorem supp_span {m w : Nat} {M : Nat → V} (h : ∀ l, l < m → Supp w (M l)) {v : V} (hv : Span m M v) : Supp w v := by
  obtain ⟨c, rfl⟩ := hv
  intro j hj
  exact sum_zero fun i hi => by rw [h i hi j hj]; grind
theorem exists_red (inv : F → F) (hinv : ∀ x : F, x ≠ 0 → x * inv x = 1) {m w : Nat} {M : Nat → V} (hM : ∀ l, l < m → Supp w (M l)) :
    ∃ (n : Nat) (R : Nat → V) (p : Nat → Nat), Red n w R p ∧ n ≤ m ∧ (∀ i, i < n → Span m M (R i)) ∧ ∀ l, l < m → Span n R (M l) := by
  obtain ⟨a, R, p, h, h1, h2⟩ := exists_elim inv hinv m M w
  have hR : ∀ l, l < m → Supp w (R l) := fun l hl => supp_span hM (h1 l hl)
  exact ⟨a, R, p, h.red, h.le, fun i hi => h1 i (by have := h.le; omega), fun l hl => h.span (fun l j hl hj => hR l hl j hj) (h2 l hl)⟩
theorem sum_split (a b : Nat) (f : Nat → F) : sum (a + b) f = sum a f + sum b (fun i => f (a + i)) := by
  induction b with
  | zero => simp only [sum, Nat.add_zero]; grind
  | succ b ih => show sum (a + b) f + f (a + b) = _; rw [ih, sum]; grind
theorem choose_c {m n : Nat} {S T : Nat → V} (h : ∀ i, i < m → Span n S (T i)) : ∃ D : Nat → Nat → F, ∀ i, i < m → T i = lin n S (D i) := by
  have hch : ∀ i, ∃ d : Nat → F, i < m → T i = lin n S d := fun i => by
    by_cases hi : i < m
    · obtain ⟨d, hd⟩ := h i hi; exact ⟨d, fun _ => hd⟩
    · exact ⟨fun _ => 0, fun h => absurd h hi⟩
  exact Classical.axiomOfChoice hch
/-- The columns of a family. -/
def cols (g : Nat) (G : Nat → V) (j : Nat) : V := fun k => if k < g then G k j else 0
/-- Rows and columns have one rank. -/
theorem rank_cols (inv : F → F) (hinv : ∀ x : F, x ≠ 0 → x * inv x = 1) {g w s c : Nat} {G S Q : Nat → V} (hG : ∀ k, k < g → Supp w (G k)) (hS : Indep s S) (hQ : Indep c Q)
    (h1 : ∀ r, r < s → Span g G (S r)) (h2 : ∀ k, k < g → Span s S (G k)) (h3 : ∀ q, q < c → Span w (cols g G) (Q q)) (h4 : ∀ j, j < w → Span c Q (cols g G j)) : s = c := by
  obtain ⟨D, hD⟩ := choose_c h2
  obtain ⟨E, hE⟩ := choose_c h4
  refine Nat.le_antisymm ?_ ?_
  · refine exchange inv hinv c s (fun q => fun j => if j < w then E j q else 0) S hS fun r hr => span_trans (T := G) (m := g) (fun k hk => ?_) (h1 r hr)
    refine ⟨fun q => Q q k, ?_⟩
    funext j
    unfold lin
    by_cases hj : j < w
    · have := congrFun (hE j hj) k
      unfold cols lin at this
      rw [if_pos hk] at this
      rw [this]
      exact sum_congr fun q _ => by dsimp only; rw [if_pos hj]; grind
    · rw [hG k hk j (by omega)]
      exact (sum_zero fun q _ => by dsimp only; rw [if_neg hj]; grind).symm
  · refine exchange inv hinv s c (fun r => fun k => if k < g then D k r else 0) Q hQ fun q hq => span_trans (T := cols g G) (m := w) (fun j hj => ?_) (h3 q hq)
    refine ⟨fun r => S r j, ?_⟩
    funext k
    unfold lin cols
    by_cases hk : k < g
    · rw [if_pos hk, hD k hk]
      exact sum_congr fun r _ => by dsimp only; rw [if_pos hk]; grind
    · rw [if_neg hk]
      exact (sum_zero fun r _ => by dsimp only; rw [if_neg hk]; grind).symm
/-- The dimensions of a sum and of an intersection add up. -/
theorem dims (inv : F → F) (hinv : ∀ x : F, x ≠ 0 → x * inv x = 1) {w a b s i : Nat} {A B S I : Nat → V} (hA : Indep a A) (hB : Indep b B) (hS : Indep s S) (hI : Indep i I)
    (sA : ∀ k, k < a → Supp w (A k)) (sB : ∀ k, k < b → Supp w (B k)) (h1 : ∀ k, k < a → Span s S (A k)) (h2 : ∀ k, k < b → Span s S (B k))
    (h3 : ∀ r, r < s → Span (a + b) (fun k => if k < a then A k else B (k - a)) (S r)) (h4 : ∀ r, r < i → Span a A (I r)) (h5 : ∀ r, r < i → Span b B (I r))
    (h6 : ∀ v, Span a A v → Span b B v → Span i I v) : s + i = a + b := by
  let G : Nat → V := fun k => if k < a then A k else B (k - a)
  have hGa : ∀ k, k < a → G k = A k := fun k hk => if_pos hk
  have hGb : ∀ k, G (a + k) = B k := fun k => by show (if a + k < a then A (a + k) else B (a + k - a)) = B k; rw [if_neg (by omega)]; congr 1; omega
  have hlin : ∀ (x : Nat → F) j, lin (a + b) G x j = lin a A x j + lin b B (fun k => x (a + k)) j := fun x j => by
    unfold lin
    rw [sum_split]
    congr 1
    · exact sum_congr fun k hk => by rw [hGa k hk]
    · exact sum_congr fun k _ => by rw [hGb]
  have hG : ∀ k, k < a + b → Supp w (G k) := fun k hk => by
    by_cases h : k < a
    · rw [hGa k h]; exact sA k h
    · rw [show k = a + (k - a) by omega, hGb]; exact sB _ (by omega)
  have hGS : ∀ k, k < a + b → Span s S (G k) := fun k hk => by
    by_cases h : k < a
    · rw [hGa k h]; exact h1 k h
    · rw [show k = a + (k - a) by omega, hGb]; exact h2 _ (by omega)
  obtain ⟨c, Q, p, hQ, _, hQ1, hQ2⟩ := exists_red inv hinv (m := w) (w := a + b) (M := cols (a + b) G) (fun l _ k hk => if_neg (by omega))
  have hsc : s = c := rank_cols inv hinv hG hS hQ.indep h3 hGS hQ1 hQ2
  obtain ⟨e, e1, e2, e3, hN, hN2⟩ := hQ.null
  -- orthogonal to the columns: a relation
  have hrel : ∀ x : V, (∀ q, q < c → dotw (a + b) (Q q) x = 0) → ∀ j, lin (a + b) G x j = 0 := fun x hx j => by
    by_cases hj : j < w
    · obtain ⟨d, hd⟩ := hQ2 j hj
      have : dotw (a + b) (cols (a + b) G j) x = 0 := by
        rw [hd, dotw_lin]; exact sum_zero fun q hq => by rw [hx q hq]; grind
      rw [← this]
      exact sum_congr fun k hk => by unfold cols; rw [if_pos hk]; grind
    · exact sum_zero fun k hk => by rw [hG k hk j (by omega)]; grind
  have hrel2 : ∀ x : V, (∀ j, lin (a + b) G x j = 0) → ∀ q, q < c → dotw (a + b) (Q q) x = 0 := fun x hx q hq => by
    obtain ⟨d, hd⟩ := hQ1 q hq
    rw [hd, dotw_lin]
    refine sum_zero fun j hj => ?_
    have : dotw (a + b) (cols (a + b) G j) x = lin (a + b) G x j := sum_congr fun k hk => by unfold cols; rw [if_pos hk]; grind
    rw [this, hx j]; grind
  have hnrel : ∀ t, t < a + b - c → ∀ j, lin (a + b) G (nul c Q p (e t)) j = 0 := fun t ht => hrel _ fun q hq => hQ.nul_dot (e1 t ht).1 hq
  let P : Nat → V := fun t => lin a A (nul c Q p (e t))
  have hlinP : ∀ d j, lin (a + b - c) P d j = lin a A (lin (a + b - c) (fun t => nul c Q p (e t)) d) j := fun d j => by
    show sum _ (fun t => d t * sum a (fun k => nul c Q p (e t) k * A k j)) = sum a (fun k => sum _ (fun t => d t * nul c Q p (e t) k) * A k j)
    rw [sum_congr (g := fun t => sum a fun k => d t * (nul c Q p (e t) k * A k j)) fun t _ => by rw [sum_mul], sum_comm]
    refine sum_congr fun k _ => ?_
    rw [show sum (a + b - c) (fun t => d t * nul c Q p (e t) k) * A k j = A k j * sum (a + b - c) (fun t => d t * nul c Q p (e t) k) by grind, ← sum_mul]
    exact sum_congr fun t _ => by grind
  have hca : c ≤ a + b := hQ.le
  have hP : Indep (a + b - c) P := fun d hd t ht => by
    refine hN d (fun k => ?_) t ht
    let x : V := lin (a + b - c) (fun t => nul c Q p (e t)) d
    have hx0 : ∀ k, k < a → x k = 0 := hA x fun j => by rw [← hlinP]; exact hd j
    have hxr : ∀ j, lin (a + b) G x j = 0 := hrel x fun q hq => by
      rw [dotw_comm, dotw_lin]
      exact sum_zero fun t ht => by rw [dotw_comm, hQ.nul_dot (e1 t ht).1 hq]; grind
    have hxb : ∀ k, k < b → x (a + k) = 0 := hB _ fun j => by
      have h7 := hxr j
      rw [hlin, show lin a A x j = 0 from sum_zero fun k hk => by rw [hx0 k hk]; grind] at h7
      rw [← h7]; grind
    by_cases hk : k < a + b
    · by_cases h : k < a
      · exact hx0 k h
      · have := hxb (k - a) (by omega)
        rwa [show a + (k - a) = k by omega] at this
    · exact sum_zero fun t ht => by
        have hf : isPiv c p k = false := by
          cases h8 : isPiv c p k
          · rfl
          · obtain ⟨q, hq, e8⟩ := isPiv_iff.1 h8
            have := hQ.lt q hq; omega
        dsimp only
        rw [nul_free hf, ind_ne (by have := (e1 t ht).1; omega)]; grind
  have hle1 : a + b - c ≤ i := exchange inv hinv i _ I P hP fun t ht => h6 _ ⟨_, rfl⟩ ⟨fun k => (0 - 1) * nul c Q p (e t) (a + k), by
    funext j
    rw [lin_mul]
    have := hnrel t ht j
    rw [hlin] at this
    show lin a A (nul c Q p (e t)) j = _
    grind⟩
  have hle2 : i ≤ a + b - c := exchange inv hinv _ i P I hI fun r hr => by
    obtain ⟨al, hal⟩ := h4 r hr
    obtain ⟨be, hbe⟩ := h5 r hr
    let x : V := fun k => if k < a then al k else if k < a + b then (0 - 1) * be (k - a) else 0
    have hx1 : lin a A x = lin a A al := lin_congr (fun k hk => if_pos hk) fun _ _ => rfl
    have hx2 : ∀ j, lin b B (fun k => x (a + k)) j = (0 - 1) * lin b B be j := fun j => by
      rw [← lin_mul]
      refine congrFun (lin_congr (fun k hk => ?_) fun _ _ => rfl) j
      show (if a + k < a then al (a + k) else if a + k < a + b then (0 - 1) * be (a + k - a) else 0) = _
      rw [if_neg (by omega), if_pos (by omega), show a + k - a = k by omega]
    have hxr : ∀ j, lin (a + b) G x j = 0 := fun j => by rw [hlin, hx1, hx2, ← hal, ← hbe]; grind
    have hxs : ∀ k, a + b ≤ k → x k = 0 := fun k hk => by
      show (if k < a then al k else if k < a + b then (0 - 1) * be (k - a) else 0) = 0
      rw [if_neg (by omega), if_neg (by omega)]
    have hxN := hN2 x hxs (hrel2 x hxr)
    refine ⟨fun t => x (e t), ?_⟩
    funext j
    rw [hlinP, hal, ← hx1]
    exact congrFun (lin_congr (fun k hk => hxN k (by omega)) fun _ _ => rfl) j
  omega
end Go.Proofs.Ythhnfbhpdcemfaa.Lin
