/-
  Powers modulo a number; the field of 1019 elements and its group modulo 2039, over integers. No program.
  Vectors over the field of 1019 elements, as lists: over Fin 1019, and the lists of integers that stand for them. No program.
  Combinations of vectors over the field: they are linear in the coefficients, and a unit vector picks a row. No program.
  Matrices as lists of lists: what the functions of chapter 6 answer. No program.
  Linear algebra over the field of 1019 elements, by functions from the numbers: sums, what vectors span, independence and exchange, reduced rows (determined by what they span), elimination, null vectors and orthogonality, polynomials and rows of powers, dimensions of sum and intersection. No program.
  Matrices as functions of their row and column: what transposing twice, the identity and products give. No program.
  The reduced rows of a matrix: there are such rows, and one list alone. No program.
  Determinants by expansion along the first column: linear in each row, alternating; what row operations do. No program.
  Determinants: one alternating function alone; products; transposed matrices; triangles; full rank. No program.
  Inverses and determinants of matrices. No program.
  Null spaces and solutions of systems. No program.
-/
import Derived.Lib.Hide
namespace Go.Proofs.YtefcfeikooknmaaGreat.Field

/-- A power modulo m. -/
def pw (a n m : Nat) : Nat := a ^ n % m

theorem pw_lt (a n : Nat) {m : Nat} (hm : 0 < m) : pw a n m < m := Nat.mod_lt _ hm
theorem pw_add (a i j m : Nat) : pw a i m * pw a j m % m = pw a (i + j) m := by
  unfold pw; rw [← Nat.mul_mod, Nat.pow_add]
theorem pw_base (a n m : Nat) : pw (a % m) n m = pw a n m := by
  unfold pw; rw [← Nat.pow_mod]
theorem pw_mul (a i j m : Nat) : pw (pw a i m) j m = pw a (i * j) m := by
  unfold pw; rw [← Nat.pow_mod, Nat.pow_mul]
theorem pw_one (n m : Nat) (hm : 1 < m) : pw 1 n m = 1 := by
  unfold pw; rw [Nat.one_pow, Nat.mod_eq_of_lt hm]
theorem pw_zero (a m : Nat) (hm : 1 < m) : pw a 0 m = 1 := by
  unfold pw; rw [Nat.pow_zero, Nat.mod_eq_of_lt hm]
theorem pw_succ (a n m : Nat) : pw a n m * a % m = pw a (n + 1) m := by
  unfold pw; rw [Nat.mod_mul_mod, Nat.pow_succ]

/-- What squaring and multiplying keeps. -/
def Inv (a0 n0 m out a n : Nat) : Prop := out < m ∧ a < m ∧ out * a ^ n % m = pw a0 n0 m
theorem inv_start {a0 n0 m : Nat} (hm : 1 < m) (ha : a0 < m) : Inv a0 n0 m 1 a0 n0 := ⟨hm, ha, by rw [Nat.one_mul]; rfl⟩
theorem inv_end {a0 n0 m out a : Nat} (h : Inv a0 n0 m out a 0) : out = pw a0 n0 m := by
  obtain ⟨h1, _, h3⟩ := h
  rw [← h3, Nat.pow_zero, Nat.mul_one, Nat.mod_eq_of_lt h1]
theorem sq (a k m : Nat) : (a * a % m) ^ k % m = a ^ (2 * k) % m := by
  rw [← Nat.pow_mod, Nat.pow_mul, Nat.pow_two]
theorem inv_odd {a0 n0 m out a n : Nat} (hm : 0 < m) (h : Inv a0 n0 m out a n) (hn : n % 2 = 1) : Inv a0 n0 m (out * a % m) (a * a % m) (n / 2) := by
  obtain ⟨h1, h2, h3⟩ := h
  refine ⟨Nat.mod_lt _ hm, Nat.mod_lt _ hm, ?_⟩
  have e : n = 2 * (n / 2) + 1 := by omega
  rw [← h3, Nat.mul_mod, Nat.mod_mod, sq, ← Nat.mul_mod, Nat.mul_assoc]
  conv => rhs; rw [e, Nat.pow_succ]
  rw [Nat.mul_comm a]
theorem inv_even {a0 n0 m out a n : Nat} (hm : 0 < m) (h : Inv a0 n0 m out a n) (hn : n % 2 = 0) : Inv a0 n0 m out (a * a % m) (n / 2) := by
  obtain ⟨h1, h2, h3⟩ := h
  refine ⟨h1, Nat.mod_lt _ hm, ?_⟩
  have e : n = 2 * (n / 2) := by omega
  rw [← h3, Nat.mul_mod, sq, ← Nat.mul_mod]
  conv => rhs; rw [e]

/-- The elements. -/
def isEl (x : Int) : Bool := decide (0 ≤ x) && decide (x ≤ 1018)
theorem isEl_iff {x : Int} : isEl x = true ↔ 0 ≤ x ∧ x ≤ 1018 := by unfold isEl; simp
theorem isEl_no {x : Int} : isEl x = false ↔ ¬ (0 ≤ x ∧ x ≤ 1018) := by
  rw [← isEl_iff]; simp
def add (a b : Int) : Int := bif isEl a && isEl b then (a + b) % 1019 else 0
def sub (a b : Int) : Int := bif isEl a && isEl b then (a - b) % 1019 else 0
def mul (a b : Int) : Int := bif isEl a && isEl b then a * b % 1019 else 0
def pow (a n : Int) : Int := bif isEl a && (decide (0 ≤ n) && decide (n ≤ 1000000000000)) then (pw a.toNat n.toNat 1019 : Int) else 0
def inv (a : Int) : Int := bif isEl a && !decide (a = 0) then (pw a.toNat 1017 1019 : Int) else 0
/-- The group's elements. -/
def isG (x : Int) : Bool := (decide (1 ≤ x) && decide (x ≤ 2038)) && decide (pw x.toNat 1019 2039 = 1)
def powG (g n : Int) : Int := bif isG g && isEl n then (pw g.toNat n.toNat 2039 : Int) else 0
def mulG (a b : Int) : Int := bif isG a && isG b then a * b % 2039 else 0

theorem isG_iff {x : Int} : isG x = true ↔ (1 ≤ x ∧ x ≤ 2038) ∧ pw x.toNat 1019 2039 = 1 := by unfold isG; simp

theorem prod_in {a b : Int} {m : Int} (ha0 : 0 ≤ a) (ha1 : a ≤ m) (hb0 : 0 ≤ b) (hb1 : b ≤ m) : 0 ≤ a * b ∧ a * b ≤ m * m :=
  ⟨Int.mul_nonneg ha0 hb0, Int.mul_le_mul ha1 hb1 hb0 (Int.le_trans ha0 ha1)⟩

theorem rem (v q : Int) (hq : 0 < q) : (0 ≤ v.tmod q ∧ v.tmod q = v % q) ∨ (v.tmod q < 0 ∧ v.tmod q = v % q - q) := by
  rcases Int.lt_or_le v 0 with h | h
  · have h2 : (-v).tmod q = (-v) % q := Int.tmod_eq_emod_of_nonneg (by omega)
    rw [Int.neg_tmod] at h2
    have h3 : 0 ≤ (-v) % q := Int.emod_nonneg _ (by omega)
    have h4 : (-v) % q < q := Int.emod_lt_of_pos _ hq
    have h5 : 0 ≤ v % q := Int.emod_nonneg _ (by omega)
    have h6 : v % q < q := Int.emod_lt_of_pos _ hq
    have h7 : (v % q + (-v) % q) % q = 0 := by rw [← Int.add_emod, Int.add_right_neg, Int.zero_emod]
    by_cases h8 : (-v) % q = 0
    · left
      rw [h8, Int.add_zero, Int.emod_emod_of_dvd _ (Int.dvd_refl q)] at h7
      omega
    · right
      refine ⟨by omega, ?_⟩
      by_cases h9 : v % q + (-v) % q < q
      · rw [Int.emod_eq_of_lt (by omega) h9] at h7; omega
      · rw [← Int.sub_emod_right, Int.emod_eq_of_lt (by omega) (by omega)] at h7; omega
  · left
    rw [Int.tmod_eq_emod_of_nonneg h]
    exact ⟨Int.emod_nonneg _ (by omega), rfl⟩

/-- All powers of 2, as bits of one number. -/
def table : Nat → Nat × Nat
  | 0 => (1, 0)
  | k + 1 => let p := table k; (p.1 * 2 % 1019, p.2 ||| 1 <<< p.1)
theorem table_fst (k : Nat) : (table k).1 = pw 2 k 1019 := by
  induction k with
  | zero => rfl
  | succ k ih => show (table k).1 * 2 % 1019 = _; rw [ih, pw_succ]
theorem table_bit (k a : Nat) (h : (table k).2.testBit a = true) : ∃ i, i < k ∧ pw 2 i 1019 = a := by
  induction k with
  | zero => simp [table] at h
  | succ k ih =>
    have e : (table (k + 1)).2 = (table k).2 ||| 1 <<< (table k).1 := rfl
    rw [e, Nat.testBit_or, Bool.or_eq_true] at h
    rcases h with h | h
    · obtain ⟨i, hi, h⟩ := ih h
      exact ⟨i, by omega, h⟩
    · rw [Nat.one_shiftLeft, Nat.testBit_two_pow] at h
      exact ⟨k, by omega, by rw [← table_fst]; simpa using h⟩
theorem full_bit {t n a : Nat} (h : t + 2 = 2 ^ n) (h0 : 0 < a) (h1 : a < n) : t.testBit a = true := by
  obtain rfl : t = 2 ^ n - (1 + 1) := by omega
  rw [Nat.testBit_two_pow_sub_succ (Nat.one_lt_two_pow (by omega)), decide_eq_true h1, Bool.true_and]
  have : Nat.testBit 1 a = false := by
    rw [show (1 : Nat) = 2 ^ 0 from rfl, Nat.testBit_two_pow]; simp; omega
  rw [this]; rfl
theorem gen_of {n t a : Nat} (h : Nat.beq ((table n).2 + 2) (Nat.shiftLeft 1 t) = true) (h0 : 0 < a) (h1 : a < t) : ∃ i, i < n ∧ pw 2 i 1019 = a :=
  table_bit n a (full_bit (n := t) ((Nat.eq_of_beq_eq_true h).trans (Nat.one_shiftLeft t)) h0 h1)
theorem pw_of {k v : Nat} (h : Nat.beq (table k).1 v = true) : pw 2 k 1019 = v := by
  rw [← table_fst]; exact Nat.eq_of_beq_eq_true h
set_option maxRecDepth 100000 in
theorem table_all : Nat.beq ((table 1018).2 + 2) (Nat.shiftLeft 1 1019) = true := by decide +kernel
set_option maxRecDepth 100000 in
theorem table_1018 : Nat.beq (table 1018).1 1 = true := by decide +kernel
set_option maxRecDepth 100000 in
theorem table_1017 : Nat.beq (table 1017).1 510 = true := by decide +kernel
theorem two_generates {a : Nat} (h0 : 0 < a) (h1 : a < 1019) : ∃ i, i < 1018 ∧ pw 2 i 1019 = a := gen_of table_all h0 h1
set_option maxRecDepth 100000 in
theorem two_order : pw 2 1018 1019 = 1 := pw_of table_1018
set_option maxRecDepth 100000 in
theorem half : pw 2 1017 1019 = 510 := pw_of table_1017
theorem absurd_zero {n : Nat} (h0 : 0 < n) (h : pw 0 n 1019 = 1) : False := by
  obtain ⟨k, rfl⟩ : ∃ k, n = k + 1 := ⟨n - 1, by omega⟩
  unfold pw at h
  rw [Nat.pow_succ, Nat.mul_zero] at h
  exact absurd h (by decide)
set_option maxRecDepth 100000 in
theorem fermat {a : Nat} (h0 : 0 < a) (h1 : a < 1019) : pw a 1018 1019 = 1 := by
  obtain ⟨i, _, rfl⟩ := two_generates h0 h1
  rw [pw_mul, Nat.mul_comm, ← pw_mul, two_order, pw_one _ _ (by decide)]
/-- The walk's second part is the inverse. -/
theorem walk_inv (k : Nat) : pw 510 k 1019 = pw (pw 2 k 1019) 1017 1019 := by
  rw [pw_mul, Nat.mul_comm, ← pw_mul, half]
set_option maxRecDepth 100000 in
theorem two_pos (k : Nat) : 0 < pw 2 k 1019 := by
  rcases Nat.eq_zero_or_pos (pw 2 k 1019) with h | h
  · have h2 : pw 2 (k * 1018) 1019 = 1 := by rw [Nat.mul_comm, ← pw_mul, two_order, pw_one _ _ (by decide)]
    rw [← pw_mul, h] at h2
    exact (absurd_zero (by decide) h2).elim
  · exact h
/-- Before its round is done the walk does not meet 1 again. -/
def ones : Nat → Nat × Bool
  | 0 => (2, true)
  | k + 1 => let p := ones k; (p.1 * 2 % 1019, p.2 && !(p.1 == 1))
theorem ones_fst (k : Nat) : (ones k).1 = pw 2 (k + 1) 1019 := by
  induction k with
  | zero => rfl
  | succ k ih => show (ones k).1 * 2 % 1019 = _; rw [ih, pw_succ]
theorem ones_snd (k : Nat) (h : (ones k).2 = true) : ∀ i, i < k → pw 2 (i + 1) 1019 ≠ 1 := by
  induction k with
  | zero => intro i hi; omega
  | succ k ih =>
    have e : (ones (k + 1)).2 = ((ones k).2 && !((ones k).1 == 1)) := rfl
    rw [e, Bool.and_eq_true] at h
    intro i hi
    rcases Nat.lt_or_ge i k with h2 | h2
    · exact ih h.1 i h2
    · obtain rfl : i = k := by omega
      rw [← ones_fst]; simpa using h.2
set_option maxRecDepth 100000 in
theorem ones_all : (ones 1017).2 = true := by decide +kernel
theorem two_not {k : Nat} (h0 : 0 < k) (h1 : k < 1018) : pw 2 k 1019 ≠ 1 := by
  have h := ones_snd 1017 ones_all (k - 1) (by omega)
  rwa [Nat.sub_add_cancel h0] at h

theorem isEl_nat {a : Nat} (h : a < 1019) : isEl (a : Int) = true := isEl_iff.2 ⟨by omega, by omega⟩
theorem mul_nat {a b : Nat} (ha : a < 1019) (hb : b < 1019) : mul (a : Int) (b : Int) = ((a * b % 1019 : Nat) : Int) := by
  unfold mul
  rw [isEl_nat ha, isEl_nat hb, Int.natCast_emod, Int.natCast_mul]; rfl
theorem mul_two (k : Nat) : mul (pw 2 k 1019) 2 = (pw 2 (k + 1) 1019 : Nat) := by
  rw [← pw_succ]; exact mul_nat (pw_lt _ _ (by decide)) (by decide)
theorem mul_half (k : Nat) : mul (pw 510 k 1019) 510 = (pw 510 (k + 1) 1019 : Nat) := by
  rw [← pw_succ]; exact mul_nat (pw_lt _ _ (by decide)) (by decide)
theorem inv_nat {a : Nat} (h0 : 0 < a) (h1 : a < 1019) : inv (a : Int) = (pw a 1017 1019 : Nat) := by
  unfold inv
  rw [isEl_nat h1, Int.toNat_natCast]
  have : decide ((a : Int) = 0) = false := by simp; omega
  rw [this]; rfl
theorem inv_pw (k : Nat) : inv (pw 2 k 1019 : Nat) = (pw 510 k 1019 : Nat) := by
  rw [inv_nat (two_pos k) (pw_lt _ _ (by decide)), walk_inv]
/-- The whole walk has met every element that has an inverse. -/
theorem inv_none {a : Int} (h : ∀ j, j < 1018 → (pw 2 j 1019 : Int) ≠ a) : inv a = 0 := by
  unfold inv
  cases he : isEl a
  · rfl
  · obtain ⟨h0, h1⟩ := isEl_iff.1 he
    by_cases hz : a = 0
    · subst hz; rfl
    · obtain ⟨n, rfl⟩ : ∃ n : Nat, a = n := ⟨a.toNat, by omega⟩
      obtain ⟨i, hi, e⟩ := two_generates (a := n) (by omega) (by omega)
      exact absurd (by rw [e]) (h i hi)
theorem half_order : pw 510 1018 1019 = 1 := by
  rw [← half, pw_mul, Nat.mul_comm, ← pw_mul, two_order, pw_one _ _ (by decide)]

theorem el_mod (x : Int) : isEl (x % 1019) = true := isEl_iff.2 ⟨by omega, by omega⟩
theorem add_el {a b : Int} (ha : isEl a = true) (hb : isEl b = true) : add a b = (a + b) % 1019 := by unfold add; rw [ha, hb]; rfl
theorem sub_el {a b : Int} (ha : isEl a = true) (hb : isEl b = true) : sub a b = (a - b) % 1019 := by unfold sub; rw [ha, hb]; rfl
theorem mul_el {a b : Int} (ha : isEl a = true) (hb : isEl b = true) : mul a b = a * b % 1019 := by unfold mul; rw [ha, hb]; rfl
theorem add_no {a b : Int} (h : (isEl a && isEl b) = false) : add a b = 0 := by unfold add; rw [h]; rfl
theorem sub_no {a b : Int} (h : (isEl a && isEl b) = false) : sub a b = 0 := by unfold sub; rw [h]; rfl
theorem mul_no {a b : Int} (h : (isEl a && isEl b) = false) : mul a b = 0 := by unfold mul; rw [h]; rfl
theorem add_sub {a b : Int} (ha : isEl a = true) (hb : isEl b = true) : add (sub a b) b = a := by
  rw [sub_el ha hb, add_el (el_mod _) hb, Int.emod_add_emod, Int.sub_add_cancel]
  obtain ⟨h0, h1⟩ := isEl_iff.1 ha
  exact Int.emod_eq_of_lt h0 (by omega)
theorem distr {a b c : Int} (ha : isEl a = true) (hb : isEl b = true) (hc : isEl c = true) : add (mul a b) (mul a c) = mul a (add b c) := by
  rw [mul_el ha hb, mul_el ha hc, add_el (el_mod _) (el_mod _), add_el hb hc, mul_el ha (el_mod _), ← Int.add_emod, ← Int.mul_add, Int.mul_emod a ((b + c) % 1019), Int.emod_emod_of_dvd _ (Int.dvd_refl _), ← Int.mul_emod]
theorem mul_swap {a b : Int} (ha : isEl a = true) (hb : isEl b = true) : mul b a = mul a b := by
  rw [mul_el ha hb, mul_el hb ha, Int.mul_comm]
theorem el_nat {a : Int} (ha : isEl a = true) : ∃ n : Nat, a = n ∧ n < 1019 := by
  obtain ⟨h0, h1⟩ := isEl_iff.1 ha
  exact ⟨a.toNat, by omega, by omega⟩
theorem inv_el {a : Int} (ha : isEl a = true) (h : a ≠ 0) : isEl (inv a) = true ∧ inv a ≠ 0 ∧ mul a (inv a) = 1 := by
  obtain ⟨n, rfl, hn⟩ := el_nat ha
  have hp : 0 < n := by omega
  rw [inv_nat hp hn]
  have h1 : mul (n : Int) (pw n 1017 1019 : Nat) = 1 := by
    rw [mul_nat hn (pw_lt _ _ (by decide)), Nat.mul_comm, pw_succ, fermat hp hn]; rfl
  refine ⟨isEl_nat (pw_lt _ _ (by decide)), fun h0 => ?_, h1⟩
  rw [h0, mul_el ha rfl, Int.mul_zero] at h1
  exact absurd h1 (by decide)
theorem inv_0 : inv 0 = 0 := rfl
theorem pow_el {a : Int} {n : Nat} (ha : isEl a = true) (hn : n ≤ 1000000000000) : pow a n = (pw a.toNat n 1019 : Nat) := by
  unfold pow
  have h : (decide ((0 : Int) ≤ n) && decide ((n : Int) ≤ 1000000000000)) = true := by simp; omega
  rw [ha, h, Int.toNat_natCast]; rfl
theorem pow_2 {a : Int} (ha : isEl a = true) : mul a a = pow a 2 := by
  have h := pow_el (n := 2) ha (by decide)
  obtain ⟨n, rfl, hn⟩ := el_nat ha
  rw [show ((2 : Nat) : Int) = 2 from rfl] at h
  rw [h, mul_nat hn hn, Int.toNat_natCast]; unfold pw; rw [Nat.pow_two]
theorem pow_1018 {a : Int} (ha : isEl a = true) (h0 : a ≠ 0) : pow a 1018 = 1 := by
  have h := pow_el (n := 1018) ha (by decide)
  obtain ⟨n, rfl, hn⟩ := el_nat ha
  rw [show ((1018 : Nat) : Int) = 1018 from rfl] at h
  rw [h, Int.toNat_natCast, fermat (by omega) hn]; rfl

/-- Exponents of an element of the group count modulo 1019. -/
theorem period {g : Nat} (h : pw g 1019 2039 = 1) (k : Nat) : pw g (k % 1019) 2039 = pw g k 2039 := by
  conv => rhs; rw [← Nat.div_add_mod k 1019, ← pw_add, ← pw_mul, h, pw_one _ _ (by decide), Nat.one_mul]
  rw [Nat.mod_eq_of_lt (pw_lt _ _ (by decide))]
theorem absurd_zeroG {n : Nat} (h0 : 0 < n) (h : pw 0 n 2039 = 1) : False := by
  obtain ⟨k, rfl⟩ : ∃ k, n = k + 1 := ⟨n - 1, by omega⟩
  unfold pw at h
  rw [Nat.pow_succ, Nat.mul_zero] at h
  exact absurd h (by decide)
theorem isG_pw {g : Nat} (h : pw g 1019 2039 = 1) (k : Nat) : isG (pw g k 2039 : Nat) = true := by
  have h1 : pw (pw g k 2039) 1019 2039 = 1 := by
    rw [pw_mul, Nat.mul_comm, ← pw_mul, h, pw_one _ _ (by decide)]
  have h2 := pw_lt g k (m := 2039) (by decide)
  have h3 : pw g k 2039 ≠ 0 := fun h0 => absurd_zeroG (by decide) (h0 ▸ h1)
  refine isG_iff.2 ⟨⟨by omega, by omega⟩, ?_⟩
  rw [Int.toNat_natCast]; exact h1
theorem powG_el {g : Int} {n : Nat} (hg : isG g = true) (hn : n < 1019) : powG g n = (pw g.toNat n 2039 : Nat) := by
  unfold powG
  rw [hg, isEl_nat hn, Int.toNat_natCast]; rfl
theorem mulG_pw {g : Nat} (h : pw g 1019 2039 = 1) (i j : Nat) : mulG (pw g i 2039 : Nat) (pw g j 2039 : Nat) = (pw g (i + j) 2039 : Nat) := by
  unfold mulG
  rw [isG_pw h, isG_pw h, ← pw_add, Int.natCast_emod, Int.natCast_mul]; rfl
theorem powG_no {g n : Int} (h : (isG g && isEl n) = false) : powG g n = 0 := by unfold powG; rw [h]; rfl
theorem mulG_no {g n : Int} (h : isG g = false) : mulG g n = 0 := by unfold mulG; rw [h]; rfl
/-- What the law on the group asks of an element and two exponents. -/
theorem groupLaw {g n m : Int} (hg : isG g = true) (hn : isEl n = true) (hm : isEl m = true) :
    isG (powG g n) = true ∧ mulG (powG g n) (powG g m) = powG g (add n m) ∧ powG g 0 = 1 ∧ mulG g (powG g 1018) = 1 := by
  have h := (isG_iff.1 hg).2
  obtain ⟨⟨g0, g1⟩, _⟩ := isG_iff.1 hg
  obtain ⟨i, rfl, hi⟩ := el_nat hn
  obtain ⟨j, rfl, hj⟩ := el_nat hm
  have e18 := powG_el (n := 1018) hg (by decide)
  have e0 := powG_el (n := 0) hg (by decide)
  rw [show ((1018 : Nat) : Int) = 1018 from rfl] at e18
  rw [show ((0 : Nat) : Int) = 0 from rfl] at e0
  rw [powG_el hg hi, powG_el hg hj, add_el hn hm, e18, e0]
  rw [show ((i : Int) + j) % 1019 = (((i + j) % 1019 : Nat) : Int) by omega, powG_el hg (Nat.mod_lt _ (by decide)), period h, mulG_pw h]
  refine ⟨isG_pw h _, rfl, by rw [pw_zero _ _ (by decide)]; rfl, ?_⟩
  have e1 : g = (pw g.toNat 1 2039 : Nat) := by
    unfold pw; rw [Nat.pow_one, Nat.mod_eq_of_lt (by omega)]; omega
  conv => lhs; arg 1; rw [e1]
  rw [mulG_pw h, h]; rfl
end Go.Proofs.YtefcfeikooknmaaGreat.Field
namespace Go.Proofs.YtefcfeikooknmaaGreat.Vec
open Go.Proofs.YtefcfeikooknmaaGreat.Field

abbrev F := Fin 1019
/-- The integer of an element. -/
def em (x : F) : Int := (x.val : Int)
theorem em_in (x : F) : 0 ≤ em x ∧ em x ≤ 1018 := by unfold em; have := x.isLt; omega
theorem em_el (x : F) : isEl (em x) = true := isEl_iff.2 (em_in x)
theorem em_inj {x y : F} (h : em x = em y) : x = y := Fin.ext (by unfold em at h; omega)
theorem em_add (x y : F) : em (x + y) = (em x + em y) % 1019 := by unfold em; rw [Fin.val_add]; omega
theorem em_mul (x y : F) : em (x * y) = em x * em y % 1019 := by unfold em; rw [Fin.val_mul, Int.natCast_emod, Int.natCast_mul]; rfl
theorem em_sub (x y : F) : em (x - y) = (em x - em y) % 1019 := by
  have h : em (x - y + y) = em x := by rw [show x - y + y = x by grind]
  rw [em_add] at h
  have h1 := em_in (x - y)
  have h2 := em_in x
  have h3 := em_in y
  omega
theorem em_0 : em 0 = 0 := rfl
theorem em_1 : em 1 = 1 := rfl
theorem em_mac (x y k : F) : em (x + y * k) = (em x + em y * em k) % 1019 := by
  rw [em_add, em_mul]; omega
theorem of_el {x : Int} (h : isEl x = true) : ∃ y : F, em y = x := by
  obtain ⟨h0, h1⟩ := isEl_iff.1 h
  exact ⟨⟨x.toNat, by omega⟩, by unfold em; simp; omega⟩
theorem add_em (x y : F) : add (em x) (em y) = em (x + y) := by rw [add_el (em_el x) (em_el y), em_add]
theorem mul_em (x y : F) : mul (em x) (em y) = em (x * y) := by rw [mul_el (em_el x) (em_el y), em_mul]
theorem sub_em (x y : F) : sub (em x) (em y) = em (x - y) := by rw [sub_el (em_el x) (em_el y), em_sub]

/-- The list of integers of a vector. -/
def ems (xs : List F) : List Int := xs.map em
theorem ems_len (xs : List F) : (ems xs).length = xs.length := by simp [ems]
theorem ems_inj {xs ys : List F} (h : ems xs = ems ys) : xs = ys := (List.map_inj_right (fun _ _ => em_inj)).1 h

/-- A valid vector. -/
def isVec (xs : List Int) : Bool := xs.all isEl && decide (xs.length ≤ 40)
theorem isVec_iff {xs : List Int} : isVec xs = true ↔ (∀ x ∈ xs, isEl x = true) ∧ xs.length ≤ 40 := by unfold isVec; simp
theorem isVec_ems {xs : List F} (h : xs.length ≤ 40) : isVec (ems xs) = true := by
  refine isVec_iff.2 ⟨fun x hx => ?_, by rw [ems_len]; exact h⟩
  obtain ⟨y, _, rfl⟩ := List.mem_map.1 hx
  exact em_el y
theorem all_ems {xs : List Int} (h : ∀ x ∈ xs, isEl x = true) : ∃ ys, ems ys = xs := by
  induction xs with
  | nil => exact ⟨[], rfl⟩
  | cons x xs ih =>
    obtain ⟨ys, rfl⟩ := ih fun y hy => h y (by simp [hy])
    obtain ⟨y, rfl⟩ := of_el (h x (by simp))
    exact ⟨y :: ys, rfl⟩
theorem of_vec {xs : List Int} (h : isVec xs = true) : ∃ ys, ems ys = xs ∧ ys.length ≤ 40 := by
  obtain ⟨h1, h2⟩ := isVec_iff.1 h
  obtain ⟨ys, rfl⟩ := all_ems h1
  exact ⟨ys, rfl, by rw [ems_len] at h2; exact h2⟩

/-- What the functions of the layer answer. -/
def mac (xs ys : List Int) (k : Int) : List Int := List.zipWith (fun x y => (x + y * k) % 1019) xs ys
def addScaled (xs ys : List Int) (k : Int) : List Int := bif ((isVec xs && isVec ys) && (xs.length == ys.length)) && isEl k then mac xs ys k else []
def scaled (xs : List Int) (k : Int) : List Int := xs.map fun x => x * k % 1019
def scale (xs : List Int) (k : Int) : List Int := bif isVec xs && isEl k then scaled xs k else []
def dotF (a b : List F) : F := (List.zipWith (· * ·) a b).foldl (· + ·) 0
def dots (xs ys : List Int) : Int := (List.zipWith (fun x y => x * y) xs ys).foldl (fun s p => (s + p) % 1019) 0
def dot (xs ys : List Int) : Int := bif (isVec xs && isVec ys) && (xs.length == ys.length) then dots xs ys else 0
def leadFrom : Int → List Int → Int
  | _, [] => -1
  | j, x :: xs => bif x == 0 then leadFrom (j + 1) xs else j
def lead (xs : List Int) : Int := leadFrom 0 xs
def units (n : Nat) (i : Int) : List Int := (List.range n).map fun (j : Nat) => bif (j : Int) == i then 1 else 0
def unit (n i : Int) : List Int := bif (decide (0 ≤ n) && decide (n ≤ 40)) && (decide (0 ≤ i) && decide (i ≤ n - 1)) then units n.toNat i else []

/-- .. over the field. -/
def macF (xs ys : List F) (k : F) : List F := List.zipWith (fun x y => x + y * k) xs ys
theorem mac_ems (xs ys : List F) (k : F) : mac (ems xs) (ems ys) (em k) = ems (macF xs ys k) := by
  unfold mac ems macF
  rw [List.zipWith_map, List.map_zipWith]
  congr 1; funext x y; exact (em_mac x y k).symm
theorem macF_len {xs ys : List F} {k : F} (h : xs.length = ys.length) : (macF xs ys k).length = xs.length := by simp [macF, h]
theorem addScaled_ems {xs ys : List F} {k : F} (h : xs.length = ys.length) (h2 : xs.length ≤ 40) : addScaled (ems xs) (ems ys) (em k) = ems (macF xs ys k) := by
  unfold addScaled
  rw [isVec_ems h2, isVec_ems (h ▸ h2), em_el, ems_len, ems_len, h]
  simp [mac_ems]
theorem scale_ems {xs : List F} {k : F} (h2 : xs.length ≤ 40) : scale (ems xs) (em k) = ems (xs.map (· * k)) := by
  unfold scale
  rw [isVec_ems h2, em_el]
  simp only [Bool.and_self, cond_true, scaled, ems, List.map_map]
  refine List.map_congr_left fun x _ => (em_mul x k).symm
theorem fold_em (l : List F) (c : F) (L : List Int) (h : L.map (· % 1019) = ems l) : L.foldl (fun s p => (s + p) % 1019) (em c) = em (l.foldl (· + ·) c) := by
  induction L generalizing l c with
  | nil =>
    obtain rfl : l = [] := by cases l with | nil => rfl | cons a b => simp [ems] at h
    rfl
  | cons p L ih =>
    cases l with
    | nil => simp [ems] at h
    | cons x l =>
      simp only [ems, List.map_cons, List.cons.injEq] at h
      rw [List.foldl_cons, List.foldl_cons, ← ih l (c + x) h.2]
      congr 1
      rw [em_add, ← h.1]; omega
theorem dot_ems {xs ys : List F} (h : xs.length = ys.length) (h2 : xs.length ≤ 40) : dot (ems xs) (ems ys) = em (dotF xs ys) := by
  unfold dot dots dotF
  rw [isVec_ems h2, isVec_ems (h ▸ h2), ems_len, ems_len, h]
  simp only [Bool.and_self, BEq.rfl, cond_true]
  refine fold_em _ 0 _ ?_
  unfold ems
  rw [List.zipWith_map, List.map_zipWith, List.map_zipWith]
  congr 1

theorem foldl_add (l : List F) (c : F) : l.foldl (· + ·) c = c + l.foldl (· + ·) 0 := by
  induction l generalizing c with
  | nil => simp
  | cons x l ih => simp only [List.foldl_cons]; rw [ih (c + x), ih (0 + x)]; grind
theorem dot_nil (b : List F) : dotF [] b = 0 := by simp [dotF]
theorem dot_cons (x y : F) (a b : List F) : dotF (x :: a) (y :: b) = x * y + dotF a b := by
  unfold dotF
  simp only [List.zipWith_cons_cons, List.foldl_cons]
  rw [foldl_add]; grind
theorem dot_mac {a b v : List F} (k : F) (h : a.length = b.length) (h2 : v.length = a.length) : dotF (macF a b k) v = dotF a v + k * dotF b v := by
  induction a generalizing b v with
  | nil =>
    obtain rfl : b = [] := by simpa using h.symm
    simp only [macF, List.zipWith_nil_left, dot_nil]; grind
  | cons x a ih =>
    cases b with
    | nil => simp at h
    | cons y b =>
      cases v with
      | nil => simp at h2
      | cons z v =>
        have := ih (b := b) (v := v) (by simpa using h) (by simpa using h2)
        rw [show macF (x :: a) (y :: b) k = (x + y * k) :: macF a b k from rfl, dot_cons, dot_cons, dot_cons, this]; grind
theorem dot_comm (a b : List F) : dotF a b = dotF b a := by
  unfold dotF
  rw [List.zipWith_comm]
  congr 2; funext x y; exact Fin.mul_comm _ _

theorem mac_scale (a b : List F) (k : F) : macF a (b.map (· * k)) 1 = macF a b k := by
  unfold macF
  rw [List.zipWith_map_right]
  congr 1; funext x y; grind
theorem mac_back {a b : List F} (k : F) (h : a.length = b.length) : macF (macF a b k) b (0 - k) = a := by
  induction a generalizing b with
  | nil => simp [macF]
  | cons x a ih =>
    cases b with
    | nil => simp at h
    | cons y b =>
      rw [show macF (macF (x :: a) (y :: b) k) (y :: b) (0 - k) = (x + y * k + y * (0 - k)) :: macF (macF a b k) b (0 - k) from rfl, ih (by simpa using h)]
      congr 1; grind
theorem mac_none (a : List F) : macF a a 1018 = a.map fun _ => 0 := by
  unfold macF
  rw [List.zipWith_self]
  congr 1; funext x; grind
theorem lead_zero (a : List F) (j : Int) : leadFrom j (ems (a.map fun _ => 0)) = -1 := by
  induction a generalizing j with
  | nil => rfl
  | cons x a ih => exact ih (j + 1)

/-! What the walks ask. -/
theorem take_more {α : Type} {xs : List α} {j : Nat} {x : α} (hx : xs[j]? = some x) : xs.take (j + 1) = xs.take j ++ [x] := by
  rw [List.take_add_one, hx]; rfl
theorem isVec_no_at {xs : List Int} {j : Nat} {x : Int} (hx : xs[j]? = some x) (h : isEl x = false) : isVec xs = false := by
  unfold isVec
  have : xs.all isEl = false := by
    rw [List.all_eq_false]; exact ⟨x, List.mem_of_getElem? hx, by rw [h]; simp⟩
  rw [this]; rfl
theorem isVec_all {xs : List Int} {n : Nat} (hl : xs.length = n) (h : ∀ x ∈ xs.take n, isEl x = true) : isVec xs = decide ((n : Int) ≤ 40) := by
  unfold isVec
  rw [List.take_of_length_le (Nat.le_of_eq hl)] at h
  have : xs.all isEl = true := List.all_eq_true.2 h
  rw [this, hl, Bool.true_and]; congr 1; simp; omega
theorem all_more {xs : List Int} {j : Nat} {x : Int} (hx : xs[j]? = some x) (h : ∀ y ∈ xs.take j, isEl y = true) (h1 : isEl x = true) : ∀ y ∈ xs.take (j + 1), isEl y = true := by
  rw [take_more hx]
  intro y hy
  rcases List.mem_append.1 hy with hy | hy
  · exact h y hy
  · obtain rfl := List.mem_singleton.1 hy; exact h1
theorem vec_el {xs : List Int} {j : Nat} {x : Int} (hv : isVec xs = true) (hx : xs[j]? = some x) : 0 ≤ x ∧ x ≤ 1018 :=
  isEl_iff.1 ((isVec_iff.1 hv).1 x (List.mem_of_getElem? hx))
theorem mac_get {xs ys : List Int} {k x y : Int} {j : Nat} (hx : xs[j]? = some x) (hy : ys[j]? = some y) : (mac xs ys k)[j]? = some ((x + y * k) % 1019) := by
  unfold mac; rw [List.getElem?_zipWith, hx, hy]
theorem mac_len {xs ys : List Int} (k : Int) (h : xs.length = ys.length) : (mac xs ys k).length = xs.length := by unfold mac; simp [h]
theorem scaled_get {xs : List Int} {k x : Int} {j : Nat} (hx : xs[j]? = some x) : (scaled xs k)[j]? = some (x * k % 1019) := by
  unfold scaled; rw [List.getElem?_map, hx]; rfl
theorem scaled_len (xs : List Int) (k : Int) : (scaled xs k).length = xs.length := by unfold scaled; simp
theorem dots_more {xs ys : List Int} {x y : Int} {j : Nat} (hx : xs[j]? = some x) (hy : ys[j]? = some y) : dots (xs.take (j + 1)) (ys.take (j + 1)) = (dots (xs.take j) (ys.take j) + x * y) % 1019 := by
  unfold dots
  rw [take_more hx, take_more hy, List.zipWith_append (by
    have h1 := (List.getElem?_eq_some_iff.1 hx).1
    have h2 := (List.getElem?_eq_some_iff.1 hy).1
    simp; omega), List.foldl_append]
  rfl
theorem fold_in (L : List Int) (c : Int) (h0 : 0 ≤ c) (h1 : c ≤ 1018) : 0 ≤ L.foldl (fun s p => (s + p) % 1019) c ∧ L.foldl (fun s p => (s + p) % 1019) c ≤ 1018 := by
  induction L generalizing c with
  | nil => exact ⟨h0, h1⟩
  | cons p L ih => rw [List.foldl_cons]; exact ih _ (by omega) (by omega)
theorem dots_in (xs ys : List Int) : 0 ≤ dots xs ys ∧ dots xs ys ≤ 1018 := fold_in _ 0 (by omega) (by omega)
theorem dots_full {xs ys : List Int} {n : Nat} (h1 : xs.length = n) (h2 : ys.length = n) : dots (xs.take n) (ys.take n) = dots xs ys := by
  rw [List.take_of_length_le (Nat.le_of_eq h1), List.take_of_length_le (Nat.le_of_eq h2)]
theorem lead_at {xs : List Int} {j : Nat} {x : Int} (hx : xs[j]? = some x) (h : ∀ y ∈ xs.take j, y = 0) (hne : x ≠ 0) (c : Int) : leadFrom c xs = c + j := by
  induction xs generalizing j c with
  | nil => simp at hx
  | cons a xs ih =>
    cases j with
    | zero =>
      obtain rfl : a = x := by simpa using hx
      have : (a == 0) = false := by simpa using hne
      simp [leadFrom, this]
    | succ j =>
      have ha : a = 0 := h a (by simp)
      rw [show leadFrom c (a :: xs) = leadFrom (c + 1) xs by simp [leadFrom, ha], ih (by simpa using hx) (fun y hy => h y (by simp [hy])) (c + 1)]
      omega
theorem lead_no {xs : List Int} (h : ∀ y ∈ xs, y = 0) (c : Int) : leadFrom c xs = -1 := by
  induction xs generalizing c with
  | nil => rfl
  | cons a xs ih =>
    have ha : a = 0 := h a (by simp)
    rw [show leadFrom c (a :: xs) = leadFrom (c + 1) xs by simp [leadFrom, ha], ih (fun y hy => h y (by simp [hy]))]
theorem zero_more {xs : List Int} {j : Nat} (hx : xs[j]? = some 0) (h : ∀ y ∈ xs.take j, y = 0) : ∀ y ∈ xs.take (j + 1), y = 0 := by
  rw [take_more hx]
  intro y hy
  rcases List.mem_append.1 hy with hy | hy
  · exact h y hy
  · exact List.mem_singleton.1 hy
theorem units_get {n j : Nat} {i : Int} (hj : j < n) : (units n i)[j]? = some (bif (j : Int) == i then 1 else 0) := by simp [units, hj]
theorem units_len (n : Nat) (i : Int) : (units n i).length = n := by simp [units]

/-- What Combine answers. -/
def combs (ws : Nat) (xss : List (List Int)) (cs : List Int) : List Int := (List.zip xss cs).foldl (fun acc p => addScaled acc p.1 p.2) (List.replicate ws 0)
def okRows (ws : Nat) (xss : List (List Int)) : Bool := xss.all fun xs => isVec xs && (xs.length == ws)
def combine (xss : List (List Int)) (cs : List Int) : List Int :=
  match xss with
  | [] => []
  | xs :: _ => bif ((xss.length == cs.length) && isVec cs) && okRows xs.length xss then combs xs.length xss cs else []
theorem combs_more {ws : Nat} {xss : List (List Int)} {cs xs : List Int} {c : Int} {j : Nat} (hx : xss[j]? = some xs) (hc : cs[j]? = some c) :
    combs ws (xss.take (j + 1)) (cs.take (j + 1)) = addScaled (combs ws (xss.take j) (cs.take j)) xs c := by
  unfold combs
  rw [take_more hx, take_more hc, List.zip_append (by
    have h1 := (List.getElem?_eq_some_iff.1 hx).1
    have h2 := (List.getElem?_eq_some_iff.1 hc).1
    simp; omega), List.foldl_append]
  rfl
theorem addScaled_len {xs ys : List Int} {k : Int} {ws : Nat} (h1 : isVec xs = true) (h2 : isVec ys = true) (h3 : isEl k = true) (h4 : xs.length = ws) (h5 : ys.length = ws) :
    addScaled xs ys k = mac xs ys k ∧ isVec (addScaled xs ys k) = true ∧ (addScaled xs ys k).length = ws := by
  obtain ⟨a, rfl, ha⟩ := of_vec h1
  obtain ⟨b, rfl, hb⟩ := of_vec h2
  obtain ⟨c, rfl⟩ := of_el h3
  rw [ems_len] at h4 h5
  rw [addScaled_ems (h4.trans h5.symm) ha, mac_ems]
  have hl := macF_len (k := c) (h4.trans h5.symm)
  exact ⟨rfl, isVec_ems (by omega), by rw [ems_len]; omega⟩

theorem combine_len {xss : List (List Int)} {cs : List Int} (h : xss.length ≠ cs.length) : combine xss cs = [] := by
  cases xss with
  | nil => rfl
  | cons xs r =>
    have : ((xs :: r).length == cs.length) = false := by simpa using h
    unfold combine; simp only [this]; rfl
theorem combine_cs {xss : List (List Int)} {cs : List Int} (h : isVec cs = false) : combine xss cs = [] := by
  cases xss with
  | nil => rfl
  | cons xs r => unfold combine; simp [h]
theorem combine_row {xss : List (List Int)} {cs xs ys : List Int} {j : Nat} (h0 : xss[0]? = some xs) (hj : xss[j]? = some ys) (h : (isVec ys && (ys.length == xs.length)) = false) : combine xss cs = [] := by
  cases xss with
  | nil => rfl
  | cons x r =>
    obtain rfl : x = xs := by simpa using h0
    have : okRows x.length (x :: r) = false := by
      unfold okRows
      rw [List.all_eq_false]; exact ⟨ys, List.mem_of_getElem? hj, by rw [h]; simp⟩
    unfold combine; simp only [this, Bool.and_false]; rfl
theorem combine_ok {xss : List (List Int)} {cs xs : List Int} {n : Nat} (h0 : xss[0]? = some xs) (hn : xss.length = n) (hl : xss.length = cs.length) (hv : isVec cs = true) (h : ∀ ys ∈ xss.take n, (isVec ys && (ys.length == xs.length)) = true) : combine xss cs = combs xs.length (xss.take n) (cs.take n) := by
  rw [List.take_of_length_le (Nat.le_of_eq hn)] at h ⊢
  rw [List.take_of_length_le (by omega)]
  cases xss with
  | nil => simp at h0
  | cons x r =>
    obtain rfl : x = xs := by simpa using h0
    have h1 : okRows x.length (x :: r) = true := List.all_eq_true.2 h
    have h2 : ((x :: r).length == cs.length) = true := by simpa using hl
    unfold combine; simp only [h1, h2, hv]; rfl
theorem rows_more {xss : List (List Int)} {ys : List Int} {j W : Nat} (hx : xss[j]? = some ys) (h : ∀ y ∈ xss.take j, (isVec y && (y.length == W)) = true) (h1 : (isVec ys && (ys.length == W)) = true) : ∀ y ∈ xss.take (j + 1), (isVec y && (y.length == W)) = true := by
  rw [take_more hx]
  intro y hy
  rcases List.mem_append.1 hy with hy | hy
  · exact h y hy
  · obtain rfl := List.mem_singleton.1 hy; exact h1
theorem scale_le (xs : List Int) (k : Int) : (scale xs k).length ≤ xs.length := by
  unfold scale
  cases isVec xs && isEl k
  · exact Nat.zero_le _
  · exact Nat.le_of_eq (scaled_len xs k)
theorem addScaled_le (xs ys : List Int) (k : Int) : (addScaled xs ys k).length ≤ xs.length := by
  unfold addScaled
  cases (isVec xs && isVec ys && (xs.length == ys.length)) && isEl k
  · exact Nat.zero_le _
  · show (mac xs ys k).length ≤ _
    unfold mac; rw [List.length_zipWith]; omega
theorem units_le (n i : Int) : (unit n i).length ≤ 40 := by
  unfold unit
  cases h : ((decide (0 ≤ n) && decide (n ≤ 40)) && (decide (0 ≤ i) && decide (i ≤ n - 1)))
  · exact Nat.zero_le _
  · have : 0 ≤ n ∧ n ≤ 40 := by simp at h; omega
    show (units n.toNat i).length ≤ _
    rw [units_len]; omega
end Go.Proofs.YtefcfeikooknmaaGreat.Vec
namespace Go.Proofs.YtefcfeikooknmaaGreat.Vec
open Go.Proofs.YtefcfeikooknmaaGreat.Field

/-- The sum of rows, each times its coefficient, on top of a. -/
def foldC (a : List F) : List (List F) → List F → List F
  | r :: rs, c :: cs => foldC (macF a r c) rs cs
  | _, _ => a
theorem foldC_zip (a : List F) (rs : List (List F)) (cs : List F) : (List.zip rs cs).foldl (fun acc p => macF acc p.1 p.2) a = foldC a rs cs := by
  induction rs generalizing a cs with
  | nil => cases cs <;> rfl
  | cons r rs ih =>
    cases cs with
    | nil => rfl
    | cons c cs => exact ih _ _
theorem foldC_len {a : List F} {rs : List (List F)} {cs : List F} {W : Nat} (ha : a.length = W) (h : ∀ r ∈ rs, r.length = W) : (foldC a rs cs).length = W := by
  induction rs generalizing a cs with
  | nil => cases cs <;> exact ha
  | cons r rs ih =>
    cases cs with
    | nil => exact ha
    | cons c cs => exact ih ((macF_len (ha.trans (h r (by simp)).symm)).trans ha) fun r' hr => h r' (by simp [hr])
theorem mix (a b r : List F) (c d : F) (h1 : a.length = r.length) (h2 : b.length = r.length) : macF (macF a b 1) r (c + d * 1) = macF (macF a r c) (macF b r d) 1 := by
  induction r generalizing a b with
  | nil =>
    obtain rfl : a = [] := by simpa using h1
    simp [macF]
  | cons x r ih =>
    cases a with
    | nil => simp at h1
    | cons y a =>
      cases b with
      | nil => simp at h2
      | cons z b =>
        have := ih a b (by simpa using h1) (by simpa using h2)
        show (y + z * 1 + x * (c + d * 1)) :: macF (macF a b 1) r (c + d * 1) = (y + x * c + (z + x * d) * 1) :: macF (macF a r c) (macF b r d) 1
        rw [this]; congr 1; grind
theorem foldC_add {a b : List F} {rs : List (List F)} {cs ds : List F} {W : Nat} (ha : a.length = W) (hb : b.length = W) (h : ∀ r ∈ rs, r.length = W) (hl : cs.length = ds.length) :
    foldC (macF a b 1) rs (macF cs ds 1) = macF (foldC a rs cs) (foldC b rs ds) 1 := by
  induction rs generalizing a b cs ds with
  | nil => simp [foldC]
  | cons r rs ih =>
    cases cs with
    | nil =>
      obtain rfl : ds = [] := by simpa using hl.symm
      simp [foldC, macF]
    | cons c cs =>
      cases ds with
      | nil => simp at hl
      | cons d ds =>
        have hr := h r (by simp)
        show foldC (macF (macF a b 1) r (c + d * 1)) rs (macF cs ds 1) = macF (foldC (macF a r c) rs cs) (foldC (macF b r d) rs ds) 1
        rw [mix a b r c d (ha.trans hr.symm) (hb.trans hr.symm)]
        exact ih ((macF_len (ha.trans hr.symm)).trans ha) ((macF_len (hb.trans hr.symm)).trans hb) (fun r' hr' => h r' (by simp [hr'])) (by simpa using hl)
theorem mac_map (a r : List F) (c k : F) : macF (a.map (· * k)) r (c * k) = (macF a r c).map (· * k) := by
  unfold macF
  rw [List.zipWith_map_left, List.map_zipWith]
  congr 1; funext x y; grind
theorem foldC_scale (a : List F) (rs : List (List F)) (cs : List F) (k : F) : foldC (a.map (· * k)) rs (cs.map (· * k)) = (foldC a rs cs).map (· * k) := by
  induction rs generalizing a cs with
  | nil => simp [foldC]
  | cons r rs ih =>
    cases cs with
    | nil => simp [foldC]
    | cons c cs =>
      show foldC (macF (a.map (· * k)) r (c * k)) rs (cs.map (· * k)) = (foldC (macF a r c) rs cs).map (· * k)
      rw [mac_map]; exact ih _ _
theorem mac_0 {a r : List F} (h : a.length = r.length) : macF a r 0 = a := by
  induction r generalizing a with
  | nil =>
    obtain rfl : a = [] := by simpa using h
    rfl
  | cons x r ih =>
    cases a with
    | nil => simp at h
    | cons y a =>
      show (y + x * 0) :: macF a r 0 = y :: a
      rw [ih (by simpa using h)]; congr 1; grind
theorem zeros_mac {r : List F} {W : Nat} (h : r.length = W) : macF (List.replicate W 0) r 1 = r := by
  subst h
  induction r with
  | nil => rfl
  | cons x r ih =>
    show (0 + x * 1) :: macF (List.replicate r.length 0) r 1 = x :: r
    rw [ih]; congr 1; grind
def unitsF (n i : Nat) : List F := (List.range n).map fun j => bif j == i then 1 else 0
theorem unitsF_zero (n : Nat) : unitsF (n + 1) 0 = 1 :: List.replicate n 0 := by
  unfold unitsF
  rw [List.range_succ_eq_map, List.map_cons, List.map_map]
  congr 1
  rw [List.eq_replicate_iff]
  refine ⟨by simp, fun x hx => ?_⟩
  obtain ⟨j, _, rfl⟩ := List.mem_map.1 hx
  rfl
theorem unitsF_succ (n i : Nat) : unitsF (n + 1) (i + 1) = 0 :: unitsF n i := by
  unfold unitsF
  rw [List.range_succ_eq_map, List.map_cons, List.map_map]
  congr 1
  refine List.map_congr_left fun j _ => ?_
  simp
theorem foldC_zeros {a : List F} {rs : List (List F)} {n W : Nat} (ha : a.length = W) (h : ∀ r ∈ rs, r.length = W) : foldC a rs (List.replicate n 0) = a := by
  induction rs generalizing n with
  | nil => simp [foldC]
  | cons r rs ih =>
    cases n with
    | zero => simp [foldC]
    | succ n =>
      show foldC (macF a r 0) rs (List.replicate n 0) = a
      rw [mac_0 (ha.trans (h r (by simp)).symm)]
      exact ih fun r' hr => h r' (by simp [hr])
theorem foldC_unit {a r : List F} {rs : List (List F)} {i W : Nat} (ha : a.length = W) (h : ∀ r ∈ rs, r.length = W) (hi : rs[i]? = some r) : foldC a rs (unitsF rs.length i) = macF a r 1 := by
  induction rs generalizing i with
  | nil => simp at hi
  | cons r' rs ih =>
    have hr := h r' (by simp)
    cases i with
    | zero =>
      obtain rfl : r' = r := by simpa using hi
      rw [List.length_cons, unitsF_zero]
      exact foldC_zeros ((macF_len (ha.trans hr.symm)).trans ha) fun q hq => h q (by simp [hq])
    | succ i =>
      rw [List.length_cons, unitsF_succ]
      show foldC (macF a r' 0) rs (unitsF rs.length i) = _
      rw [mac_0 (ha.trans hr.symm)]
      exact ih (fun q hq => h q (by simp [hq])) (by simpa using hi)

/-- The rows of integers. -/
def emss (rs : List (List F)) : List (List Int) := rs.map ems
theorem units_ems (n i : Nat) : units n i = ems (unitsF n i) := by
  unfold units ems unitsF
  rw [List.map_map]
  refine List.map_congr_left fun j _ => ?_
  have e : ((j : Int) == (i : Int)) = (j == i) := by rw [Bool.eq_iff_iff]; simp; omega
  rw [e]; cases h : (j == i) <;> simp [Function.comp, h, em]
theorem combs_fold (a : List F) (rs : List (List F)) (cs : List F) {W : Nat} (hW : W ≤ 40) (ha : a.length = W) (h : ∀ r ∈ rs, r.length = W) :
    (List.zip (emss rs) (ems cs)).foldl (fun acc p => addScaled acc p.1 p.2) (ems a) = ems (foldC a rs cs) := by
  induction rs generalizing a cs with
  | nil => cases cs <;> rfl
  | cons r rs ih =>
    cases cs with
    | nil => rfl
    | cons c cs =>
      have hr := h r (by simp)
      show (List.zip (emss rs) (ems cs)).foldl (fun acc p => addScaled acc p.1 p.2) (addScaled (ems a) (ems r) (em c)) = ems (foldC (macF a r c) rs cs)
      rw [addScaled_ems (ha.trans hr.symm) (ha ▸ hW)]
      exact ih (macF a r c) cs ((macF_len (ha.trans hr.symm)).trans ha) fun q hq => h q (by simp [hq])
theorem combs_ems (rs : List (List F)) (cs : List F) {W : Nat} (hW : W ≤ 40) (h : ∀ r ∈ rs, r.length = W) : combs W (emss rs) (ems cs) = ems (foldC (List.replicate W 0) rs cs) := by
  have h0 : List.replicate W (0 : Int) = ems (List.replicate W 0) := by simp [ems, em]
  unfold combs
  rw [h0]
  exact combs_fold _ rs cs hW (by simp) h
theorem okRows_ems {W : Nat} {xss : List (List Int)} (h : okRows W xss = true) : ∃ rs : List (List F), emss rs = xss ∧ (∀ r ∈ rs, r.length = W) := by
  induction xss with
  | nil => exact ⟨[], rfl, by simp⟩
  | cons xs xss ih =>
    unfold okRows at h
    rw [List.all_cons, Bool.and_eq_true] at h
    obtain ⟨rs, rfl, hrs⟩ := ih h.2
    obtain ⟨h1, h2⟩ := Bool.and_eq_true _ _ ▸ h.1
    obtain ⟨r, rfl, _⟩ := of_vec h1
    refine ⟨r :: rs, rfl, fun q hq => ?_⟩
    rcases List.mem_cons.1 hq with rfl | hq
    · rw [ems_len] at h2; simpa using h2
    · exact hrs q hq
/-- Combine of rows of one width. -/
theorem combine_ems {rs : List (List F)} {cs : List F} {W : Nat} (h0 : rs ≠ []) (hW : W ≤ 40) (h : ∀ r ∈ rs, r.length = W) (hl : rs.length = cs.length) (hc : cs.length ≤ 40) :
    combine (emss rs) (ems cs) = ems (foldC (List.replicate W 0) rs cs) := by
  cases rs with
  | nil => exact absurd rfl h0
  | cons r rs =>
    have hr := h r (by simp)
    have hok : okRows W (emss (r :: rs)) = true := by
      refine List.all_eq_true.2 fun q hq => ?_
      obtain ⟨p, hp, rfl⟩ := List.mem_map.1 hq
      have := h p hp
      rw [isVec_ems (by omega), ems_len, this]; simp
    have e1 : combine (emss (r :: rs)) (ems cs) = bif (((emss (r :: rs)).length == (ems cs).length) && isVec (ems cs)) && okRows (ems r).length (emss (r :: rs)) then combs (ems r).length (emss (r :: rs)) (ems cs) else [] := rfl
    rw [e1, ems_len, ems_len, hr, hok, isVec_ems hc]
    have e2 : (emss (r :: rs)).length = cs.length := by rw [← hl]; simp [emss]
    rw [e2]
    simp only [BEq.rfl, Bool.and_self, cond_true]
    exact combs_ems _ cs hW h
/-- What the law on combinations asks: where the combination is not empty. -/
theorem comb_facts {xss : List (List Int)} {cs ds : List Int} (hne : combine xss cs ≠ []) (hd : ∀ y ∈ ds, isEl y = true) (hl : ds.length = cs.length) :
    (∀ (k : Nat) (xs : List Int), xss[k]? = some xs → combine xss (unit xss.length k) = xs) ∧ addScaled (combine xss cs) (combine xss ds) 1 = combine xss (addScaled cs ds 1) ∧ scale (combine xss cs) 7 = combine xss (scale cs 7) := by
  have hlen : xss.length = cs.length := Classical.byContradiction fun h => hne (combine_len h)
  have hv : isVec cs = true := by
    cases h : isVec cs
    · exact absurd (combine_cs h) hne
    · rfl
  cases xss with
  | nil => exact absurd rfl hne
  | cons x0 r0 =>
    have hok : okRows x0.length (x0 :: r0) = true := by
      cases h : okRows x0.length (x0 :: r0)
      · exfalso
        apply hne
        unfold combine; simp only [h, Bool.and_false]; rfl
      · rfl
    have hW : x0.length ≤ 40 := by
      unfold okRows at hok
      rw [List.all_cons, Bool.and_eq_true, Bool.and_eq_true] at hok
      exact (isVec_iff.1 hok.1.1).2
    obtain ⟨rs, hrs, hw⟩ := okRows_ems hok
    obtain ⟨c, rfl, hc⟩ := of_vec hv
    obtain ⟨d, rfl⟩ := all_ems hd
    generalize x0.length = W at *
    rw [← hrs] at hlen ⊢
    have hrs0 : rs ≠ [] := by rintro rfl; simp [emss] at hrs
    have hrl : rs.length = c.length := by rw [ems_len] at hlen; simpa [emss] using hlen
    rw [ems_len, ems_len] at hl
    have hel : (emss rs).length = rs.length := by simp [emss]
    refine ⟨fun k xs hk => ?_, ?_, ?_⟩
    · have hk1 : k < rs.length := by rw [← hel]; exact (List.getElem?_eq_some_iff.1 hk).1
      obtain ⟨q, hq, rfl⟩ : ∃ q, rs[k]? = some q ∧ ems q = xs := by
        unfold emss at hk; rw [List.getElem?_map] at hk
        exact Option.map_eq_some_iff.1 hk
      have hu : unit (emss rs).length k = ems (unitsF rs.length k) := by
        unfold unit
        have h1 : ((decide ((0 : Int) ≤ ((emss rs).length : Nat)) && decide ((((emss rs).length : Nat) : Int) ≤ 40)) && (decide ((0 : Int) ≤ (k : Int)) && decide ((k : Int) ≤ (((emss rs).length : Nat) : Int) - 1))) = true := by simp; omega
        rw [h1, hel, Int.toNat_natCast, units_ems]; rfl
      have hqW := hw q (List.mem_of_getElem? hq)
      rw [hu, combine_ems hrs0 hW hw (by simp [unitsF]) (by simp [unitsF]; omega), foldC_unit (by simp) hw hq, zeros_mac hqW]
    · rw [show (1 : Int) = em 1 from rfl, addScaled_ems hl.symm hc, combine_ems hrs0 hW hw hrl hc, combine_ems hrs0 hW hw (hrl.trans hl.symm) (by omega),
        addScaled_ems (by rw [foldC_len (W := W) (by simp) hw, foldC_len (W := W) (by simp) hw]) (by rw [foldC_len (W := W) (by simp) hw]; exact hW),
        combine_ems hrs0 hW hw (hrl.trans (macF_len hl.symm).symm) (by rw [macF_len hl.symm]; exact hc), ← foldC_add (W := W) (by simp) (by simp) hw hl.symm]
      rw [zeros_mac (by simp)]
    · rw [show (7 : Int) = em 7 from rfl, scale_ems hc, combine_ems hrs0 hW hw hrl hc, combine_ems hrs0 hW hw (by simpa using hrl) (by simpa using hc), scale_ems (by rw [foldC_len (W := W) (by simp) hw]; exact hW), ← foldC_scale]
      congr 2
      rw [List.map_replicate]; congr 1
theorem combine_le40 (xss : List (List Int)) (cs : List Int) : (combine xss cs).length ≤ 40 := by
  by_cases hne : combine xss cs = []
  · rw [hne]; exact Nat.zero_le _
  · cases xss with
    | nil => exact Nat.zero_le _
    | cons x r =>
      have hlen : (x :: r).length = cs.length := Classical.byContradiction fun h => hne (combine_len h)
      have hv : isVec cs = true := by
        cases h : isVec cs
        · exact absurd (combine_cs h) hne
        · rfl
      have hok : okRows x.length (x :: r) = true := by
        cases h : okRows x.length (x :: r)
        · exfalso
          apply hne
          unfold combine; simp only [h, Bool.and_false]; rfl
        · rfl
      obtain ⟨rs, hrs, hw⟩ := okRows_ems hok
      obtain ⟨c, rfl, hc⟩ := of_vec hv
      have hW : x.length ≤ 40 := by
        unfold okRows at hok
        rw [List.all_cons, Bool.and_eq_true, Bool.and_eq_true] at hok
        exact (isVec_iff.1 hok.1.1).2
      rw [← hrs, combine_ems (by rintro rfl; simp [emss] at hrs) hW hw (by rw [← hrs, ems_len] at hlen; simpa [emss] using hlen) hc, ems_len, foldC_len (W := x.length) (by simp) hw]
      exact hW
end Go.Proofs.YtefcfeikooknmaaGreat.Vec
namespace Go.Proofs.YtefcfeikooknmaaGreat.Mat
open Go.Proofs.YtefcfeikooknmaaGreat.Field Go.Proofs.YtefcfeikooknmaaGreat.Vec

def colsOf (m : List (List Int)) : Nat := match m with | [] => 0 | xs :: _ => xs.length
def isMat (m : List (List Int)) : Bool := okRows (colsOf m) m && decide (m.length ≤ 40)
def identity (n : Int) : List (List Int) := bif decide (n ≤ 40) then (List.range n.toNat).map fun (i : Nat) => unit n i else []
def column (m : List (List Int)) (k : Nat) : List Int := m.map fun xs => xs[k]?.getD 0
def transpose (m : List (List Int)) : List (List Int) := bif isMat m then (List.range (colsOf m)).map (column m) else []
/-- A row times a matrix: the sum of its rows, each times the component. -/
def rowMul (xs : List Int) (b : List (List Int)) : List Int := combs (colsOf b) b xs
def mulMat (a b : List (List Int)) : List (List Int) := bif (isMat a && isMat b) && (colsOf a == b.length) then a.map fun xs => rowMul xs b else []
def mulVec (m : List (List Int)) (v : List Int) : List Int := bif (isMat m && isVec v) && (v.length == colsOf m) then m.map fun xs => dot xs v else []
def vander (ps : List Int) (c : Int) : List (List Int) := bif isVec ps && (decide (0 ≤ c) && decide (c ≤ 40)) then ps.map fun x => (List.range c.toNat).map fun (k : Nat) => Field.pow x k else []

theorem colsOf_get {m : List (List Int)} {xs : List Int} (h : m[0]? = some xs) : colsOf m = xs.length := by
  cases m with
  | nil => simp at h
  | cons x r =>
    obtain rfl : x = xs := by simpa using h
    rfl
theorem isMat_row {m : List (List Int)} {xs ys : List Int} {j : Nat} (h0 : m[0]? = some xs) (hj : m[j]? = some ys) (h : (isVec ys && (ys.length == xs.length)) = false) : isMat m = false := by
  have h1 : okRows (colsOf m) m = false := by
    unfold okRows
    rw [List.all_eq_false]; exact ⟨ys, List.mem_of_getElem? hj, by rw [colsOf_get h0, h]; simp⟩
  unfold isMat; rw [h1]; rfl
theorem isMat_all {m : List (List Int)} {n c : Nat} (hl : m.length = n) (hc : colsOf m = c) (h : ∀ y ∈ m.take n, (isVec y && (y.length == c)) = true) : isMat m = decide ((n : Int) ≤ 40) := by
  rw [List.take_of_length_le (Nat.le_of_eq hl)] at h
  have h1 : okRows (colsOf m) m = true := List.all_eq_true.2 (by rw [hc]; exact h)
  unfold isMat
  rw [h1, hl, Bool.true_and]; congr 1; simp; omega
theorem isMat_iff {m : List (List Int)} : isMat m = true ↔ (∀ xs ∈ m, isVec xs = true ∧ xs.length = colsOf m) ∧ m.length ≤ 40 := by
  unfold isMat okRows; simp
theorem isMat_at {m : List (List Int)} {xs : List Int} {j : Nat} (h : isMat m = true) (hx : m[j]? = some xs) : isVec xs = true ∧ xs.length = colsOf m := (isMat_iff.1 h).1 xs (List.mem_of_getElem? hx)
theorem mulVec_no {m : List (List Int)} {v : List Int} (h : ((isMat m && isVec v) && (v.length == colsOf m)) = false) : mulVec m v = [] := by unfold mulVec; rw [h]; rfl
theorem mulVec_ok {m : List (List Int)} {v : List Int} (h : ((isMat m && isVec v) && (v.length == colsOf m)) = true) : mulVec m v = m.map fun xs => dot xs v := by unfold mulVec; rw [h]; rfl
theorem map_more {α β : Type} {m : List α} {f : α → β} {x : α} {j : Nat} (h : m[j]? = some x) : (m.take (j + 1)).map f = (m.take j).map f ++ [f x] := by
  rw [take_more h, List.map_append]; rfl
theorem dot_in (xs ys : List Int) : 0 ≤ dot xs ys ∧ dot xs ys ≤ 1018 := by
  unfold dot
  cases (isVec xs && isVec ys) && (xs.length == ys.length)
  · exact ⟨Int.le_refl 0, show (0 : Int) ≤ 1018 by decide⟩
  · exact dots_in _ _
theorem range_map_more {β : Type} {f : Nat → β} {k j : Nat} (h : j < k) : ((List.range k).take (j + 1)).map f = ((List.range k).take j).map f ++ [f j] := map_more (by simp [h])
theorem range_map_full {β : Type} {f : Nat → β} {k : Nat} : ((List.range k).take k).map f = (List.range k).map f := by rw [List.take_of_length_le (by simp)]
theorem identity_is (n : Int) : ∃ k : Nat, k ≤ 40 ∧ identity n = (List.range k).map (fun (i : Nat) => unit n i) ∧ ((n ≤ 40 ∧ (k : Int) = n) ∨ (n < 0 ∧ k = 0) ∨ (40 < n ∧ k = 0)) := by
  unfold identity
  by_cases h : n ≤ 40
  · refine ⟨n.toNat, by omega, by simp [h], ?_⟩
    omega
  · exact ⟨0, by omega, by simp [h], by omega⟩
theorem vander_no {ps : List Int} {c : Int} (h : (isVec ps && (decide (0 ≤ c) && decide (c ≤ 40))) = false) : vander ps c = [] := by unfold vander; rw [h]; rfl
theorem vander_ok {ps : List Int} {c : Int} (h : (isVec ps && (decide (0 ≤ c) && decide (c ≤ 40))) = true) : vander ps c = ps.map fun x => (List.range c.toNat).map fun (k : Nat) => Field.pow x k := by unfold vander; rw [h]; rfl
theorem transpose_no {m : List (List Int)} (h : isMat m = false) : transpose m = [] := by unfold transpose; rw [h]; rfl
theorem transpose_ok {m : List (List Int)} (h : isMat m = true) : transpose m = (List.range (colsOf m)).map (column m) := by unfold transpose; rw [h]; rfl
theorem colsOf_le {m : List (List Int)} (h : isMat m = true) : colsOf m ≤ 40 := by
  cases m with
  | nil => exact Nat.zero_le _
  | cons x r =>
    have := (isMat_iff.1 h).1 x (List.mem_cons_self)
    rw [← this.2]; exact (isVec_iff.1 this.1).2
/-- A row of a matrix at a column. -/
theorem isMat_in {m : List (List Int)} {xs : List Int} {i k : Nat} (h : isMat m = true) (hx : m[i]? = some xs) (hk : k < colsOf m) : ∃ x, xs[k]? = some x ∧ 0 ≤ x ∧ x ≤ 1018 := by
  obtain ⟨h1, h2⟩ := isMat_at h hx
  have h3 : k < xs.length := by rw [h2]; exact hk
  exact ⟨xs[k], List.getElem?_eq_getElem h3, vec_el h1 (List.getElem?_eq_getElem h3)⟩
theorem mulMat_no {a b : List (List Int)} (h : ((isMat a && isMat b) && (colsOf a == b.length)) = false) : mulMat a b = [] := by unfold mulMat; rw [h]; rfl
theorem mulMat_ok {a b : List (List Int)} (h : ((isMat a && isMat b) && (colsOf a == b.length)) = true) : mulMat a b = a.map fun xs => rowMul xs b := by unfold mulMat; rw [h]; rfl
end Go.Proofs.YtefcfeikooknmaaGreat.Mat
namespace Go.Proofs.YtefcfeikooknmaaGreat.Lin
open Go.Proofs.YtefcfeikooknmaaGreat.Vec (F)

/-! sums -/
def sum : Nat → (Nat → F) → F
  | 0, _ => 0
  | n + 1, f => sum n f + f n
theorem sum_congr {n : Nat} {f g : Nat → F} (h : ∀ i, i < n → f i = g i) : sum n f = sum n g := by
  induction n with
  | zero => rfl
  | succ n ih => rw [sum, sum, ih fun i hi => h i (by omega), h n (by omega)]
theorem sum_add (n : Nat) (f g : Nat → F) : sum n (fun i => f i + g i) = sum n f + sum n g := by
  induction n with
  | zero => simp [sum]
  | succ n ih => rw [sum, ih, sum, sum]; grind
theorem sum_mul (n : Nat) (c : F) (f : Nat → F) : sum n (fun i => c * f i) = c * sum n f := by
  induction n with
  | zero => show (0 : F) = c * 0; grind
  | succ n ih => rw [sum, ih, sum]; grind
theorem sum_zero {n : Nat} {f : Nat → F} (h : ∀ i, i < n → f i = 0) : sum n f = 0 := by
  induction n with
  | zero => rfl
  | succ n ih => rw [sum, ih fun i hi => h i (by omega), h n (by omega)]; rfl
theorem sum_comm (n m : Nat) (f : Nat → Nat → F) : sum n (fun i => sum m (fun j => f i j)) = sum m (fun j => sum n (fun i => f i j)) := by
  induction n with
  | zero => exact (sum_zero fun _ _ => rfl).symm
  | succ n ih => rw [sum, ih, ← sum_add]; rfl
theorem sum_one {n i : Nat} (hi : i < n) {f : Nat → F} (h : ∀ j, j < n → j ≠ i → f j = 0) : sum n f = f i := by
  induction n with
  | zero => omega
  | succ n ih =>
    rw [sum]
    by_cases e : i = n
    · subst e
      rw [sum_zero fun j hj => h j (by omega) (by omega)]; grind
    · rw [ih (by omega) fun j hj => h j (by omega), h n (by omega) (fun e' => e e'.symm)]; grind
/-- All indices but one. -/
def leap (i0 i : Nat) : Nat := if i < i0 then i else i + 1
theorem sum_leap {n i0 : Nat} (h : i0 ≤ n) (f : Nat → F) : sum (n + 1) f = sum n (fun i => f (leap i0 i)) + f i0 := by
  induction n with
  | zero =>
    obtain rfl : i0 = 0 := by omega
    rfl
  | succ n ih =>
    by_cases e : i0 = n + 1
    · subst e
      rw [sum]
      congr 1
      exact sum_congr fun i hi => by rw [leap, if_pos hi]
    · rw [sum, ih (by omega), sum]
      rw [show leap i0 n = n + 1 by rw [leap, if_neg (by omega)]]
      grind

abbrev V := Nat → F
def lin (n : Nat) (S : Nat → V) (c : Nat → F) : V := fun j => sum n (fun i => c i * S i j)
def Span (n : Nat) (S : Nat → V) (v : V) : Prop := ∃ c, v = lin n S c
def Indep (n : Nat) (S : Nat → V) : Prop := ∀ c, (∀ j, lin n S c j = 0) → ∀ i, i < n → c i = 0

theorem lin_add (n : Nat) (S : Nat → V) (c d : Nat → F) (j : Nat) : lin n S (fun i => c i + d i) j = lin n S c j + lin n S d j := by
  unfold lin; rw [← sum_add]; exact sum_congr fun i _ => by grind
theorem lin_mul (n : Nat) (S : Nat → V) (k : F) (c : Nat → F) (j : Nat) : lin n S (fun i => k * c i) j = k * lin n S c j := by
  unfold lin; rw [← sum_mul]; exact sum_congr fun i _ => by grind
theorem lin_congr {n : Nat} {S T : Nat → V} {c d : Nat → F} (h : ∀ i, i < n → c i = d i) (h2 : ∀ i, i < n → S i = T i) : lin n S c = lin n T d := by
  funext j; exact sum_congr fun i hi => by rw [h i hi, h2 i hi]
def ind (i : Nat) : Nat → F := fun k => if k = i then 1 else 0
theorem ind_same (i : Nat) : ind i i = 1 := if_pos rfl
theorem ind_ne {i k : Nat} (h : k ≠ i) : ind i k = 0 := if_neg h
theorem lin_ind {n : Nat} (S : Nat → V) {i : Nat} (hi : i < n) (j : Nat) : lin n S (ind i) j = S i j := by
  unfold lin
  rw [sum_one hi fun k _ hk => by rw [ind_ne hk]; grind, ind_same]; grind
theorem span_mem {n : Nat} {S : Nat → V} {i : Nat} (hi : i < n) : Span n S (S i) := by
  exact ⟨ind i, by funext j; rw [lin_ind S hi]⟩
theorem span_lin {n m : Nat} {S T : Nat → V} (h : ∀ i, i < m → Span n S (T i)) (c : Nat → F) : Span n S (lin m T c) := by
  have hch : ∀ i, ∃ d : Nat → F, i < m → T i = lin n S d := fun i => by
    by_cases hi : i < m
    · obtain ⟨d, hd⟩ := h i hi; exact ⟨d, fun _ => hd⟩
    · exact ⟨fun _ => 0, fun h => absurd h hi⟩
  obtain ⟨D, hD⟩ := Classical.axiomOfChoice hch
  refine ⟨fun k => sum m fun i => c i * D i k, ?_⟩
  funext j
  unfold lin
  rw [sum_congr (g := fun i => sum n fun k => c i * (D i k * S k j)) fun i hi => by
    rw [hD i hi, sum_mul]; rfl]
  rw [sum_comm]
  refine sum_congr fun k _ => ?_
  rw [show (sum m fun i => c i * D i k) * S k j = S k j * (sum m fun i => c i * D i k) by grind, ← sum_mul]
  exact sum_congr fun i _ => by grind
theorem span_trans {n m : Nat} {S T : Nat → V} {v : V} (h : ∀ i, i < m → Span n S (T i)) (hv : Span m T v) : Span n S v := by
  obtain ⟨c, rfl⟩ := hv; exact span_lin h c
theorem span_add {n : Nat} {S : Nat → V} {u v : V} (hu : Span n S u) (hv : Span n S v) (k : F) : Span n S (fun j => u j + k * v j) := by
  obtain ⟨c, rfl⟩ := hu
  obtain ⟨d, rfl⟩ := hv
  exact ⟨fun i => c i + k * d i, by funext j; rw [lin_add, lin_mul]⟩

/-- Coefficients for all indices out of those for all but one. -/
def fill (i0 : Nat) (a : F) (c : Nat → F) : Nat → F := fun k => if k = i0 then a else c (if k < i0 then k else k - 1)
theorem fill_same (i0 : Nat) (a : F) (c : Nat → F) : fill i0 a c i0 = a := if_pos rfl
theorem fill_leap (i0 : Nat) (a : F) (c : Nat → F) (i : Nat) : fill i0 a c (leap i0 i) = c i := by
  unfold fill leap
  by_cases h : i < i0
  · rw [if_pos h, if_neg (by omega), if_pos h]
  · rw [if_neg h, if_neg (by omega), if_neg (by omega)]; rfl

theorem exchange (inv : F → F) (hinv : ∀ x : F, x ≠ 0 → x * inv x = 1) (n : Nat) : ∀ (m : Nat) (S T : Nat → V), Indep m T → (∀ i, i < m → Span n S (T i)) → m ≤ n := by
  induction n with
  | zero =>
    intro m S T hT hs
    refine Nat.le_of_not_lt fun hm => ?_
    have h0 : ∀ j, lin m T (ind 0) j = 0 := fun j => by
      rw [lin_ind T hm]
      obtain ⟨c, hc⟩ := hs 0 hm
      rw [hc]
      rfl
    have := hT _ h0 0 hm
    rw [ind_same] at this
    exact absurd this (by decide)
  | succ n ih =>
    intro m S T hT hs
    have hch : ∀ i, ∃ d : Nat → F, i < m → T i = lin (n + 1) S d := fun i => by
      by_cases hi : i < m
      · obtain ⟨d, hd⟩ := hs i hi; exact ⟨d, fun _ => hd⟩
      · exact ⟨fun _ => 0, fun h => absurd h hi⟩
    obtain ⟨D, hD⟩ := Classical.axiomOfChoice hch
    by_cases hall : ∀ i, i < m → D i n = 0
    · refine Nat.le_succ_of_le (ih m S T hT fun i hi => ⟨D i, ?_⟩)
      rw [hD i hi]
      funext j
      show sum n (fun k => D i k * S k j) + D i n * S n j = _
      rw [hall i hi]; unfold lin; grind
    · obtain ⟨i0, hi0⟩ := Classical.not_forall.1 hall
      obtain ⟨hi0, ha⟩ := Classical.not_imp.1 hi0
      obtain ⟨m', rfl⟩ : ∃ m', m = m' + 1 := ⟨m - 1, by omega⟩
      have hai := hinv _ ha
      have hsk : ∀ i, i < m' → leap i0 i < m' + 1 := fun i hi => by unfold leap; split <;> omega
      refine Nat.succ_le_succ (ih m' S (fun i j => T (leap i0 i) j + (0 - D (leap i0 i) n * inv (D i0 n)) * T i0 j) ?_ ?_)
      · intro c hc i hi
        have key := hT (fill i0 (0 - sum m' fun i => c i * (D (leap i0 i) n * inv (D i0 n))) c) (fun j => by
          unfold lin
          rw [sum_leap (i0 := i0) (by omega), fill_same, sum_congr (g := fun i => c i * T (leap i0 i) j) fun i _ => by rw [fill_leap]]
          have h1 : sum m' (fun i => c i * (T (leap i0 i) j + (0 - D (leap i0 i) n * inv (D i0 n)) * T i0 j)) = 0 := hc j
          have e2 : sum m' (fun i => c i * (T (leap i0 i) j + (0 - D (leap i0 i) n * inv (D i0 n)) * T i0 j)) = sum m' (fun i => c i * T (leap i0 i) j) + sum m' (fun i => (0 - T i0 j) * (c i * (D (leap i0 i) n * inv (D i0 n)))) := by
            rw [← sum_add]; exact sum_congr fun i _ => by grind
          rw [e2, sum_mul] at h1
          grind) (leap i0 i) (hsk i hi)
        rw [fill_leap] at key
        exact key
      · intro i hi
        refine ⟨fun k => D (leap i0 i) k + (0 - D (leap i0 i) n * inv (D i0 n)) * D i0 k, ?_⟩
        funext j
        show T (leap i0 i) j + _ * T i0 j = _
        rw [lin_add, lin_mul, hD _ (hsk i hi), hD _ hi0]
        show (sum n (fun k => D (leap i0 i) k * S k j) + D (leap i0 i) n * S n j) + (0 - D (leap i0 i) n * inv (D i0 n)) * (sum n (fun k => D i0 k * S k j) + D i0 n * S n j) = _
        unfold lin
        grind


/-- Rows in reduced form: each has a 1 at its pivot, the others have 0 there, nothing stands ahead of it; pivots increase. -/
structure Red (n w : Nat) (R : Nat → V) (p : Nat → Nat) : Prop where
  lt : ∀ i, i < n → p i < w
  up : ∀ i k, i < k → k < n → p i < p k
  one : ∀ i, i < n → R i (p i) = 1
  zero : ∀ i k, i < n → k < n → k ≠ i → R i (p k) = 0
  ahead : ∀ i j, i < n → j < p i → R i j = 0

section
variable {n w n' w' : Nat} {R R' : Nat → V} {p p' : Nat → Nat}
theorem Red.at_ (h : Red n w R p) (c : Nat → F) {i : Nat} (hi : i < n) : lin n R c (p i) = c i := by
  unfold lin
  rw [sum_one hi fun k hk hne => by rw [h.zero k i hk hi (fun e => hne e.symm)]; grind, h.one i hi]; grind
theorem Red.indep (h : Red n w R p) : Indep n R := fun c hc i hi => by rw [← h.at_ c hi]; exact hc _
theorem Red.coeffs (h : Red n w R p) {v : V} (hv : Span n R v) : v = lin n R (fun i => v (p i)) := by
  obtain ⟨c, rfl⟩ := hv
  exact lin_congr (fun i hi => (h.at_ c hi).symm) fun _ _ => rfl
/-- What is in the span and has 0 at all pivots is 0. -/
theorem Red.none (h : Red n w R p) {v : V} (hv : Span n R v) (h0 : ∀ i, i < n → v (p i) = 0) (j : Nat) : v j = 0 := by
  rw [h.coeffs hv]
  exact sum_zero fun i hi => by show v (p i) * R i j = 0; rw [h0 i hi]; grind
/-- The first place of a vector of the span that is not 0 is a pivot. -/
theorem Red.lead (h : Red n w R p) {v : V} (hv : Span n R v) {j : Nat} (hj : v j ≠ 0) (ha : ∀ k, k < j → v k = 0) : ∃ i, i < n ∧ p i = j := by
  have hex : ∃ i, i < n ∧ v (p i) ≠ 0 := Classical.byContradiction fun hn => hj (h.none hv (fun i hi => Classical.byContradiction fun hne => hn ⟨i, hi, hne⟩) j)
  -- the least such i
  obtain ⟨i, ⟨hi, hne⟩, hmin⟩ : ∃ i, (i < n ∧ v (p i) ≠ 0) ∧ ∀ k, (k < n ∧ v (p k) ≠ 0) → i ≤ k := by
    obtain ⟨i, hi⟩ := hex
    induction i using Nat.strongRecOn with
    | _ i ih =>
      by_cases hs : ∃ k, k < i ∧ (k < n ∧ v (p k) ≠ 0)
      · obtain ⟨k, hk, hk2⟩ := hs; exact ih k hk hk2
      · exact ⟨i, hi, fun k hk => Nat.le_of_not_lt fun hlt => hs ⟨k, hlt, hk⟩⟩
  refine ⟨i, hi, ?_⟩
  have h1 : ¬ p i < j := fun hlt => hne (ha _ hlt)
  have h2 : ¬ j < p i := fun hlt => by
    apply hj
    rw [h.coeffs hv]
    refine sum_zero fun k hk => ?_
    by_cases hki : k < i
    · have : v (p k) = 0 := Classical.byContradiction fun hne2 => absurd (hmin k ⟨hk, hne2⟩) (by omega)
      show v (p k) * R k j = 0
      rw [this]; grind
    · have hlt2 : j < p k := by
        rcases Nat.lt_or_eq_of_le (Nat.le_of_not_lt hki) with h3 | rfl
        · exact Nat.lt_trans hlt (h.up i k h3 hk)
        · exact hlt
      rw [h.ahead k j hk hlt2]; grind
  omega
theorem mono_le {n : Nat} {p : Nat → Nat} (h : ∀ i k, i < k → k < n → p i < p k) {i k : Nat} (hk : k < n) (hik : i ≤ k) : p i ≤ p k := by
  rcases Nat.lt_or_eq_of_le hik with h1 | rfl
  · exact Nat.le_of_lt (h i k h1 hk)
  · exact Nat.le_refl _
/-- Increasing sequences with one image are one. -/
theorem one_image {n : Nat} {p q : Nat → Nat} (hp : ∀ i k, i < k → k < n → p i < p k) (hq : ∀ i k, i < k → k < n → q i < q k)
    (h1 : ∀ i, i < n → ∃ k, k < n ∧ q k = p i) (h2 : ∀ i, i < n → ∃ k, k < n ∧ p k = q i) : ∀ i, i < n → p i = q i := by
  intro i
  induction i using Nat.strongRecOn with
  | _ i ih =>
    intro hi
    obtain ⟨k, hk, e⟩ := h1 i hi
    obtain ⟨m, hm, e2⟩ := h2 i hi
    have a1 : ¬ k < i := fun hlt => by
      have h3 := ih k hlt hk
      have h4 := hp k i hlt hi
      omega
    have a2 : ¬ m < i := fun hlt => by
      have h3 := ih m hlt hm
      have h4 := hq m i hlt hi
      omega
    have b1 := mono_le hq hk (Nat.le_of_not_lt a1)
    have b2 := mono_le hp hm (Nat.le_of_not_lt a2)
    omega
/-- Reduced rows are determined by what they span. -/
theorem Red.uniq (inv : F → F) (hinv : ∀ x : F, x ≠ 0 → x * inv x = 1) (h : Red n w R p) (h' : Red n' w' R' p') (h1 : ∀ i, i < n → Span n' R' (R i)) (h2 : ∀ i, i < n' → Span n R (R' i)) :
    n = n' ∧ (∀ i, i < n → p i = p' i) ∧ ∀ i, i < n → R i = R' i := by
  have e : n = n' := Nat.le_antisymm (exchange inv hinv n' n R' R h.indep h1) (exchange inv hinv n n' R R' h'.indep h2)
  subst e
  have hone : (1 : F) ≠ 0 := by decide
  have hp : ∀ i, i < n → p i = p' i := one_image h.up h'.up
    (fun i hi => h'.lead (h1 i hi) (by rw [h.one i hi]; exact hone) fun k hk => h.ahead i k hi hk)
    (fun i hi => h.lead (h2 i hi) (by rw [h'.one i hi]; exact hone) fun k hk => h'.ahead i k hi hk)
  refine ⟨rfl, hp, fun i hi => ?_⟩
  rw [h'.coeffs (h1 i hi)]
  funext j
  have : lin n R' (fun k => R i (p' k)) j = lin n R' (ind i) j := by
    refine congrFun (lin_congr (fun k hk => ?_) fun _ _ => rfl) j
    rw [← hp k hk]
    by_cases hki : k = i
    · subst hki; rw [h.one k hk, ind_same]
    · rw [h.zero i k hi hk hki, ind_ne hki]
  rw [this, lin_ind R' hi]
end

/-! elimination -/
section
variable {m w at_ k : Nat} {M : Nat → V} {p : Nat → Nat}
/-- What elimination has reached when the columns below k are done and at_ pivots are found. -/
structure Elim (m at_ k : Nat) (M : Nat → V) (p : Nat → Nat) : Prop where
  le : at_ ≤ m
  lt : ∀ i, i < at_ → p i < k
  up : ∀ i l, i < l → l < at_ → p i < p l
  one : ∀ i, i < at_ → M i (p i) = 1
  zero : ∀ i l, i < at_ → l < m → l ≠ i → M l (p i) = 0
  ahead : ∀ i j, i < at_ → j < p i → M i j = 0
  rest : ∀ l j, at_ ≤ l → l < m → j < k → M l j = 0
theorem Elim.start (m : Nat) (M : Nat → V) (p : Nat → Nat) : Elim m 0 0 M p :=
  ⟨Nat.zero_le _, fun _ h => by omega, fun _ _ _ h => by omega, fun _ h => by omega, fun _ _ h => by omega, fun _ _ h => by omega, fun _ _ _ _ h => by omega⟩
/-- A column without a pivot. -/
theorem Elim.none (h : Elim m at_ k M p) (h0 : ∀ l, at_ ≤ l → l < m → M l k = 0) : Elim m at_ (k + 1) M p :=
  ⟨h.le, fun i hi => Nat.lt_succ_of_lt (h.lt i hi), h.up, h.one, h.zero, h.ahead, fun l j h1 h2 h3 => by
    rcases Nat.lt_or_eq_of_le (Nat.le_of_lt_succ h3) with h4 | rfl
    · exact h.rest l j h1 h2 h4
    · exact h0 l h1 h2⟩
/-- The row that comes to the place of the pivot, before it is scaled: rows q and at_ are swapped. -/
def swapped (M : Nat → V) (a q : Nat) (l : Nat) : V := if l = a then M q else if l = q then M a else M l
/-- The step at a pivot: rows q and at_ are swapped, row at_ is scaled, and the others are cleared in column k. -/
def cleared (inv : F → F) (M : Nat → V) (a q k : Nat) (l : Nat) : V := fun j =>
  if l = a then M q j * inv (M q k) else swapped M a q l j + (M q j * inv (M q k)) * (0 - swapped M a q l k)
theorem swapped_a (M : Nat → V) (a q : Nat) : swapped M a q a = M q := if_pos rfl
theorem swapped_q (M : Nat → V) {a q : Nat} (h : q ≠ a) : swapped M a q q = M a := by unfold swapped; rw [if_neg h, if_pos rfl]
theorem swapped_o (M : Nat → V) {a q l : Nat} (h : l ≠ a) (h2 : l ≠ q) : swapped M a q l = M l := by unfold swapped; rw [if_neg h, if_neg h2]
theorem cleared_a (inv : F → F) (M : Nat → V) (a q k j : Nat) : cleared inv M a q k a j = M q j * inv (M q k) := if_pos rfl
theorem cleared_o (inv : F → F) (M : Nat → V) {a l : Nat} (q k j : Nat) (h : l ≠ a) : cleared inv M a q k l j = swapped M a q l j + (M q j * inv (M q k)) * (0 - swapped M a q l k) := if_neg h
theorem swapped_cases (M : Nat → V) {a q l : Nat} (h : l ≠ a) (P : V → Prop) (h1 : P (M a)) (h2 : l ≠ q → P (M l)) : P (swapped M a q l) := by
  unfold swapped
  rw [if_neg h]
  by_cases e : l = q
  · rw [if_pos e]; exact h1
  · rw [if_neg e]; exact h2 e
/-- The pivots with one more. -/
def more (p : Nat → Nat) (a k : Nat) : Nat → Nat := fun i => if i = a then k else p i
theorem more_a (p : Nat → Nat) (a k : Nat) : more p a k a = k := if_pos rfl
theorem more_o (p : Nat → Nat) {a i : Nat} (k : Nat) (h : i ≠ a) : more p a k i = p i := if_neg h
theorem Elim.pivot (inv : F → F) (hinv : ∀ x : F, x ≠ 0 → x * inv x = 1) (h : Elim m at_ k M p) {q : Nat} (hq1 : at_ ≤ q) (hq2 : q < m) (hne : M q k ≠ 0) :
    Elim m (at_ + 1) (k + 1) (cleared inv M at_ q k) (more p at_ k) := by
  have hi := hinv _ hne
  have ham : at_ < m := by omega
  -- at an old pivot's column the swapped rows hold what they held
  have hsw : ∀ i l, i < at_ → l < m → l ≠ at_ → l ≠ i → swapped M at_ q l (p i) = 0 := fun i l h1 h2 h3 h4 =>
    swapped_cases M h3 (fun v => v (p i) = 0) (h.zero i at_ h1 ham (by omega)) (fun _ => h.zero i l h1 h2 h4)
  have hq0 : ∀ i, i < at_ → M q (p i) = 0 := fun i h1 => h.zero i q h1 hq2 (by omega)
  have hlow : ∀ i, i < at_ → swapped M at_ q i = M i := fun i h1 => swapped_o M (by omega) (by omega)
  refine ⟨by omega, ?_, ?_, ?_, ?_, ?_, ?_⟩
  · intro i h1
    by_cases e : i = at_
    · subst e; rw [more_a]; omega
    · rw [more_o p k e]; have := h.lt i (by omega); omega
  · intro i l h1 h2
    have e1 : i ≠ at_ := by omega
    rw [more_o p k e1]
    by_cases e : l = at_
    · subst e; rw [more_a]; exact h.lt i (by omega)
    · rw [more_o p k e]; exact h.up i l h1 (by omega)
  · intro i h1
    by_cases e : i = at_
    · subst e; rw [more_a, cleared_a]; exact hi
    · rw [more_o p k e, cleared_o inv M q k _ e, hlow i (by omega), hq0 i (by omega), h.one i (by omega)]; grind
  · intro i l h1 h2 h3
    by_cases e : i = at_
    · subst e
      rw [more_a, cleared_o inv M q k _ h3]
      grind
    · rw [more_o p k e]
      by_cases e2 : l = at_
      · subst e2; rw [cleared_a, hq0 i (by omega)]; grind
      · rw [cleared_o inv M q k _ e2, hq0 i (by omega), hsw i l (by omega) h2 e2 h3]; grind
  · intro i j h1 h2
    by_cases e : i = at_
    · subst e
      rw [more_a] at h2
      rw [cleared_a, h.rest q j hq1 hq2 h2]; grind
    · rw [more_o p k e] at h2
      have h3 := h.lt i (by omega)
      rw [cleared_o inv M q k _ e, hlow i (by omega), h.ahead i j (by omega) h2, h.rest q j hq1 hq2 (by omega)]; grind
  · intro l j h1 h2 h3
    have e : l ≠ at_ := by omega
    rw [cleared_o inv M q k _ e]
    rcases Nat.lt_or_eq_of_le (Nat.le_of_lt_succ h3) with h4 | rfl
    · have h5 : swapped M at_ q l j = 0 := swapped_cases M e (fun v => v j = 0) (h.rest at_ j (Nat.le_refl _) ham h4) (fun _ => h.rest l j (by omega) h2 h4)
      rw [h5, h.rest q j hq1 hq2 h4]; grind
    · grind
/-- The step spans what was spanned. -/
theorem cleared_in (inv : F → F) (M : Nat → V) {m a q : Nat} (k : Nat) (ha : a < m) (hq : q < m) : ∀ l, l < m → Span m M (cleared inv M a q k l) := by
  intro l hl
  have hL : Span m M (fun j => M q j * inv (M q k)) := by
    have := span_add (span_mem (S := M) hq) (span_mem (S := M) hq) (inv (M q k) - 1)
    refine (show (fun j => M q j + (inv (M q k) - 1) * M q j) = fun j => M q j * inv (M q k) by funext j; grind) ▸ this
  by_cases e : l = a
  · subst e
    rw [show cleared inv M l q k l = fun j => M q j * inv (M q k) by funext j; exact cleared_a inv M l q k j]
    exact hL
  · have hs : Span m M (swapped M a q l) := swapped_cases M e (fun v => Span m M v) (span_mem ha) (fun _ => span_mem hl)
    have := span_add hs hL (0 - swapped M a q l k)
    rw [show cleared inv M a q k l = fun j => swapped M a q l j + (0 - swapped M a q l k) * (M q j * inv (M q k)) by
      funext j; rw [cleared_o inv M q k j e]; grind]
    exact this
theorem in_cleared (inv : F → F) (hinv : ∀ x : F, x ≠ 0 → x * inv x = 1) (M : Nat → V) {m a q k : Nat} (ha : a < m) (hq : q < m) (hne : M q k ≠ 0) : ∀ l, l < m → Span m (cleared inv M a q k) (M l) := by
  have hi := hinv _ hne
  have hA : Span m (cleared inv M a q k) (cleared inv M a q k a) := span_mem ha
  have hQ : Span m (cleared inv M a q k) (M q) := by
    have := span_add hA hA (M q k - 1)
    refine (show (fun j => cleared inv M a q k a j + (M q k - 1) * cleared inv M a q k a j) = M q by
      funext j; rw [cleared_a]; grind) ▸ this
  -- a swapped row is in the span
  have hS : ∀ l, l < m → l ≠ a → Span m (cleared inv M a q k) (swapped M a q l) := fun l hl e => by
    have := span_add (span_mem (S := cleared inv M a q k) hl) hA (swapped M a q l k)
    refine (show (fun j => cleared inv M a q k l j + swapped M a q l k * cleared inv M a q k a j) = swapped M a q l by
      funext j; rw [cleared_a, cleared_o inv M q k j e]; grind) ▸ this
  intro l hl
  by_cases e : l = q
  · subst e; exact hQ
  · by_cases e2 : l = a
    · subst e2
      have := hS q hq (fun h => e h.symm)
      rwa [swapped_q M (fun h => e h.symm)] at this
    · have := hS l hl e2
      rwa [swapped_o M e2 e] at this
/-- All columns are done. -/
theorem Elim.red (h : Elim m at_ w M p) : Red at_ w M p :=
  ⟨h.lt, h.up, h.one, fun i k hi hk hne => h.zero k i hk (by have := h.le; omega) (fun e => hne e.symm), h.ahead⟩
/-- What all rows span the first ones span, where the others are 0. -/
theorem Elim.span (h : Elim m at_ w M p) (hw : ∀ l j, l < m → w ≤ j → M l j = 0) {v : V} (hv : Span m M v) : Span at_ M v := by
  refine span_trans (T := M) (m := m) (fun i hi => ?_) hv
  by_cases e : i < at_
  · exact span_mem e
  · refine ⟨fun _ => 0, ?_⟩
    funext j
    have h0 : M i j = 0 := by
      by_cases hj : j < w
      · exact h.rest i j (by omega) hi hj
      · exact hw i j hi (by omega)
    rw [h0]
    exact (sum_zero fun k _ => by grind).symm
end

/-! null vectors and orthogonality -/
def dotw (w : Nat) (u v : V) : F := sum w fun j => u j * v j
theorem dotw_comm (w : Nat) (u v : V) : dotw w u v = dotw w v u := sum_congr fun j _ => by grind
theorem dotw_add (w : Nat) (u v x : V) (k : F) : dotw w (fun j => u j + k * v j) x = dotw w u x + k * dotw w v x := by
  unfold dotw; rw [← sum_mul, ← sum_add]; exact sum_congr fun j _ => by grind
theorem dotw_lin (w n : Nat) (S : Nat → V) (c : Nat → F) (x : V) : dotw w (lin n S c) x = sum n fun i => c i * dotw w (S i) x := by
  unfold dotw lin
  rw [sum_congr (g := fun j => sum n fun i => c i * (S i j * x j)) fun j _ => by
    rw [show (sum n fun i => c i * S i j) * x j = x j * (sum n fun i => c i * S i j) by grind, ← sum_mul]; exact sum_congr fun i _ => by grind]
  rw [sum_comm]
  exact sum_congr fun i _ => by rw [sum_mul]
theorem dotw_ind {w j : Nat} (hj : j < w) (x : V) : dotw w (ind j) x = x j := by
  unfold dotw
  rw [sum_one hj fun k _ hk => by rw [ind_ne hk]; grind, ind_same]; grind
theorem dotw_congr {w : Nat} {u u' v v' : V} (h : ∀ j, j < w → u j = u' j) (h2 : ∀ j, j < w → v j = v' j) : dotw w u v = dotw w u' v' := sum_congr fun j hj => by rw [h j hj, h2 j hj]

/-- How many numbers below w have a property. -/
def cnt : Nat → (Nat → Bool) → Nat
  | 0, _ => 0
  | w + 1, f => cnt w f + (if f w then 1 else 0)
theorem cnt_le (w : Nat) (f : Nat → Bool) : cnt w f ≤ w := by
  induction w with
  | zero => exact Nat.le_refl _
  | succ w ih => unfold cnt; split <;> omega
theorem cnt_congr {w : Nat} {f g : Nat → Bool} (h : ∀ j, j < w → f j = g j) : cnt w f = cnt w g := by
  induction w with
  | zero => rfl
  | succ w ih => unfold cnt; rw [ih fun j hj => h j (by omega), h w (by omega)]
theorem cnt_not (w : Nat) (f : Nat → Bool) : cnt w (fun j => !f j) + cnt w f = w := by
  induction w with
  | zero => rfl
  | succ w ih =>
    show cnt w (fun j => !f j) + (if (!f w) = true then 1 else 0) + (cnt w f + (if f w = true then 1 else 0)) = w + 1
    by_cases h : f w = true
    · rw [if_pos h, if_neg (by simp [h])]; omega
    · rw [if_neg h, if_pos (by simpa using h)]; omega
theorem cnt_or {w a : Nat} (ha : a < w) {f : Nat → Bool} (hf : f a = false) : cnt w (fun j => f j || j == a) = cnt w f + 1 := by
  induction w with
  | zero => omega
  | succ w ih =>
    show cnt w (fun j => f j || j == a) + (if (f w || w == a) = true then 1 else 0) = cnt w f + (if f w = true then 1 else 0) + 1
    by_cases e : a = w
    · subst e
      rw [cnt_congr (g := f) fun j hj => by
        have : (j == a) = false := by simp; omega
        rw [this, Bool.or_false], hf]
      simp
    · have : (w == a) = false := by simp; omega
      rw [ih (by omega), this, Bool.or_false]; omega
/-- The numbers with a property, in order. -/
theorem enum (w : Nat) (f : Nat → Bool) : ∃ e : Nat → Nat, (∀ i, i < cnt w f → e i < w ∧ f (e i) = true) ∧ (∀ i k, i < k → k < cnt w f → e i < e k) ∧ ∀ j, j < w → f j = true → ∃ i, i < cnt w f ∧ e i = j := by
  induction w with
  | zero => exact ⟨fun _ => 0, fun i hi => absurd hi (Nat.not_lt_zero _), fun i k _ hk => absurd hk (Nat.not_lt_zero _), fun j hj => absurd hj (Nat.not_lt_zero _)⟩
  | succ w ih =>
    obtain ⟨e, h1, h2, h3⟩ := ih
    cases hf : f w
    · have hc : cnt (w + 1) f = cnt w f := by show cnt w f + (if f w = true then 1 else 0) = cnt w f; rw [hf]; rfl
      rw [hc]
      refine ⟨e, fun i hi => ⟨by have := (h1 i hi).1; omega, (h1 i hi).2⟩, h2, fun j hj hfj => ?_⟩
      rcases Nat.lt_or_eq_of_le (Nat.le_of_lt_succ hj) with h | rfl
      · exact h3 j h hfj
      · rw [hf] at hfj; cases hfj
    · have hc : cnt (w + 1) f = cnt w f + 1 := by show cnt w f + (if f w = true then 1 else 0) = cnt w f + 1; rw [hf]; rfl
      rw [hc]
      refine ⟨fun i => if i < cnt w f then e i else w, fun i hi => ?_, fun i k hik hk => ?_, fun j hj hfj => ?_⟩
      · dsimp only
        by_cases h : i < cnt w f
        · rw [if_pos h]; exact ⟨by have := (h1 i h).1; omega, (h1 i h).2⟩
        · rw [if_neg h]; exact ⟨by omega, hf⟩
      · dsimp only
        rw [if_pos (show i < cnt w f by omega)]
        by_cases h : k < cnt w f
        · rw [if_pos h]; exact h2 i k hik h
        · rw [if_neg h]; exact (h1 i (by omega)).1
      · rcases Nat.lt_or_eq_of_le (Nat.le_of_lt_succ hj) with h | rfl
        · obtain ⟨i, hi, rfl⟩ := h3 j h hfj
          exact ⟨i, by omega, if_pos hi⟩
        · exact ⟨cnt j f, by omega, if_neg (Nat.lt_irrefl _)⟩

/-- Is the column a pivot's? -/
def isPiv (n : Nat) (p : Nat → Nat) (j : Nat) : Bool := (List.range n).any fun i => p i == j
theorem isPiv_iff {n : Nat} {p : Nat → Nat} {j : Nat} : isPiv n p j = true ↔ ∃ i, i < n ∧ p i = j := by
  unfold isPiv; simp
theorem isPiv_no {n : Nat} {p : Nat → Nat} {j : Nat} (h : isPiv n p j = false) {i : Nat} (hi : i < n) : p i ≠ j := fun e => by
  rw [isPiv_iff.2 ⟨i, hi, e⟩] at h; cases h

/-- The null vector of a column without a pivot. -/
def nul (n : Nat) (R : Nat → V) (p : Nat → Nat) (f : Nat) : V := fun j => ind f j + (0 - 1) * lin n (fun i => ind (p i)) (fun i => R i f) j

section
variable {n w : Nat} {R : Nat → V} {p : Nat → Nat}
theorem Red.count (h : Red n w R p) : cnt w (isPiv n p) = n := by
  have key : ∀ k, k ≤ n → cnt w (isPiv k p) = k := fun k => by
    induction k with
    | zero =>
      intro _
      rw [cnt_congr (f := isPiv 0 p) (g := fun _ => false) fun j _ => rfl]
      clear h
      induction w with
      | zero => rfl
      | succ w ih => unfold cnt; rw [ih]; rfl
    | succ k ih =>
      intro hk
      have hno : isPiv k p (p k) = false := by
        cases e : isPiv k p (p k)
        · rfl
        · obtain ⟨i, hi, e2⟩ := isPiv_iff.1 e
          have := h.up i k hi (by omega)
          omega
      rw [cnt_congr (g := fun j => isPiv k p j || j == p k) fun j _ => by
        rw [Bool.eq_iff_iff, Bool.or_eq_true, isPiv_iff, isPiv_iff, beq_iff_eq]
        constructor
        · rintro ⟨i, hi, e⟩
          rcases Nat.lt_or_eq_of_le (Nat.le_of_lt_succ hi) with h3 | rfl
          · exact .inl ⟨i, h3, e⟩
          · exact .inr e.symm
        · rintro (⟨i, hi, e⟩ | e)
          · exact ⟨i, by omega, e⟩
          · exact ⟨k, by omega, e.symm⟩, cnt_or (h.lt k (by omega)) hno, ih (by omega)]
  exact key n (Nat.le_refl _)
theorem Red.count_free (h : Red n w R p) : cnt w (fun j => !isPiv n p j) = w - n := by
  have := cnt_not w (isPiv n p)
  rw [h.count] at this; omega
theorem nul_piv (h : Red n w R p) {f i : Nat} (hf : isPiv n p f = false) (hi : i < n) : nul n R p f (p i) = 0 - R i f := by
  unfold nul
  rw [ind_ne (isPiv_no hf hi)]
  have : lin n (fun i => ind (p i)) (fun i => R i f) (p i) = R i f := by
    unfold lin
    rw [sum_one hi fun k hk hne => by
      have : p i ≠ p k := fun e => by
        rcases Nat.lt_or_gt_of_ne hne with h3 | h3
        · have := h.up k i h3 hi; omega
        · have := h.up i k h3 hk; omega
      dsimp only
      rw [ind_ne this]; grind]
    dsimp only
    rw [ind_same]; grind
  rw [this]; grind
theorem nul_free {f j : Nat} (hj : isPiv n p j = false) : nul n R p f j = ind f j := by
  unfold nul
  have : lin n (fun i => ind (p i)) (fun i => R i f) j = 0 := sum_zero fun i hi => by
    dsimp only
    rw [ind_ne (fun e => isPiv_no hj hi e.symm)]; grind
  rw [this]; grind
/-- Null vectors are orthogonal to the rows. -/
theorem Red.nul_dot (h : Red n w R p) {f : Nat} (hf : f < w) {k : Nat} (hk : k < n) : dotw w (R k) (nul n R p f) = 0 := by
  rw [dotw_comm]
  unfold nul
  rw [dotw_add, dotw_ind hf, dotw_lin, sum_congr (g := fun i => R i f * R k (p i)) fun i hi => by rw [dotw_ind (h.lt i hi)]]
  rw [sum_one hk fun i hi hne => by rw [h.zero k i hk hi hne]; grind, h.one k hk]; grind
/-- What is orthogonal to the rows and has 0 at the free columns is 0. -/
theorem Red.orth_none (h : Red n w R p) {u : V} (hu : ∀ k, k < n → dotw w (R k) u = 0) (h0 : ∀ j, j < w → isPiv n p j = false → u j = 0) : ∀ j, j < w → u j = 0 := by
  intro j hj
  cases e : isPiv n p j
  · exact h0 j hj e
  · obtain ⟨i, hi, rfl⟩ := isPiv_iff.1 e
    have h1 := hu i hi
    unfold dotw at h1
    rw [sum_one hj fun k hk hne => by
      cases e2 : isPiv n p k
      · rw [h0 k hk e2]; grind
      · obtain ⟨i2, hi2, rfl⟩ := isPiv_iff.1 e2
        rw [h.zero i i2 hi hi2 (fun e3 => hne (by rw [e3]))]; grind, h.one i hi] at h1
    grind
/-- The null vectors of all free columns: a family of w - n, orthogonal to the rows; independent; and they span what is orthogonal to the rows. -/
theorem Red.null (h : Red n w R p) : ∃ e : Nat → Nat, (∀ t, t < w - n → e t < w ∧ isPiv n p (e t) = false) ∧ (∀ s t, s < t → t < w - n → e s < e t) ∧ (∀ j, j < w → isPiv n p j = false → ∃ t, t < w - n ∧ e t = j) ∧
    Indep (w - n) (fun t => nul n R p (e t)) ∧ ∀ u : V, (∀ j, w ≤ j → u j = 0) → (∀ k, k < n → dotw w (R k) u = 0) → ∀ j, j < w → u j = lin (w - n) (fun t => nul n R p (e t)) (fun t => u (e t)) j := by
  obtain ⟨e, h1, h2, h3⟩ := enum w (fun j => !isPiv n p j)
  rw [h.count_free] at h1 h2 h3
  have h1' : ∀ t, t < w - n → e t < w ∧ isPiv n p (e t) = false := fun t ht => ⟨(h1 t ht).1, by simpa using (h1 t ht).2⟩
  have h3' : ∀ j, j < w → isPiv n p j = false → ∃ t, t < w - n ∧ e t = j := fun j hj hp => h3 j hj (by rw [hp]; rfl)
  have hinj : ∀ s t, s < w - n → t < w - n → s ≠ t → e s ≠ e t := fun s t hs ht hne => by
    rcases Nat.lt_or_gt_of_ne hne with h4 | h4
    · have := h2 s t h4 ht; omega
    · have := h2 t s h4 hs; omega
  have hat : ∀ (c : Nat → F) t, t < w - n → lin (w - n) (fun t => nul n R p (e t)) c (e t) = c t := fun c t ht => by
    unfold lin
    rw [sum_one ht fun s hs hne => by dsimp only; rw [nul_free (h1' t ht).2, ind_ne (hinj t s ht hs (fun e => hne e.symm))]; grind]
    dsimp only
    rw [nul_free (h1' t ht).2, ind_same]; grind
  refine ⟨e, h1', h2, h3', fun c hc t ht => by rw [← hat c t ht]; exact hc _, fun u hs hu j hj => ?_⟩
  have hd := h.orth_none (u := fun j => u j + (0 - 1) * lin (w - n) (fun t => nul n R p (e t)) (fun t => u (e t)) j) (fun k hk => by
      rw [dotw_comm, dotw_add, dotw_comm, hu k hk, dotw_lin, sum_zero fun t ht => by rw [dotw_comm, h.nul_dot (h1' t ht).1 hk]; grind]; grind)
    (fun j hj hp => by
      obtain ⟨t, ht, rfl⟩ := h3' j hj hp
      show u (e t) + (0 - 1) * lin (w - n) (fun t => nul n R p (e t)) (fun t => u (e t)) (e t) = 0
      rw [hat _ t ht]; grind) j hj
  have hd' : u j + (0 - 1) * lin (w - n) (fun t => nul n R p (e t)) (fun t => u (e t)) j = 0 := hd
  grind
/-- What is orthogonal to all null vectors is in the span of the rows. -/
theorem Red.orth_back (h : Red n w R p) {v : V} (hv : ∀ f, f < w → isPiv n p f = false → dotw w v (nul n R p f) = 0) : ∀ j, j < w → v j = lin n R (fun i => v (p i)) j := by
  have h0 : ∀ i, i < n → v (p i) + (0 - 1) * lin n R (fun i => v (p i)) (p i) = 0 := fun i hi => by rw [h.at_ (fun i => v (p i)) hi]; grind
  intro j hj
  cases e : isPiv n p j
  · have h1 : dotw w (fun j => v j + (0 - 1) * lin n R (fun i => v (p i)) j) (nul n R p j) = 0 := by
      rw [dotw_add, hv j hj e, dotw_lin, sum_zero fun i hi => by rw [h.nul_dot hj hi]; grind]; grind
    unfold dotw at h1
    rw [sum_one hj fun k hk hne => by
      cases e2 : isPiv n p k
      · rw [nul_free e2, ind_ne hne]; grind
      · obtain ⟨i, hi, rfl⟩ := isPiv_iff.1 e2
        show (v (p i) + (0 - 1) * lin n R (fun i => v (p i)) (p i)) * _ = 0
        rw [h0 i hi]; grind, nul_free e, ind_same] at h1
    grind
  · obtain ⟨i, hi, rfl⟩ := isPiv_iff.1 e
    have := h0 i hi
    grind
end

/-! polynomials, and rows of powers -/
theorem mul_ne {inv : F → F} (hinv : ∀ x : F, x ≠ 0 → x * inv x = 1) {a b : F} (ha : a ≠ 0) (hb : b ≠ 0) : a * b ≠ 0 := fun h => by
  have h1 := hinv b hb
  apply ha
  have : a * b * inv b = 0 := by rw [h]; grind
  grind
def evalP : List F → F → F
  | [], _ => 0
  | a :: as, x => a + x * evalP as x
def addc (a : F) : List F → List F
  | [] => [a]
  | b :: bs => (a + b) :: bs
theorem eval_addc (a : F) (bs : List F) (x : F) : evalP (addc a bs) x = a + evalP bs x := by
  cases bs with
  | nil => simp only [addc, evalP]; grind
  | cons b bs => simp only [addc, evalP]; grind
/-- times (x - r) -/
def mulr (r : F) : List F → List F
  | [] => []
  | a :: as => (0 - r * a) :: addc a (mulr r as)
theorem eval_mulr (r : F) (as : List F) (x : F) : evalP (mulr r as) x = (x - r) * evalP as x := by
  induction as with
  | nil => simp only [mulr, evalP]; grind
  | cons a as ih => simp only [mulr, evalP]; rw [eval_addc, ih]; grind
theorem addc_len (a : F) (bs : List F) : (addc a bs).length = max 1 bs.length := by
  cases bs with
  | nil => rfl
  | cons b bs => simp [addc]
theorem mulr_len (r : F) (as : List F) : (mulr r as).length ≤ as.length + 1 := by
  induction as with
  | nil => simp [mulr]
  | cons a as ih => simp only [mulr, List.length_cons, addc_len]; omega
/-- The product of all (x - r). -/
def lagr : List F → List F
  | [] => [1]
  | r :: rs => mulr r (lagr rs)
theorem lagr_len (rs : List F) : (lagr rs).length ≤ rs.length + 1 := by
  induction rs with
  | nil => exact Nat.le_refl _
  | cons r rs ih => have := mulr_len r (lagr rs); simp only [lagr, List.length_cons]; omega
theorem lagr_zero {rs : List F} {x : F} (h : x ∈ rs) : evalP (lagr rs) x = 0 := by
  induction rs with
  | nil => cases h
  | cons r rs ih =>
    simp only [lagr]
    rw [eval_mulr]
    rcases List.mem_cons.1 h with rfl | h
    · grind
    · rw [ih h]; grind
theorem lagr_ne {inv : F → F} (hinv : ∀ x : F, x ≠ 0 → x * inv x = 1) {rs : List F} {x : F} (h : x ∉ rs) : evalP (lagr rs) x ≠ 0 := by
  induction rs with
  | nil => simp only [lagr, evalP]; intro h0; have : (1 : F) = 0 := by grind
           exact absurd this (by decide)
  | cons r rs ih =>
    simp only [lagr]
    rw [eval_mulr]
    refine mul_ne hinv (fun h0 => h ?_) (ih fun hm => h (List.mem_cons_of_mem _ hm))
    have : x = r := by grind
    rw [this]; exact List.mem_cons_self
/-- The row of powers of a point. -/
def prow (c : Nat) (x : F) : V := fun j => if j < c then x ^ j else 0
theorem sum_left (n : Nat) (f : Nat → F) : sum (n + 1) f = f 0 + sum n (fun i => f (i + 1)) := by
  induction n with
  | zero => simp only [sum]; grind
  | succ n ih => rw [sum, ih, sum]; grind
theorem pow_s (x : F) (j : Nat) : x ^ (j + 1) = x * x ^ j := by grind
theorem eval_dot (as : List F) (x : F) (c : Nat) (h : as.length ≤ c) : dotw c (fun j => as.getD j 0) (prow c x) = evalP as x := by
  have key : ∀ (as : List F) (c : Nat), as.length ≤ c → sum c (fun j => as.getD j 0 * x ^ j) = evalP as x := by
    intro as
    induction as with
    | nil => intro c _; exact sum_zero fun j _ => by show (0 : F) * x ^ j = 0; grind
    | cons a as ih =>
      intro c hc
      obtain ⟨c, rfl⟩ : ∃ c', c = c' + 1 := ⟨c - 1, by simp at hc; omega⟩
      rw [sum_left, sum_congr (g := fun j => x * (as.getD j 0 * x ^ j)) fun j _ => by
        rw [List.getD_cons_succ, pow_s]; grind, sum_mul, ih c (by simpa using hc)]
      simp only [evalP, List.getD_cons_zero]
      have : x ^ 0 = (1 : F) := by grind
      rw [this]; grind
  rw [← key as c h]
  unfold dotw
  exact sum_congr fun j hj => by unfold prow; rw [if_pos hj]
/-- Rows of powers of distinct points, not more than columns, are independent. -/
theorem vander {inv : F → F} (hinv : ∀ x : F, x ≠ 0 → x * inv x = 1) {m c : Nat} (hm : m ≤ c) (x : Nat → F) (hx : ∀ i k, i < m → k < m → x i = x k → i = k) : Indep m (fun i => prow c (x i)) := by
  intro a ha i hi
  let rs := ((List.range m).filter (fun k => k != i)).map x
  have hlen : rs.length + 1 ≤ m := by
    show (((List.range m).filter (fun k => k != i)).map x).length + 1 ≤ m
    rw [List.length_map]
    have h1 : ((List.range m).filter (fun k => k != i)).length < (List.range m).length := List.length_filter_lt_length_iff_exists.2 ⟨i, List.mem_range.2 hi, by simp⟩
    rw [List.length_range] at h1; omega
  have hl : (lagr rs).length ≤ c := by have := lagr_len rs; omega
  have h0 : dotw c (lin m (fun i => prow c (x i)) a) (fun j => (lagr rs).getD j 0) = 0 := sum_zero fun j _ => by rw [ha j]; grind
  rw [dotw_lin, sum_one hi fun k hk hne => by
    rw [dotw_comm, eval_dot _ _ _ hl, lagr_zero (List.mem_map.2 ⟨k, List.mem_filter.2 ⟨List.mem_range.2 hk, by simpa using hne⟩, rfl⟩)]; grind] at h0
  rw [dotw_comm, eval_dot _ _ _ hl] at h0
  have hne : evalP (lagr rs) (x i) ≠ 0 := lagr_ne hinv fun hm => by
    obtain ⟨k, hk, e⟩ := List.mem_map.1 hm
    obtain ⟨hk1, hk2⟩ := List.mem_filter.1 hk
    have := hx k i (List.mem_range.1 hk1) hi e
    simp at hk2; exact hk2 this
  exact Classical.byContradiction fun hc => mul_ne hinv hc hne h0
/-- A part of independent vectors is independent. -/
theorem Indep.mono {m m' : Nat} {S : Nat → V} (h : Indep m S) (hm : m' ≤ m) : Indep m' S := by
  intro c hc i hi
  have := h (fun k => if k < m' then c k else 0) (fun j => by
    refine Eq.trans ?_ (hc j)
    show sum m (fun k => (if k < m' then c k else 0) * S k j) = sum m' (fun k => c k * S k j)
    have key : ∀ d, sum (m' + d) (fun k => (if k < m' then c k else 0) * S k j) = sum m' (fun k => c k * S k j) := fun d => by
      induction d with
      | zero => exact sum_congr fun k hk => by rw [if_pos (show k < m' from hk)]
      | succ d ih => 
        show sum (m' + d) (fun k => (if k < m' then c k else 0) * S k j) + (if m' + d < m' then c (m' + d) else 0) * S (m' + d) j = _
        rw [ih, if_neg (by omega)]; grind
    have := key (m - m')
    rwa [show m' + (m - m') = m by omega] at this) i (by omega)
  rwa [if_pos hi] at this
theorem Red.le {n w : Nat} {R : Nat → V} {p : Nat → Nat} (h : Red n w R p) : n ≤ w := by
  have := cnt_le w (isPiv n p)
  rwa [h.count] at this

/-! every family can be reduced; dimensions of sum and intersection -/
theorem exists_elim (inv : F → F) (hinv : ∀ x : F, x ≠ 0 → x * inv x = 1) (m : Nat) (M : Nat → V) (k : Nat) :
    ∃ (a : Nat) (R : Nat → V) (p : Nat → Nat), Elim m a k R p ∧ (∀ l, l < m → Span m M (R l)) ∧ ∀ l, l < m → Span m R (M l) := by
  induction k with
  | zero => exact ⟨0, M, fun _ => 0, Elim.start m M _, fun l hl => span_mem hl, fun l hl => span_mem hl⟩
  | succ k ih =>
    obtain ⟨a, R, p, h, h1, h2⟩ := ih
    by_cases h0 : ∀ l, a ≤ l → l < m → R l k = 0
    · exact ⟨a, R, p, h.none h0, h1, h2⟩
    · obtain ⟨q, hq⟩ := Classical.not_forall.1 h0
      obtain ⟨hq1, hq⟩ := Classical.not_imp.1 hq
      obtain ⟨hq2, hne⟩ := Classical.not_imp.1 hq
      exact ⟨a + 1, cleared inv R a q k, more p a k, h.pivot inv hinv hq1 hq2 hne, fun l hl => span_trans h1 (cleared_in inv R k (by omega) hq2 l hl),
        fun l hl => span_trans (in_cleared inv hinv R (by omega) hq2 hne) (h2 l hl)⟩
/-- What is 0 from w on. -/
def Supp (w : Nat) (v : V) : Prop := ∀ j, w ≤ j → v j = 0
theorem supp_span {m w : Nat} {M : Nat → V} (h : ∀ l, l < m → Supp w (M l)) {v : V} (hv : Span m M v) : Supp w v := by
  obtain ⟨c, rfl⟩ := hv
  intro j hj
  exact sum_zero fun i hi => by rw [h i hi j hj]; grind
theorem exists_red (inv : F → F) (hinv : ∀ x : F, x ≠ 0 → x * inv x = 1) {m w : Nat} {M : Nat → V} (hM : ∀ l, l < m → Supp w (M l)) :
    ∃ (n : Nat) (R : Nat → V) (p : Nat → Nat), Red n w R p ∧ n ≤ m ∧ (∀ i, i < n → Span m M (R i)) ∧ ∀ l, l < m → Span n R (M l) := by
  obtain ⟨a, R, p, h, h1, h2⟩ := exists_elim inv hinv m M w
  have hR : ∀ l, l < m → Supp w (R l) := fun l hl => supp_span hM (h1 l hl)
  exact ⟨a, R, p, h.red, h.le, fun i hi => h1 i (by have := h.le; omega), fun l hl => h.span (fun l j hl hj => hR l hl j hj) (h2 l hl)⟩
theorem sum_split (a b : Nat) (f : Nat → F) : sum (a + b) f = sum a f + sum b (fun i => f (a + i)) := by
  induction b with
  | zero => simp only [sum, Nat.add_zero]; grind
  | succ b ih => show sum (a + b) f + f (a + b) = _; rw [ih, sum]; grind
theorem choose_c {m n : Nat} {S T : Nat → V} (h : ∀ i, i < m → Span n S (T i)) : ∃ D : Nat → Nat → F, ∀ i, i < m → T i = lin n S (D i) := by
  have hch : ∀ i, ∃ d : Nat → F, i < m → T i = lin n S d := fun i => by
    by_cases hi : i < m
    · obtain ⟨d, hd⟩ := h i hi; exact ⟨d, fun _ => hd⟩
    · exact ⟨fun _ => 0, fun h => absurd h hi⟩
  exact Classical.axiomOfChoice hch
/-- The columns of a family. -/
def cols (g : Nat) (G : Nat → V) (j : Nat) : V := fun k => if k < g then G k j else 0
/-- Rows and columns have one rank. -/
theorem rank_cols (inv : F → F) (hinv : ∀ x : F, x ≠ 0 → x * inv x = 1) {g w s c : Nat} {G S Q : Nat → V} (hG : ∀ k, k < g → Supp w (G k)) (hS : Indep s S) (hQ : Indep c Q)
    (h1 : ∀ r, r < s → Span g G (S r)) (h2 : ∀ k, k < g → Span s S (G k)) (h3 : ∀ q, q < c → Span w (cols g G) (Q q)) (h4 : ∀ j, j < w → Span c Q (cols g G j)) : s = c := by
  obtain ⟨D, hD⟩ := choose_c h2
  obtain ⟨E, hE⟩ := choose_c h4
  refine Nat.le_antisymm ?_ ?_
  · refine exchange inv hinv c s (fun q => fun j => if j < w then E j q else 0) S hS fun r hr => span_trans (T := G) (m := g) (fun k hk => ?_) (h1 r hr)
    refine ⟨fun q => Q q k, ?_⟩
    funext j
    unfold lin
    by_cases hj : j < w
    · have := congrFun (hE j hj) k
      unfold cols lin at this
      rw [if_pos hk] at this
      rw [this]
      exact sum_congr fun q _ => by dsimp only; rw [if_pos hj]; grind
    · rw [hG k hk j (by omega)]
      exact (sum_zero fun q _ => by dsimp only; rw [if_neg hj]; grind).symm
  · refine exchange inv hinv s c (fun r => fun k => if k < g then D k r else 0) Q hQ fun q hq => span_trans (T := cols g G) (m := w) (fun j hj => ?_) (h3 q hq)
    refine ⟨fun r => S r j, ?_⟩
    funext k
    unfold lin cols
    by_cases hk : k < g
    · rw [if_pos hk, hD k hk]
      exact sum_congr fun r _ => by dsimp only; rw [if_pos hk]; grind
    · rw [if_neg hk]
      exact (sum_zero fun r _ => by dsimp only; rw [if_neg hk]; grind).symm
/-- The dimensions of a sum and of an intersection add up. -/
theorem dims (inv : F → F) (hinv : ∀ x : F, x ≠ 0 → x * inv x = 1) {w a b s i : Nat} {A B S I : Nat → V} (hA : Indep a A) (hB : Indep b B) (hS : Indep s S) (hI : Indep i I)
    (sA : ∀ k, k < a → Supp w (A k)) (sB : ∀ k, k < b → Supp w (B k)) (h1 : ∀ k, k < a → Span s S (A k)) (h2 : ∀ k, k < b → Span s S (B k))
    (h3 : ∀ r, r < s → Span (a + b) (fun k => if k < a then A k else B (k - a)) (S r)) (h4 : ∀ r, r < i → Span a A (I r)) (h5 : ∀ r, r < i → Span b B (I r))
    (h6 : ∀ v, Span a A v → Span b B v → Span i I v) : s + i = a + b := by
  let G : Nat → V := fun k => if k < a then A k else B (k - a)
  have hGa : ∀ k, k < a → G k = A k := fun k hk => if_pos hk
  have hGb : ∀ k, G (a + k) = B k := fun k => by show (if a + k < a then A (a + k) else B (a + k - a)) = B k; rw [if_neg (by omega)]; congr 1; omega
  have hlin : ∀ (x : Nat → F) j, lin (a + b) G x j = lin a A x j + lin b B (fun k => x (a + k)) j := fun x j => by
    unfold lin
    rw [sum_split]
    congr 1
    · exact sum_congr fun k hk => by rw [hGa k hk]
    · exact sum_congr fun k _ => by rw [hGb]
  have hG : ∀ k, k < a + b → Supp w (G k) := fun k hk => by
    by_cases h : k < a
    · rw [hGa k h]; exact sA k h
    · rw [show k = a + (k - a) by omega, hGb]; exact sB _ (by omega)
  have hGS : ∀ k, k < a + b → Span s S (G k) := fun k hk => by
    by_cases h : k < a
    · rw [hGa k h]; exact h1 k h
    · rw [show k = a + (k - a) by omega, hGb]; exact h2 _ (by omega)
  obtain ⟨c, Q, p, hQ, _, hQ1, hQ2⟩ := exists_red inv hinv (m := w) (w := a + b) (M := cols (a + b) G) (fun l _ k hk => if_neg (by omega))
  have hsc : s = c := rank_cols inv hinv hG hS hQ.indep h3 hGS hQ1 hQ2
  obtain ⟨e, e1, e2, e3, hN, hN2⟩ := hQ.null
  -- orthogonal to the columns: a relation
  have hrel : ∀ x : V, (∀ q, q < c → dotw (a + b) (Q q) x = 0) → ∀ j, lin (a + b) G x j = 0 := fun x hx j => by
    by_cases hj : j < w
    · obtain ⟨d, hd⟩ := hQ2 j hj
      have : dotw (a + b) (cols (a + b) G j) x = 0 := by
        rw [hd, dotw_lin]; exact sum_zero fun q hq => by rw [hx q hq]; grind
      rw [← this]
      exact sum_congr fun k hk => by unfold cols; rw [if_pos hk]; grind
    · exact sum_zero fun k hk => by rw [hG k hk j (by omega)]; grind
  have hrel2 : ∀ x : V, (∀ j, lin (a + b) G x j = 0) → ∀ q, q < c → dotw (a + b) (Q q) x = 0 := fun x hx q hq => by
    obtain ⟨d, hd⟩ := hQ1 q hq
    rw [hd, dotw_lin]
    refine sum_zero fun j hj => ?_
    have : dotw (a + b) (cols (a + b) G j) x = lin (a + b) G x j := sum_congr fun k hk => by unfold cols; rw [if_pos hk]; grind
    rw [this, hx j]; grind
  have hnrel : ∀ t, t < a + b - c → ∀ j, lin (a + b) G (nul c Q p (e t)) j = 0 := fun t ht => hrel _ fun q hq => hQ.nul_dot (e1 t ht).1 hq
  let P : Nat → V := fun t => lin a A (nul c Q p (e t))
  have hlinP : ∀ d j, lin (a + b - c) P d j = lin a A (lin (a + b - c) (fun t => nul c Q p (e t)) d) j := fun d j => by
    show sum _ (fun t => d t * sum a (fun k => nul c Q p (e t) k * A k j)) = sum a (fun k => sum _ (fun t => d t * nul c Q p (e t) k) * A k j)
    rw [sum_congr (g := fun t => sum a fun k => d t * (nul c Q p (e t) k * A k j)) fun t _ => by rw [sum_mul], sum_comm]
    refine sum_congr fun k _ => ?_
    rw [show sum (a + b - c) (fun t => d t * nul c Q p (e t) k) * A k j = A k j * sum (a + b - c) (fun t => d t * nul c Q p (e t) k) by grind, ← sum_mul]
    exact sum_congr fun t _ => by grind
  have hca : c ≤ a + b := hQ.le
  have hP : Indep (a + b - c) P := fun d hd t ht => by
    refine hN d (fun k => ?_) t ht
    let x : V := lin (a + b - c) (fun t => nul c Q p (e t)) d
    have hx0 : ∀ k, k < a → x k = 0 := hA x fun j => by rw [← hlinP]; exact hd j
    have hxr : ∀ j, lin (a + b) G x j = 0 := hrel x fun q hq => by
      rw [dotw_comm, dotw_lin]
      exact sum_zero fun t ht => by rw [dotw_comm, hQ.nul_dot (e1 t ht).1 hq]; grind
    have hxb : ∀ k, k < b → x (a + k) = 0 := hB _ fun j => by
      have h7 := hxr j
      rw [hlin, show lin a A x j = 0 from sum_zero fun k hk => by rw [hx0 k hk]; grind] at h7
      rw [← h7]; grind
    by_cases hk : k < a + b
    · by_cases h : k < a
      · exact hx0 k h
      · have := hxb (k - a) (by omega)
        rwa [show a + (k - a) = k by omega] at this
    · exact sum_zero fun t ht => by
        have hf : isPiv c p k = false := by
          cases h8 : isPiv c p k
          · rfl
          · obtain ⟨q, hq, e8⟩ := isPiv_iff.1 h8
            have := hQ.lt q hq; omega
        dsimp only
        rw [nul_free hf, ind_ne (by have := (e1 t ht).1; omega)]; grind
  have hle1 : a + b - c ≤ i := exchange inv hinv i _ I P hP fun t ht => h6 _ ⟨_, rfl⟩ ⟨fun k => (0 - 1) * nul c Q p (e t) (a + k), by
    funext j
    rw [lin_mul]
    have := hnrel t ht j
    rw [hlin] at this
    show lin a A (nul c Q p (e t)) j = _
    grind⟩
  have hle2 : i ≤ a + b - c := exchange inv hinv _ i P I hI fun r hr => by
    obtain ⟨al, hal⟩ := h4 r hr
    obtain ⟨be, hbe⟩ := h5 r hr
    let x : V := fun k => if k < a then al k else if k < a + b then (0 - 1) * be (k - a) else 0
    have hx1 : lin a A x = lin a A al := lin_congr (fun k hk => if_pos hk) fun _ _ => rfl
    have hx2 : ∀ j, lin b B (fun k => x (a + k)) j = (0 - 1) * lin b B be j := fun j => by
      rw [← lin_mul]
      refine congrFun (lin_congr (fun k hk => ?_) fun _ _ => rfl) j
      show (if a + k < a then al (a + k) else if a + k < a + b then (0 - 1) * be (a + k - a) else 0) = _
      rw [if_neg (by omega), if_pos (by omega), show a + k - a = k by omega]
    have hxr : ∀ j, lin (a + b) G x j = 0 := fun j => by rw [hlin, hx1, hx2, ← hal, ← hbe]; grind
    have hxs : ∀ k, a + b ≤ k → x k = 0 := fun k hk => by
      show (if k < a then al k else if k < a + b then (0 - 1) * be (k - a) else 0) = 0
      rw [if_neg (by omega), if_neg (by omega)]
    have hxN := hN2 x hxs (hrel2 x hxr)
    refine ⟨fun t => x (e t), ?_⟩
    funext j
    rw [hlinP, hal, ← hx1]
    exact congrFun (lin_congr (fun k hk => hxN k (by omega)) fun _ _ => rfl) j
  omega
end Go.Proofs.YtefcfeikooknmaaGreat.Lin
namespace Go.Proofs.YtefcfeikooknmaaGreat.MatP
open Go.Proofs.YtefcfeikooknmaaGreat.Field Go.Proofs.YtefcfeikooknmaaGreat.Vec Go.Proofs.YtefcfeikooknmaaGreat.Mat Go.Proofs.YtefcfeikooknmaaGreat.Lin

def vec (n : Nat) (f : Nat → F) : List Int := (List.range n).map fun i => em (f i)
def mk (r c : Nat) (f : Nat → Nat → F) : List (List Int) := (List.range r).map fun i => vec c (f i)
def toF (x : Int) : F := Fin.ofNat 1019 x.toNat
theorem em_toF {x : Int} (h : isEl x = true) : em (toF x) = x := by
  obtain ⟨h0, h1⟩ := isEl_iff.1 h
  unfold em toF
  rw [Fin.val_ofNat, Nat.mod_eq_of_lt (by omega)]; omega
theorem vec_len (n : Nat) (f : Nat → F) : (vec n f).length = n := by simp [vec]
theorem vec_ems (n : Nat) (f : Nat → F) : vec n f = ems ((List.range n).map f) := by simp [vec, ems]
theorem vec_congr {n : Nat} {f g : Nat → F} (h : ∀ i, i < n → f i = g i) : vec n f = vec n g :=
  List.map_congr_left fun i hi => by rw [h i (List.mem_range.1 hi)]
theorem mk_congr {r c : Nat} {f g : Nat → Nat → F} (h : ∀ i j, i < r → j < c → f i j = g i j) : mk r c f = mk r c g :=
  List.map_congr_left fun i hi => vec_congr fun j hj => h i j (List.mem_range.1 hi) hj
theorem isVec_vec {n : Nat} (f : Nat → F) (h : n ≤ 40) : isVec (vec n f) = true := by
  rw [vec_ems]; exact isVec_ems (by simpa using h)
theorem of_isVec {xs : List Int} (h : isVec xs = true) : xs = vec xs.length fun j => toF (xs[j]?.getD 0) := by
  apply List.ext_getElem?
  intro j
  unfold vec
  by_cases hj : j < xs.length
  · rw [List.getElem?_map, List.getElem?_range hj, List.getElem?_eq_getElem hj]
    simp only [Option.map_some]
    rw [List.getElem?_eq_getElem hj, Option.getD_some, em_toF ((isVec_iff.1 h).1 _ (List.getElem_mem hj))]
  · rw [List.getElem?_eq_none (by omega), List.getElem?_eq_none (by simp; omega)]
theorem mk_len (r c : Nat) (f : Nat → Nat → F) : (mk r c f).length = r := by simp [mk]
theorem mk_cols {r c : Nat} (f : Nat → Nat → F) (h : 0 < r) : colsOf (mk r c f) = c := by
  rw [colsOf_get (xs := vec c (f 0)) (by simp [mk, h]), vec_len]
theorem isMat_mk {r c : Nat} (f : Nat → Nat → F) (h : r ≤ 40) (hc : c ≤ 40) : isMat (mk r c f) = true := by
  refine isMat_iff.2 ⟨fun xs hx => ?_, by rw [mk_len]; exact h⟩
  obtain ⟨i, hi, rfl⟩ := List.mem_map.1 hx
  have := List.mem_range.1 hi
  exact ⟨isVec_vec _ hc, by rw [vec_len, mk_cols f (by omega)]⟩
theorem of_isMat {m : List (List Int)} (h : isMat m = true) : ∃ f, m = mk m.length (colsOf m) f := by
  refine ⟨fun i j => toF ((m[i]?.getD [])[j]?.getD 0), ?_⟩
  apply List.ext_getElem?
  intro i
  unfold mk
  by_cases hi : i < m.length
  · rw [List.getElem?_map, List.getElem?_range hi, List.getElem?_eq_getElem hi]
    obtain ⟨h1, h2⟩ := (isMat_iff.1 h).1 _ (List.getElem_mem hi)
    simp only [Option.map_some]
    rw [← h2, List.getElem?_eq_getElem hi, Option.getD_some, ← of_isVec h1]
  · rw [List.getElem?_eq_none (by omega), List.getElem?_eq_none (by simp; omega)]

theorem dotF_range (n : Nat) (f g : Nat → F) : dotF ((List.range n).map f) ((List.range n).map g) = sum n fun i => f i * g i := by
  induction n with
  | zero => rfl
  | succ n ih =>
    rw [List.range_succ, List.map_append, List.map_append]
    unfold dotF at ih ⊢
    rw [List.zipWith_append (by simp), List.foldl_append, ih]
    rfl
theorem dot_vec {n : Nat} (f g : Nat → F) (h : n ≤ 40) : dot (vec n f) (vec n g) = em (sum n fun i => f i * g i) := by
  rw [vec_ems, vec_ems, dot_ems (by simp) (by simpa using h), dotF_range]
theorem adds_vec {c : Nat} (f g : Nat → F) (k : F) (h : c ≤ 40) : addScaled (vec c f) (vec c g) (em k) = vec c fun j => f j + g j * k := by
  rw [vec_ems, vec_ems, addScaled_ems (by simp) (by simpa using h), vec_ems]
  congr 1
  unfold macF
  rw [List.zipWith_map, List.zipWith_self]
theorem combs_mk {n c : Nat} (g : Nat → Nat → F) (f : Nat → F) (h : c ≤ 40) : combs c (mk n c g) (vec n f) = vec c fun j => sum n fun i => f i * g i j := by
  induction n with
  | zero =>
    show List.replicate c 0 = _
    apply List.ext_getElem?
    intro i
    unfold vec
    by_cases hi : i < c
    · simp [hi]; rfl
    · rw [List.getElem?_eq_none (by simp; omega), List.getElem?_eq_none (by simp; omega)]
  | succ n ih =>
    have e : combs c (mk (n + 1) c g) (vec (n + 1) f) = addScaled (combs c (mk n c g) (vec n f)) (vec c (g n)) (em (f n)) := by
      unfold combs mk
      rw [show vec (n + 1) f = vec n f ++ [em (f n)] by simp [vec, List.range_succ], List.range_succ, List.map_append, List.zip_append (by simp [vec]), List.foldl_append]
      rfl
    rw [e, ih, adds_vec _ _ _ h]
    exact vec_congr fun j _ => by show _ = sum n _ + f n * g n j; grind
theorem rowMul_mk {n c : Nat} (g : Nat → Nat → F) (f : Nat → F) (hn : 0 < n) (h : c ≤ 40) : rowMul (vec n f) (mk n c g) = vec c fun j => sum n fun i => f i * g i j := by
  unfold rowMul; rw [mk_cols g hn, combs_mk g f h]
theorem mulMat_mk {r n c : Nat} (f g : Nat → Nat → F) (hr : 0 < r) (hn : 0 < n) (hr4 : r ≤ 40) (hn4 : n ≤ 40) (hc4 : c ≤ 40) :
    mulMat (mk r n f) (mk n c g) = mk r c fun i j => sum n fun k => f i k * g k j := by
  rw [mulMat_ok (by rw [isMat_mk f hr4 hn4, isMat_mk g hn4 hc4, mk_cols f hr, mk_len]; simp)]
  show (mk r n f).map _ = (List.range r).map _
  unfold mk
  rw [List.map_map]
  exact List.map_congr_left fun i _ => rowMul_mk g (f i) hn hc4
theorem transpose_mk {r c : Nat} (f : Nat → Nat → F) (hr : 0 < r) (hr4 : r ≤ 40) (hc4 : c ≤ 40) : transpose (mk r c f) = mk c r fun i j => f j i := by
  rw [transpose_ok (isMat_mk f hr4 hc4), mk_cols f hr]
  refine List.map_congr_left fun j hj => ?_
  have hj := List.mem_range.1 hj
  unfold column mk vec
  rw [List.map_map]
  refine List.map_congr_left fun i _ => ?_
  simp [hj]
theorem identity_mk {n : Nat} (h : n ≤ 40) : identity n = mk n n fun i j => if j = i then 1 else 0 := by
  obtain ⟨k, hk, he, hkn⟩ := identity_is n
  obtain rfl : k = n := by omega
  rw [he]
  refine List.map_congr_left fun i hi => ?_
  have hi := List.mem_range.1 hi
  unfold unit units vec
  have h1 : (decide ((0 : Int) ≤ k) && decide ((k : Int) ≤ 40) && (decide ((0 : Int) ≤ i) && decide ((i : Int) ≤ k - 1))) = true := by simp; omega
  rw [h1, cond_true, Int.toNat_natCast]
  refine List.map_congr_left fun j _ => ?_
  by_cases hji : j = i
  · subst hji; simp [em_1]
  · have : ((j : Int) == (i : Int)) = false := by simp; omega
    simp only [this, cond_false, if_neg hji]; rfl
theorem mulVec_mk {r n : Nat} (f : Nat → Nat → F) (v : Nat → F) (hr : 0 < r) (hr4 : r ≤ 40) (hn4 : n ≤ 40) : mulVec (mk r n f) (vec n v) = vec r fun i => sum n fun k => f i k * v k := by
  rw [mulVec_ok (by rw [isMat_mk f hr4 hn4, isVec_vec v hn4, mk_cols f hr, vec_len]; simp)]
  unfold mk
  rw [List.map_map]
  exact List.map_congr_left fun i _ => dot_vec (f i) v hn4

/-- Transposing twice restores a matrix. -/
theorem transpose_twice {m : List (List Int)} (h : isMat m = true) (h0 : 0 < m.length) (hc : 0 < colsOf m) : transpose (transpose m) = m := by
  obtain ⟨f, hf⟩ := of_isMat h
  have h4 := (isMat_iff.1 h).2
  have c4 := colsOf_le h
  rw [hf, transpose_mk f h0 h4 c4, transpose_mk _ hc c4 h4]
theorem mul_one {m : List (List Int)} (h : isMat m = true) (h0 : 0 < m.length) (hc : 0 < colsOf m) : mulMat m (identity (colsOf m)) = m := by
  obtain ⟨f, hf⟩ := of_isMat h
  have h4 := (isMat_iff.1 h).2
  have c4 := colsOf_le h
  rw [identity_mk c4]
  generalize m.length = r at *
  generalize colsOf m = c at *
  subst hf
  rw [mulMat_mk f _ h0 hc h4 c4 c4]
  refine mk_congr fun i j _ hj => ?_
  rw [sum_one hj (fun k _ hk => by rw [if_neg (fun e => hk e.symm)]; grind), if_pos rfl]; grind
theorem one_mul {m : List (List Int)} (h : isMat m = true) (h0 : 0 < m.length) : mulMat (identity m.length) m = m := by
  obtain ⟨f, hf⟩ := of_isMat h
  have h4 := (isMat_iff.1 h).2
  have c4 := colsOf_le h
  rw [identity_mk h4]
  generalize m.length = r at *
  generalize colsOf m = c at *
  subst hf
  rw [mulMat_mk _ f h0 h0 h4 h4 c4]
  refine mk_congr fun i j hi _ => ?_
  rw [sum_one hi (fun k _ hk => by rw [if_neg hk]; grind), if_pos rfl]; grind
/-- A product of matrices, times a vector. -/
theorem mul_vec {a b : List (List Int)} {v : List Int} (ha : isMat a = true) (hb : isMat b = true) (hv : isVec v = true) (hab : colsOf a = b.length) (hbv : v.length = colsOf b) (h0 : 0 < a.length) (hb0 : 0 < b.length) :
    mulVec (mulMat a b) v = mulVec a (mulVec b v) := by
  obtain ⟨f, hf⟩ := of_isMat ha
  obtain ⟨g, hg⟩ := of_isMat hb
  have hx := of_isVec hv
  have a4 := (isMat_iff.1 ha).2
  have b4 := (isMat_iff.1 hb).2
  have c4 := colsOf_le hb
  rw [hab] at hf
  rw [hbv] at hx
  generalize a.length = r at *
  generalize b.length = n at *
  generalize colsOf b = c at *
  generalize (fun j : Nat => toF (v[j]?.getD 0)) = y at *
  subst hf hg hx
  rw [mulMat_mk f g h0 hb0 a4 b4 c4, mulVec_mk _ y h0 a4 c4, mulVec_mk g y hb0 b4 c4, mulVec_mk f _ h0 a4 b4]
  refine vec_congr fun i _ => ?_
  have e1 : (sum c fun k => (sum n fun k2 => f i k2 * g k2 k) * y k) = sum c fun k => sum n fun k2 => f i k2 * g k2 k * y k := sum_congr fun k _ => by
    have := sum_mul n (y k) (fun k2 => f i k2 * g k2 k)
    rw [show (sum n fun k2 => f i k2 * g k2 k * y k) = sum n fun k2 => y k * (f i k2 * g k2 k) from sum_congr fun _ _ => by grind, this]; grind
  rw [e1, sum_comm]
  refine sum_congr fun k _ => ?_
  rw [← sum_mul]
  exact sum_congr fun _ _ => by grind
/-- A product, transposed. -/
theorem transpose_mul {a b : List (List Int)} (ha : isMat a = true) (hb : isMat b = true) (hab : colsOf a = b.length) (h0 : 0 < a.length) (hb0 : 0 < b.length) (hc : 0 < colsOf b) :
    transpose (mulMat a b) = mulMat (transpose b) (transpose a) := by
  obtain ⟨f, hf⟩ := of_isMat ha
  obtain ⟨g, hg⟩ := of_isMat hb
  have a4 := (isMat_iff.1 ha).2
  have b4 := (isMat_iff.1 hb).2
  have c4 := colsOf_le hb
  rw [hab] at hf
  generalize a.length = r at *
  generalize b.length = n at *
  generalize colsOf b = c at *
  subst hf hg
  rw [mulMat_mk f g h0 hb0 a4 b4 c4, transpose_mk _ h0 a4 c4, transpose_mk g hb0 b4 c4, transpose_mk f h0 a4 b4, mulMat_mk _ _ hc hb0 c4 b4 a4]
  exact mk_congr fun i j _ _ => sum_congr fun k _ => by grind
end Go.Proofs.YtefcfeikooknmaaGreat.MatP
namespace Go.Proofs.YtefcfeikooknmaaGreat.Rref
open Go.Proofs.YtefcfeikooknmaaGreat.Field Go.Proofs.YtefcfeikooknmaaGreat.Vec Go.Proofs.YtefcfeikooknmaaGreat.Mat Go.Proofs.YtefcfeikooknmaaGreat.MatP Go.Proofs.YtefcfeikooknmaaGreat.Lin

/-- The entries of a matrix; 0 outside. -/
def ent (m : List (List Int)) : Nat → V := fun i j => toF ((m[i]?.getD [])[j]?.getD 0)
theorem toF_0 : toF 0 = 0 := rfl
theorem toF_em (x : F) : toF (em x) = x := em_inj (em_toF (em_el x))
theorem mk_ent {m : List (List Int)} (h : isMat m = true) : mk m.length (colsOf m) (ent m) = m := by
  apply List.ext_getElem?
  intro i
  unfold mk ent
  by_cases hi : i < m.length
  · rw [List.getElem?_map, List.getElem?_range hi, List.getElem?_eq_getElem hi]
    obtain ⟨h1, h2⟩ := (isMat_iff.1 h).1 _ (List.getElem_mem hi)
    simp only [Option.map_some]
    rw [← h2, List.getElem?_eq_getElem hi, Option.getD_some, ← of_isVec h1]
  · rw [List.getElem?_eq_none (by simp; omega), List.getElem?_eq_none (by omega)]
theorem ent_mk {r c : Nat} (f : Nat → Nat → F) {i j : Nat} (hi : i < r) (hj : j < c) : ent (mk r c f) i j = f i j := by
  unfold ent mk vec
  rw [List.getElem?_map, List.getElem?_range hi]
  simp only [Option.map_some, Option.getD_some]
  rw [List.getElem?_map, List.getElem?_range hj]
  simp only [Option.map_some, Option.getD_some]
  exact toF_em _
theorem ent_supp {m : List (List Int)} (h : isMat m = true) (l : Nat) : Supp (colsOf m) (ent m l) := by
  intro j hj
  unfold ent
  by_cases hl : l < m.length
  · have e : m[l]?.getD [] = m[l] := by simp [hl]
    have h2 := ((isMat_iff.1 h).1 _ (List.getElem_mem hl)).2
    rw [e, List.getElem?_eq_none (by omega)]; rfl
  · have e : m[l]? = none := List.getElem?_eq_none (by omega)
    rw [e]; rfl
/-- r are the reduced rows of the rows M (m of them, of w numbers). -/
def IsRed (m w : Nat) (M : Nat → V) (r : List (List Int)) : Prop :=
  ∃ (n : Nat) (R : Nat → V) (p : Nat → Nat), r = mk n w R ∧ Red n w R p ∧ n ≤ m ∧ (∀ i, i < n → Span m M (R i)) ∧ ∀ l, l < m → Span n R (M l)
section
variable (inv : F → F) (hinv : ∀ x : F, x ≠ 0 → x * inv x = 1)
include hinv
theorem IsRed.exists_ {m w : Nat} {M : Nat → V} (hM : ∀ l, l < m → Supp w (M l)) : ∃ r, IsRed m w M r := by
  obtain ⟨n, R, p, h1, h2, h3, h4⟩ := exists_red inv hinv hM
  exact ⟨mk n w R, n, R, p, rfl, h1, h2, h3, h4⟩
theorem IsRed.uniq {m w : Nat} {M : Nat → V} {r r' : List (List Int)} (h : IsRed m w M r) (h' : IsRed m w M r') : r = r' := by
  obtain ⟨n, R, p, rfl, h1, _, h3, h4⟩ := h
  obtain ⟨n', R', p', rfl, k1, _, k3, k4⟩ := h'
  obtain ⟨rfl, _, hR⟩ := Red.uniq inv hinv h1 k1 (fun i hi => span_trans k4 (h3 i hi)) (fun i hi => span_trans h4 (k3 i hi))
  exact mk_congr fun i j hi _ => by rw [hR i hi]
end
open Classical in
/-- The reduced rows of a matrix; none of what is no matrix. -/
noncomputable def rref (m : List (List Int)) : List (List Int) :=
  if h : isMat m = true ∧ ∃ r, IsRed m.length (colsOf m) (ent m) r then Classical.choose h.2 else []
theorem rref_no {m : List (List Int)} (h : isMat m = false) : rref m = [] := by
  unfold rref
  rw [dif_neg (by rw [h]; simp)]
theorem rref_is (inv : F → F) (hinv : ∀ x : F, x ≠ 0 → x * inv x = 1) {m r : List (List Int)} (h : isMat m = true) (hr : IsRed m.length (colsOf m) (ent m) r) : rref m = r := by
  unfold rref
  have hx : isMat m = true ∧ ∃ r, IsRed m.length (colsOf m) (ent m) r := ⟨h, r, hr⟩
  rw [dif_pos hx]
  exact IsRed.uniq inv hinv (Classical.choose_spec hx.2) hr
theorem rref_red (inv : F → F) (hinv : ∀ x : F, x ≠ 0 → x * inv x = 1) {m : List (List Int)} (h : isMat m = true) : IsRed m.length (colsOf m) (ent m) (rref m) := by
  obtain ⟨r, hr⟩ := IsRed.exists_ inv hinv (m := m.length) (w := colsOf m) (M := ent m) fun l _ => ent_supp h l
  rw [rref_is inv hinv h hr]; exact hr
/-- The field's inverse, as a function of its numbers. -/
def invF (x : F) : F := toF (Field.inv (em x))
theorem invF_ok (x : F) (h : x ≠ 0) : x * invF x = 1 := by
  have hne : em x ≠ 0 := fun e => h (em_inj e)
  obtain ⟨h1, _, h3⟩ := inv_el (em_el x) hne
  obtain ⟨y, hy⟩ := of_el h1
  rw [← hy, mul_em] at h3
  unfold invF
  rw [← hy, toF_em]
  exact em_inj h3
theorem em_invF (x : F) (h : x ≠ 0) : em (invF x) = Field.inv (em x) := em_toF (inv_el (em_el x) fun e => h (em_inj e)).1
end Go.Proofs.YtefcfeikooknmaaGreat.Rref
namespace Go.Proofs.YtefcfeikooknmaaGreat.Det
open Go.Proofs.YtefcfeikooknmaaGreat.Vec Go.Proofs.YtefcfeikooknmaaGreat.Lin

/-- The sign of a place. -/
def sg (i : Nat) : F := if i % 2 = 0 then 1 else 0 - 1
theorem sg_s (i : Nat) : sg (i + 1) = 0 - sg i := by
  unfold sg
  rcases Nat.mod_two_eq_zero_or_one i with h | h
  · rw [if_pos h, if_neg (show ¬ (i + 1) % 2 = 0 by omega)]
  · rw [if_neg (show ¬ i % 2 = 0 by omega), if_pos (show (i + 1) % 2 = 0 by omega)]; grind
theorem sg_sq (i : Nat) : sg i * sg i = 1 := by
  unfold sg; split <;> grind
/-- A row less its first number. -/
def tl (v : V) : V := fun j => v (j + 1)
/-- Row i and the first column struck. -/
def minor (M : Nat → V) (i : Nat) : Nat → V := fun l => tl (M (leap i l))
def det : Nat → (Nat → V) → F
  | 0, _ => 1
  | n + 1, M => sum (n + 1) fun i => sg i * M i 0 * det n (minor M i)
theorem det_s (n : Nat) (M : Nat → V) : det (n + 1) M = sum (n + 1) fun i => sg i * M i 0 * det n (minor M i) := rfl

theorem leap_lt {i0 i n : Nat} (h : i < n) : leap i0 i < n + 1 := by unfold leap; split <;> omega
theorem leap_ne (i0 i : Nat) : leap i0 i ≠ i0 := by unfold leap; split <;> omega
theorem leap_inj {i0 i k : Nat} (h : leap i0 i = leap i0 k) : i = k := by unfold leap at h; split at h <;> split at h <;> omega
/-- What is struck out stands at an earlier place. -/
def back (i0 i : Nat) : Nat := if i < i0 then i else i - 1
theorem leap_back {i0 i : Nat} (h : i ≠ i0) : leap i0 (back i0 i) = i := by
  unfold leap back
  by_cases h1 : i < i0
  · rw [if_pos h1, if_pos h1]
  · rw [if_neg h1, if_neg (by omega)]; omega
theorem back_lt {i0 i n : Nat} (h0 : i0 < n + 1) (h : i < n + 1) (hne : i ≠ i0) : back i0 i < n := by unfold back; split <;> omega

theorem det_congr : ∀ (n : Nat) {M N : Nat → V}, (∀ i j, i < n → j < n → M i j = N i j) → det n M = det n N
  | 0, _, _, _ => rfl
  | n + 1, M, N, h => by
    rw [det_s, det_s]
    refine sum_congr fun i hi => ?_
    rw [h i 0 hi (by omega), det_congr n (M := minor M i) (N := minor N i) fun l j hl hj => h _ _ (leap_lt hl) (by omega)]

/-- The same rows but for one. -/
def upd (M : Nat → V) (r : Nat) (v : V) : Nat → V := fun l => if l = r then v else M l
theorem upd_same (M : Nat → V) (r : Nat) (v : V) : upd M r v r = v := if_pos rfl
theorem upd_ne (M : Nat → V) {r l : Nat} (v : V) (h : l ≠ r) : upd M r v l = M l := if_neg h
theorem upd_self (M : Nat → V) (r : Nat) : upd M r (M r) = M := by
  funext l; unfold upd; split
  · rename_i h; rw [h]
  · rfl
theorem minor_upd_same (M : Nat → V) (r : Nat) (v : V) : minor (upd M r v) r = minor M r := by
  funext l; unfold minor; rw [upd_ne _ _ (leap_ne r l)]
theorem minor_upd_ne (M : Nat → V) {r i : Nat} (v : V) (h : r ≠ i) : minor (upd M r v) i = upd (minor M i) (back i r) (tl v) := by
  funext l
  unfold minor upd
  by_cases hl : leap i l = r
  · rw [if_pos hl, if_pos (leap_inj (i0 := i) (by rw [hl, leap_back h]))]
  · rw [if_neg hl, if_neg (fun e => hl (by rw [e, leap_back h]))]

/-- Linear in a row. -/
theorem det_lin : ∀ (n : Nat) (M : Nat → V) (r : Nat) (u v : V) (k : F), r < n → det n (upd M r (fun j => u j + k * v j)) = det n (upd M r u) + k * det n (upd M r v)
  | 0, _, _, _, _, _, h => by omega
  | n + 1, M, r, u, v, k, h => by
    rw [det_s, det_s, det_s, ← sum_mul, ← sum_add]
    refine sum_congr fun i hi => ?_
    by_cases hir : i = r
    · subst hir
      rw [upd_same, upd_same, upd_same, minor_upd_same, minor_upd_same, minor_upd_same]; grind
    · rw [upd_ne _ _ hir, upd_ne _ _ hir, upd_ne _ _ hir, minor_upd_ne _ _ (Ne.symm hir), minor_upd_ne _ _ (Ne.symm hir), minor_upd_ne _ _ (Ne.symm hir)]
      have := det_lin n (minor M i) (back i r) (tl u) (tl v) k (back_lt hi h (Ne.symm hir))
      rw [show tl (fun j => u j + k * v j) = (fun j => tl u j + k * tl v j) from rfl, this]; grind
theorem sum_two {n a : Nat} (ha : a + 1 < n) (f : Nat → F) (h : ∀ i, i < n → i ≠ a → i ≠ a + 1 → f i = 0) : sum n f = f a + f (a + 1) := by
  have e : sum n f = sum n (fun i => (if i = a then f a else 0) + (if i = a + 1 then f (a + 1) else 0)) := sum_congr fun i hi => by
    by_cases h1 : i = a
    · subst h1; rw [if_pos rfl, if_neg (by omega)]; grind
    · by_cases h2 : i = a + 1
      · subst h2; rw [if_neg h1, if_pos rfl]; grind
      · rw [if_neg h1, if_neg h2, h i hi h1 h2]; grind
  rw [e, sum_add, sum_one (i := a) (by omega) (fun j _ hj => if_neg hj), sum_one (i := a + 1) ha (fun j _ hj => if_neg hj), if_pos rfl, if_pos rfl]
/-- Two neighbours that are alike: 0. -/
theorem det_adj : ∀ (n : Nat) (M : Nat → V) (r : Nat), r + 1 < n → M r = M (r + 1) → det n M = 0
  | 0, _, _, h, _ => by omega
  | n + 1, M, r, h, he => by
    rw [det_s, sum_two (a := r) h]
    · have : minor M r = minor M (r + 1) := by
        funext l
        unfold minor
        by_cases hl : l < r
        · rw [show leap r l = l from if_pos hl, show leap (r + 1) l = l from if_pos (by omega)]
        · by_cases h2 : l = r
          · subst h2
            rw [show leap l l = l + 1 from if_neg (by omega), show leap (l + 1) l = l from if_pos (by omega), he]
          · rw [show leap r l = l + 1 from if_neg hl, show leap (r + 1) l = l + 1 from if_neg (by omega)]
      rw [this, he, sg_s]; grind
    · intro i hi h1 h2
      rcases Nat.lt_or_gt_of_ne h1 with h3 | h3
      · rw [det_adj n (minor M i) (r - 1) (by omega) (by
          unfold minor
          rw [show leap i (r - 1) = r by unfold leap; rw [if_neg (by omega)]; omega, show leap i (r - 1 + 1) = r + 1 by unfold leap; rw [if_neg (by omega)]; omega, he])]; grind
      · rw [det_adj n (minor M i) r (by omega) (by
          unfold minor
          rw [show leap i r = r from if_pos (by omega), show leap i (r + 1) = r + 1 from if_pos (by omega), he])]; grind

/-! What is linear and alternating. -/
/-- A function of n rows that is linear in each row and 0 where two neighbours are alike. -/
structure Alt (n : Nat) (D : (Nat → V) → F) : Prop where
  lin : ∀ M r u v k, r < n → D (upd M r (fun j => u j + k * v j)) = D (upd M r u) + k * D (upd M r v)
  adj : ∀ M r, r + 1 < n → M r = M (r + 1) → D M = 0
theorem alt_det (n : Nat) : Alt n (det n) := ⟨det_lin n, det_adj n⟩
section
variable {n : Nat} {D : (Nat → V) → F}
theorem upd_upd (M : Nat → V) (r : Nat) (u v : V) : upd (upd M r u) r v = upd M r v := by
  funext l; unfold upd; split <;> rfl
theorem upd_comm (M : Nat → V) {r s : Nat} (h : r ≠ s) (u v : V) : upd (upd M r u) s v = upd (upd M s v) r u := by
  funext l; unfold upd; split <;> split <;> first | rfl | omega
def swap (M : Nat → V) (r s : Nat) : Nat → V := upd (upd M r (M s)) s (M r)
theorem Alt.add (h : Alt n D) (M : Nat → V) {r : Nat} (u v : V) (hr : r < n) : D (upd M r (fun j => u j + v j)) = D (upd M r u) + D (upd M r v) := by
  have := h.lin M r u v 1 hr
  rw [show (fun j => u j + v j) = (fun j => u j + 1 * v j) by funext j; grind, this]; grind
/-- Two neighbours swapped. -/
theorem Alt.swap1 (h : Alt n D) (M : Nat → V) {r : Nat} (hr : r + 1 < n) : D (swap M r (r + 1)) = 0 - D M := by
  have key : ∀ u v : V, D (upd (upd M r u) (r + 1) v) + D (upd (upd M r v) (r + 1) u) = 0 := fun u v => by
    have h0 := h.adj (upd (upd M r (fun j => u j + v j)) (r + 1) (fun j => u j + v j)) r hr (by rw [upd_ne _ _ (by omega), upd_same, upd_same])
    have h1 := h.adj (upd (upd M r u) (r + 1) u) r hr (by rw [upd_ne _ _ (by omega), upd_same, upd_same])
    have h2 := h.adj (upd (upd M r v) (r + 1) v) r hr (by rw [upd_ne _ _ (by omega), upd_same, upd_same])
    have hne : r ≠ r + 1 := by omega
    rw [h.add _ _ _ hr, upd_comm _ hne _ u, upd_comm _ hne _ v, h.add _ _ _ (by omega), h.add _ _ _ (by omega), ← upd_comm _ hne u u, ← upd_comm _ hne v u, ← upd_comm _ hne u v, ← upd_comm _ hne v v, h1, h2] at h0
    grind
  have := key (M r) (M (r + 1))
  rw [upd_self, upd_self] at this
  unfold swap
  grind
/-- Two rows that are alike: 0. -/
theorem Alt.same (h : Alt n D) : ∀ (d : Nat) (M : Nat → V) (r : Nat), r + d + 1 < n → M r = M (r + d + 1) → D M = 0
  | 0, M, r, hr, he => h.adj M r hr he
  | d + 1, M, r, hr, he => by
    have h1 := h.swap1 M (r := r + d + 1) (by omega)
    have h2 := h.same d (swap M (r + d + 1) (r + d + 2)) r (by omega) (by
      unfold swap
      rw [upd_ne _ _ (by omega), upd_ne _ _ (by omega), upd_ne _ _ (by omega), upd_same]
      exact he)
    rw [h2] at h1
    grind
theorem Alt.alike (h : Alt n D) (M : Nat → V) {r s : Nat} (hr : r < n) (hs : s < n) (hne : r ≠ s) (he : M r = M s) : D M = 0 := by
  rcases Nat.lt_or_gt_of_ne hne with h1 | h1
  · obtain ⟨d, rfl⟩ : ∃ d, s = r + d + 1 := ⟨s - r - 1, by omega⟩
    exact h.same d M r hs he
  · obtain ⟨d, rfl⟩ : ∃ d, r = s + d + 1 := ⟨r - s - 1, by omega⟩
    exact h.same d M s hr he.symm
/-- A multiple of another row is added. -/
theorem Alt.addrow (h : Alt n D) (M : Nat → V) {r s : Nat} (hr : r < n) (hs : s < n) (hne : r ≠ s) (k : F) : D (upd M r (fun j => M r j + k * M s j)) = D M := by
  rw [h.lin M r (M r) (M s) k hr, upd_self, h.alike (upd M r (M s)) hr hs hne (by rw [upd_same, upd_ne _ _ (Ne.symm hne)])]
  grind
theorem Alt.scale (h : Alt n D) (M : Nat → V) {r : Nat} (hr : r < n) (k : F) (v : V) : D (upd M r (fun j => k * v j)) = k * D (upd M r v) := by
  have h1 := h.lin M r (fun _ => 0) v k hr
  have h2 := h.lin M r (fun _ => 0) (fun _ => 0) 1 hr
  rw [show (fun j : Nat => (0 : F) + 1 * 0) = (fun _ => 0) by funext j; grind] at h2
  rw [show (fun j => (0 : F) + k * v j) = (fun j => k * v j) by funext j; grind] at h1
  grind
/-- Two rows swapped. -/
theorem Alt.swap (h : Alt n D) (M : Nat → V) {r s : Nat} (hr : r < n) (hs : s < n) (hne : r ≠ s) : D (swap M r s) = 0 - D M := by
  have key : ∀ u v : V, D (upd (upd M r u) s v) + D (upd (upd M r v) s u) = 0 := fun u v => by
    have hne' := Ne.symm hne
    have h0 := h.alike (upd (upd M r (fun j => u j + v j)) s (fun j => u j + v j)) hr hs hne (by rw [upd_ne _ _ hne, upd_same, upd_same])
    have h1 := h.alike (upd (upd M r u) s u) hr hs hne (by rw [upd_ne _ _ hne, upd_same, upd_same])
    have h2 := h.alike (upd (upd M r v) s v) hr hs hne (by rw [upd_ne _ _ hne, upd_same, upd_same])
    rw [h.add _ _ _ hs, upd_comm _ hne _ u, upd_comm _ hne _ v, h.add _ _ _ hr, h.add _ _ _ hr, ← upd_comm _ hne u u, ← upd_comm _ hne v u, ← upd_comm _ hne u v, ← upd_comm _ hne v v, h1, h2] at h0
    grind
  have := key (M r) (M s)
  rw [upd_self, upd_self] at this
  unfold Det.swap
  grind
theorem Alt.zero (h : Alt n D) (M : Nat → V) {r : Nat} (hr : r < n) (h0 : ∀ j, M r j = 0) : D M = 0 := by
  have := h.scale M hr 0 (M r)
  rw [show (fun j => 0 * M r j) = M r by funext j; rw [h0 j]; grind, upd_self] at this
  grind
end
end Go.Proofs.YtefcfeikooknmaaGreat.Det
namespace Go.Proofs.YtefcfeikooknmaaGreat.Det
open Go.Proofs.YtefcfeikooknmaaGreat.Vec Go.Proofs.YtefcfeikooknmaaGreat.Lin

/-- Alternating, and it looks at the first n rows and columns alone. -/
structure Form (n : Nat) (D : (Nat → V) → F) : Prop where
  alt : Alt n D
  loc : ∀ M N, (∀ i j, i < n → j < n → M i j = N i j) → D M = D N
theorem form_det (n : Nat) : Form n (det n) := ⟨alt_det n, fun _ _ h => det_congr n h⟩
/-- The identity's rows. -/
def one : Nat → V := ind
theorem one_at (i j : Nat) : one i j = if j = i then 1 else 0 := rfl

section
variable {n : Nat} {D E : (Nat → V) → F} (inv : F → F) (hinv : ∀ x : F, x ≠ 0 → x * inv x = 1)
/-- Rows while a column is cleared: those below i are done. -/
def clr (M : Nat → V) (a q k i : Nat) : Nat → V := fun l => if l < i then cleared inv M a q k l else if l = a then cleared inv M a q k a else swapped M a q l
theorem clr_0 (M : Nat → V) (a q k : Nat) : clr inv M a q k 0 = upd (swapped M a q) a (fun j => inv (M q k) * M q j) := by
  funext l
  unfold clr upd
  rw [if_neg (by omega)]
  split
  · rename_i h; subst h; funext j; rw [cleared_a]; grind
  · rfl
theorem clr_s (M : Nat → V) (a q k i : Nat) : clr inv M a q k (i + 1) = if i = a then clr inv M a q k i else upd (clr inv M a q k i) i (fun j => clr inv M a q k i i j + (0 - swapped M a q i k) * clr inv M a q k i a j) := by
  by_cases h : i = a
  · rw [if_pos h]
    subst h
    funext l
    unfold clr
    by_cases h1 : l < i
    · rw [if_pos (by omega), if_pos h1]
    · rw [if_neg h1]
      by_cases h2 : l = i
      · subst h2; rw [if_pos (by omega), if_pos rfl]
      · rw [if_neg (by omega), if_neg h2]
  · rw [if_neg h]
    have ha : clr inv M a q k i a = cleared inv M a q k a := by
      unfold clr; split
      · rfl
      · rw [if_pos rfl]
    have hi : clr inv M a q k i i = swapped M a q i := by unfold clr; rw [if_neg (by omega), if_neg h]
    funext l
    by_cases h1 : l = i
    · subst h1
      rw [upd_same, hi, ha]
      unfold clr
      rw [if_pos (by omega)]
      funext j
      rw [cleared_o _ _ _ _ _ h, cleared_a]; grind
    · rw [upd_ne _ _ h1]
      unfold clr
      by_cases h2 : l < i
      · rw [if_pos (by omega), if_pos h2]
      · rw [if_neg (by omega), if_neg h2]
theorem swapped_swap (M : Nat → V) (a q : Nat) : swapped M a q = swap M q a := by
  funext l
  unfold swapped swap upd
  split
  · rfl
  · rfl
include hinv
/-- What clearing a column does to an alternating function: a factor that is the same for all. -/
theorem Form.clear (M : Nat → V) {a q k : Nat} (ha : a < n) (hq : q < n) (hne : M q k ≠ 0) : ∃ c : F, c ≠ 0 ∧ ∀ D, Form n D → D (cleared inv M a q k) = c * D M := by
  have hi : inv (M q k) ≠ 0 := fun e => by
    have := hinv _ hne
    rw [e] at this
    have h1 : (1 : F) = 0 := by grind
    exact absurd h1 (by decide)
  have hall : ∀ D, Form n D → ∀ i, i ≤ n → D (clr inv M a q k i) = D (clr inv M a q k 0) := fun D hD i => by
    induction i with
    | zero => intro _; rfl
    | succ i ih =>
      intro h
      rw [clr_s]
      split
      · exact ih (by omega)
      · rename_i hia
        rw [hD.alt.addrow _ (show i < n by omega) ha hia, ih (by omega)]
  have h0 : ∀ D, Form n D → D (cleared inv M a q k) = inv (M q k) * D (swapped M a q) := fun D hD => by
    have e1 : D (cleared inv M a q k) = D (clr inv M a q k n) := hD.loc _ _ fun i j hi _ => by unfold clr; rw [if_pos hi]
    have e2 : upd (swapped M a q) a (M q) = swapped M a q := by
      conv => rhs; rw [← upd_self (swapped M a q) a]
      rw [swapped_a]
    rw [e1, hall D hD n (Nat.le_refl _), clr_0, hD.alt.scale _ ha, e2]
  by_cases hqa : q = a
  · subst hqa
    refine ⟨inv (M q k), hi, fun D hD => ?_⟩
    rw [h0 D hD]
    congr 2
    funext l
    unfold swapped
    split
    · rename_i h; rw [h]
    · rfl
  · refine ⟨0 - inv (M q k), fun e => hi (by grind), fun D hD => ?_⟩
    rw [h0 D hD, swapped_swap, hD.alt.swap _ hq ha hqa]; grind
theorem mul_can {x y c : F} (hc : c ≠ 0) (h : c * x = c * y) : x = y := by
  have := hinv c hc
  have h2 : inv c * (c * x) = inv c * (c * y) := by rw [h]
  grind
/-- Two alternating functions differ by a factor. -/
theorem Form.uniq (hD : Form n D) (hE : Form n E) (M : Nat → V) : D M * E one = E M * D one := by
  have key : ∀ (t k a : Nat) (R : Nat → V) (p : Nat → Nat), k + t = n → Elim n a k R p → D R * E one = E R * D one := by
    intro t
    induction t with
    | zero =>
      intro k a R p hk h
      obtain rfl : k = n := by omega
      by_cases ha : a = k
      · subst ha
        have hp : ∀ i, i < a → p i = i := fun i hi => by
          have h1 : ∀ i, i < a → i ≤ p i := fun i => by
            induction i with
            | zero => intro _; omega
            | succ i ih => intro hi; have := ih (by omega); have := h.up i (i + 1) (by omega) hi; omega
          have h2 : ∀ d i, i + d + 1 = a → p i ≤ i := fun d => by
            induction d with
            | zero => intro i hi; have := h.lt i (by omega); omega
            | succ d ih => intro i hi; have := ih (i + 1) (by omega); have := h.up i (i + 1) (by omega) (by omega); omega
          have := h1 i hi
          have := h2 (a - i - 1) i (by omega)
          omega
        have hR : ∀ i j, i < a → j < a → R i j = one i j := fun i j hi hj => by
          rw [one_at]
          by_cases e : j = i
          · subst e; rw [if_pos rfl]; have := h.one j hi; rwa [hp j hi] at this
          · rw [if_neg e]; have := h.zero j i hj hi (fun e' => e e'.symm); rwa [hp j hj] at this
        rw [hD.loc R one hR, hE.loc R one hR]; grind
      · have hal : a < k := by have := h.le; omega
        have hz : ∀ G, Form k G → G R = 0 := fun G hG => by
          have e : G R = G (upd R a (fun _ => 0)) := hG.loc _ _ fun i j hi hj => by
            unfold upd; split
            · rename_i e; subst e; exact h.rest i j (Nat.le_refl _) hi hj
            · rfl
          rw [e, hG.alt.zero _ hal fun j => by rw [upd_same]]
        rw [hz D hD, hz E hE]; grind
    | succ t ih =>
      intro k a R p hk h
      by_cases h0 : ∀ l, a ≤ l → l < n → R l k = 0
      · exact ih (k + 1) a R p (by omega) (h.none h0)
      · obtain ⟨q, hq⟩ := Classical.not_forall.1 h0
        obtain ⟨hq1, hq⟩ := Classical.not_imp.1 hq
        obtain ⟨hq2, hne⟩ := Classical.not_imp.1 hq
        have h1 := ih (k + 1) (a + 1) _ _ (by omega) (h.pivot inv hinv hq1 hq2 hne)
        obtain ⟨c, hc, hcl⟩ := Form.clear inv hinv R (show a < n by omega) hq2 hne
        rw [hcl D hD, hcl E hE] at h1
        exact mul_can inv hinv hc (by grind)
  exact key n 0 0 M (fun _ => 0) (by omega) (Elim.start n M _)
end

theorem minor_one (l j : Nat) : minor one 0 l j = one l j := by
  unfold minor tl leap
  rw [if_neg (by omega), one_at, one_at]
  by_cases h : j = l
  · rw [if_pos h, if_pos (by omega)]
  · rw [if_neg h, if_neg (by omega)]
theorem sg_0 : sg 0 = 1 := rfl
/-- The first column is 0 below the first row. -/
theorem det_step (n : Nat) (M : Nat → V) (h : ∀ i, 0 < i → i < n + 1 → M i 0 = 0) : det (n + 1) M = M 0 0 * det n (fun i j => M (i + 1) (j + 1)) := by
  rw [det_s, sum_one (i := 0) (by omega) (fun i hi hne => by rw [h i (by omega) hi]; grind), sg_0]
  have : minor M 0 = fun i j => M (i + 1) (j + 1) := by
    funext l j; unfold minor tl leap; rw [if_neg (by omega)]
  rw [this]; grind
theorem det_one (n : Nat) : det n one = 1 := by
  induction n with
  | zero => rfl
  | succ n ih =>
    rw [det_step n one fun i h _ => by rw [one_at, if_neg (by omega)], det_congr n (N := one) fun i j _ _ => by
      rw [one_at, one_at]
      by_cases h : j = i
      · rw [if_pos h, if_pos (by omega)]
      · rw [if_neg h, if_neg (by omega)], ih, one_at, if_pos rfl]; grind
/-- The product of the first diagonal elements. -/
def diag (M : Nat → V) : Nat → F
  | 0 => 1
  | k + 1 => diag M k * M k k
/-- Triangular in its first k columns. -/
theorem det_tri (k n : Nat) : ∀ (M : Nat → V), (∀ i j, j < k → j < i → i < k + n → M i j = 0) → det (k + n) M = diag M k * det n (fun i j => M (k + i) (k + j)) := by
  induction k generalizing n with
  | zero =>
    intro M _
    rw [Nat.zero_add, det_congr n (N := fun i j => M (0 + i) (0 + j)) fun i j _ _ => by rw [Nat.zero_add, Nat.zero_add]]
    show _ = (1 : F) * _
    grind
  | succ k ih =>
    intro M h
    have h1 := ih (n + 1) M fun i j hj hji hi => h i j (by omega) hji (by omega)
    rw [show k + 1 + n = k + (n + 1) by omega, h1, det_step n _ fun i h0 hi => h (k + i) (k + 0) (by omega) (by omega) (by omega)]
    show _ = diag M k * M k k * _
    rw [det_congr n (N := fun i j => M (k + 1 + i) (k + 1 + j)) fun i j _ _ => by
      show M (k + (i + 1)) (k + (j + 1)) = _
      rw [show k + (i + 1) = k + 1 + i by omega, show k + (j + 1) = k + 1 + j by omega]]
    show diag M k * (M k k * _) = _
    grind
/-- A column of zeros. -/
theorem det_col0 (n : Nat) (M : Nat → V) (h : ∀ i, i < n + 1 → M i 0 = 0) : det (n + 1) M = 0 := by
  rw [det_s]; exact sum_zero fun i hi => by rw [h i hi]; grind

/-- The rows of a product. -/
def mulR (n : Nat) (A B : Nat → V) : Nat → V := fun i => lin n B (A i)
theorem form_mul (n : Nat) (B : Nat → V) : Form n (fun A => det n (mulR n A B)) := by
  have hup : ∀ (A : Nat → V) (r : Nat) (v : V), mulR n (upd A r v) B = upd (mulR n A B) r (lin n B v) := fun A r v => by
    funext l; unfold mulR upd; split <;> rfl
  refine ⟨⟨fun A r u v k hr => ?_, fun A r hr he => ?_⟩, fun A A' h => ?_⟩
  · rw [hup, hup, hup, show lin n B (fun j => u j + k * v j) = (fun j => lin n B u j + k * lin n B v j) by funext j; rw [lin_add, lin_mul]]
    exact det_lin n _ r _ _ k hr
  · exact det_adj n _ r hr (by unfold mulR; rw [he])
  · exact det_congr n fun i j hi _ => by
      unfold mulR
      rw [lin_congr (T := B) (fun k hk => h i k hi hk) fun _ _ => rfl]
section
variable (inv : F → F) (hinv : ∀ x : F, x ≠ 0 → x * inv x = 1)
include hinv
theorem det_mul (n : Nat) (A B : Nat → V) : det n (mulR n A B) = det n A * det n B := by
  have h := Form.uniq inv hinv (form_mul n B) (form_det n) A
  rw [det_one] at h
  have e : det n (mulR n one B) = det n B := det_congr n fun i j hi _ => by unfold mulR one; rw [lin_ind B hi]
  rw [e] at h
  grind
end

/-! The transposed matrix. -/
def tr (M : Nat → V) : Nat → V := fun i j => M j i
theorem tr_tr (M : Nat → V) : tr (tr M) = M := rfl
theorem leap_leap {p q : Nat} (h : p ≠ q) (c : Nat) : leap p (leap (back p q) c) = leap q (leap (back q p) c) := by
  unfold leap back
  rcases Nat.lt_or_gt_of_ne h with h1 | h1
  · rw [if_neg (show ¬ q < p by omega), if_pos h1]
    by_cases h2 : c < p
    · rw [if_pos (show c < q - 1 by omega), if_pos h2, if_pos (show c < q by omega)]
    · rw [if_neg h2]
      by_cases h3 : c < q - 1
      · rw [if_pos h3, if_neg h2, if_pos (show c + 1 < q by omega)]
      · rw [if_neg h3, if_neg (show ¬ c + 1 < p by omega), if_neg (show ¬ c + 1 < q by omega)]
  · rw [if_pos (show q < p by omega), if_neg (show ¬ p < q by omega)]
    by_cases h2 : c < q
    · rw [if_pos h2, if_pos (show c < p by omega), if_pos (show c < p - 1 by omega), if_pos (show c < q by omega)]
    · rw [if_neg h2]
      by_cases h3 : c < p - 1
      · rw [if_pos (show c + 1 < p by omega), if_pos h3, if_neg h2]
      · rw [if_neg (show ¬ c + 1 < p by omega), if_neg h3, if_neg (show ¬ c + 1 < q by omega)]
theorem sg_back {p q : Nat} (h : p ≠ q) : sg p * sg (back p q) = 0 - sg q * sg (back q p) := by
  unfold back
  rcases Nat.lt_or_gt_of_ne h with h1 | h1
  · obtain ⟨d, rfl⟩ : ∃ d, q = d + 1 := ⟨q - 1, by omega⟩
    rw [if_neg (by omega), if_pos h1, Nat.add_sub_cancel, sg_s]; grind
  · obtain ⟨d, rfl⟩ : ∃ d, p = d + 1 := ⟨p - 1, by omega⟩
    rw [if_pos h1, if_neg (by omega), Nat.add_sub_cancel, sg_s]; grind
theorem zero_of_neg {S : F} (h : S = 0 - S) : S = 0 := by
  have h2 : (510 : F) * (S + S) = S := by grind
  have h3 : S + S = 0 := by grind
  rw [h3] at h2
  rw [← h2]; grind
theorem sum_sub0 (n : Nat) (f : Nat → F) : sum n (fun i => 0 - f i) = 0 - sum n f := by
  have := sum_mul n (0 - 1) f
  rw [show (fun i => 0 - f i) = (fun i => (0 - 1) * f i) by funext i; grind, this]; grind
/-- Expansion of the transposed matrix: along the first row. -/
theorem det_tr_s (n : Nat) (M : Nat → V) : det (n + 1) (tr M) = sum (n + 1) fun j => sg j * M 0 j * det n (tr fun l c => M (l + 1) (leap j c)) := rfl
theorem alt_tr : ∀ n, Alt n (fun M => det n (tr M))
  | 0 => ⟨fun _ _ _ _ _ h => by omega, fun _ _ h => by omega⟩
  | n + 1 => by
    have ih := alt_tr n
    refine ⟨fun M r u v k hr => ?_, fun M r hr he => ?_⟩
    · show det (n + 1) (tr _) = det (n + 1) (tr _) + k * det (n + 1) (tr _)
      rw [det_tr_s, det_tr_s, det_tr_s, ← sum_mul, ← sum_add]
      refine sum_congr fun j hj => ?_
      cases r with
      | zero =>
        rw [upd_same, upd_same, upd_same]
        have e : ∀ x : V, (tr fun l c => upd M 0 x (l + 1) (leap j c)) = tr fun l c => M (l + 1) (leap j c) := fun x => by
          funext a b; show upd M 0 x (b + 1) (leap j a) = _; rw [upd_ne _ _ (by omega)]; rfl
        rw [e, e, e]; grind
      | succ r =>
        rw [upd_ne _ _ (by omega), upd_ne _ _ (by omega), upd_ne _ _ (by omega)]
        have e : ∀ x : V, (fun l c => upd M (r + 1) x (l + 1) (leap j c)) = upd (fun l c => M (l + 1) (leap j c)) r (fun c => x (leap j c)) := fun x => by
          funext a b
          by_cases h : a = r
          · subst h; rw [upd_same, upd_same]
          · rw [upd_ne _ _ (by omega), upd_ne _ _ h]
        rw [e, e, e]
        have := ih.lin (fun l c => M (l + 1) (leap j c)) r (fun c => u (leap j c)) (fun c => v (leap j c)) k (by omega)
        rw [this]; grind
    · show det (n + 1) (tr M) = 0
      cases r with
      | succ r =>
        rw [det_tr_s]
        refine sum_zero fun j hj => ?_
        have := ih.adj (fun l c => M (l + 1) (leap j c)) r (by omega) (by funext c; rw [he])
        rw [this]; grind
      | zero =>
        obtain ⟨n, rfl⟩ : ∃ n', n = n' + 1 := ⟨n - 1, by omega⟩
        have he' : M 1 = M 0 := he.symm
        -- the double sum over the places of the first two rows
        let Y : Nat → Nat → F := fun p q => det n (tr fun l c => M (l + 2) (leap p (leap (back p q) c)))
        let G : Nat → Nat → F := fun p q => if q = p then 0 else sg p * sg (back p q) * M 0 p * M 0 q * Y p q
        have h1 : det (n + 1 + 1) (tr M) = sum (n + 2) fun p => sum (n + 2) (G p) := by
          rw [det_tr_s]
          refine sum_congr fun p hp => ?_
          rw [sum_leap (i0 := p) (by omega) (G p), show G p p = 0 from if_pos rfl, det_tr_s, ← sum_mul]
          have : (sum (n + 1) fun i => sg p * M 0 p * (sg i * M 1 (leap p i) * det n (tr fun l c => M (l + 1 + 1) (leap p (leap i c))))) = sum (n + 1) fun i => G p (leap p i) := sum_congr fun k hk => by
            have hb : back p (leap p k) = k := leap_inj (leap_back (leap_ne p k))
            show _ = if leap p k = p then 0 else sg p * sg (back p (leap p k)) * M 0 p * M 0 (leap p k) * det n (tr fun l c => M (l + 2) (leap p (leap (back p (leap p k)) c)))
            rw [if_neg (leap_ne p k), hb, he']; grind
          rw [← this]; grind
        have hG : ∀ p q, G p q = 0 - G q p := fun p q => by
          show (if q = p then (0 : F) else _) = 0 - (if p = q then (0 : F) else _)
          by_cases h : q = p
          · rw [if_pos h, if_pos h.symm]; grind
          · rw [if_neg h, if_neg (fun e => h e.symm)]
            have hY : Y p q = Y q p := by
              show det n (tr fun l c => _) = det n (tr fun l c => _)
              congr 1
              funext a b
              show M (b + 2) _ = M (b + 2) _
              rw [leap_leap (fun e => h e.symm)]
            rw [hY]
            have := sg_back (fun e : p = q => h e.symm)
            grind
        rw [h1]
        refine zero_of_neg ?_
        have h2 : (sum (n + 2) fun p => sum (n + 2) (G p)) = sum (n + 2) fun p => sum (n + 2) fun q => 0 - G q p := sum_congr fun p _ => sum_congr fun q _ => hG p q
        have h3 : (sum (n + 2) fun p => sum (n + 2) fun q => 0 - G q p) = sum (n + 2) fun p => 0 - sum (n + 2) fun q => G q p := sum_congr fun p _ => sum_sub0 _ _
        have h4 := sum_comm (n + 2) (n + 2) G
        calc (sum (n + 2) fun p => sum (n + 2) (G p)) = sum (n + 2) fun p => 0 - sum (n + 2) fun q => G q p := h2.trans h3
          _ = 0 - sum (n + 2) fun p => sum (n + 2) fun q => G q p := sum_sub0 _ _
          _ = 0 - sum (n + 2) fun p => sum (n + 2) (G p) := by rw [h4]
section
variable (inv : F → F) (hinv : ∀ x : F, x ≠ 0 → x * inv x = 1)
include hinv
theorem det_tr (n : Nat) (M : Nat → V) : det n (tr M) = det n M := by
  have hf : Form n (fun M => det n (tr M)) := ⟨alt_tr n, fun A B h => det_congr n fun i j hi hj => h j i hj hi⟩
  have h := Form.uniq inv hinv hf (form_det n) M
  have e : det n (tr one) = 1 := by
    rw [← det_one n]
    exact det_congr n fun i j _ _ => by
      show one j i = one i j
      rw [one_at, one_at]
      by_cases h : i = j
      · rw [if_pos h, if_pos h.symm]
      · rw [if_neg h, if_neg (fun e => h e.symm)]
  rw [det_one, e] at h
  grind
end
end Go.Proofs.YtefcfeikooknmaaGreat.Det
namespace Go.Proofs.YtefcfeikooknmaaGreat.InvP
open Go.Proofs.YtefcfeikooknmaaGreat.Field Go.Proofs.YtefcfeikooknmaaGreat.Vec Go.Proofs.YtefcfeikooknmaaGreat.Mat Go.Proofs.YtefcfeikooknmaaGreat.MatP Go.Proofs.YtefcfeikooknmaaGreat.Lin Go.Proofs.YtefcfeikooknmaaGreat.Rref Go.Proofs.YtefcfeikooknmaaGreat.Det

theorem mulR_assoc (n : Nat) (A B C : Nat → V) : mulR n (mulR n A B) C = mulR n A (mulR n B C) := by
  funext i j
  show sum n (fun k => sum n (fun l => A i l * B l k) * C k j) = sum n (fun l => A i l * sum n (fun k => B l k * C k j))
  have h1 : sum n (fun k => sum n (fun l => A i l * B l k) * C k j) = sum n (fun k => sum n (fun l => A i l * B l k * C k j)) := sum_congr fun k _ => by
    have := sum_mul n (C k j) (fun l => A i l * B l k)
    rw [show (sum n fun l => A i l * B l k * C k j) = sum n fun l => C k j * (A i l * B l k) from sum_congr fun _ _ => by grind, this]; grind
  have h2 : sum n (fun l => A i l * sum n (fun k => B l k * C k j)) = sum n (fun l => sum n (fun k => A i l * B l k * C k j)) := sum_congr fun l _ => by
    rw [← sum_mul]; exact sum_congr fun _ _ => by grind
  rw [h1, h2, sum_comm]
/-- The same in the first n rows and columns. -/
def Like (n : Nat) (A B : Nat → V) : Prop := ∀ i j, i < n → j < n → A i j = B i j
theorem mulR_like {n : Nat} {A A' B B' : Nat → V} (h : Like n A A') (h2 : Like n B B') : Like n (mulR n A B) (mulR n A' B') := fun i j hi hj =>
  show sum n (fun k => A i k * B k j) = sum n (fun k => A' i k * B' k j) from sum_congr fun k hk => by rw [h i k hi hk, h2 k j hk hj]
theorem mulR_one (n : Nat) (A : Nat → V) : Like n (mulR n A one) A := fun i j _ hj => by
  show sum n (fun k => A i k * one k j) = A i j
  rw [sum_one hj fun k _ hk => by rw [one_at, if_neg (fun e => hk e.symm)]; grind, one_at, if_pos rfl]; grind
theorem one_mulR (n : Nat) (A : Nat → V) : Like n (mulR n one A) A := fun _ j hi _ => lin_ind A hi j
theorem Like.symm {n : Nat} {A B : Nat → V} (h : Like n A B) : Like n B A := fun i j hi hj => (h i j hi hj).symm
theorem Like.trans {n : Nat} {A B C : Nat → V} (h : Like n A B) (h2 : Like n B C) : Like n A C := fun i j hi hj => (h i j hi hj).trans (h2 i j hi hj)
theorem Like.refl (n : Nat) (A : Nat → V) : Like n A A := fun _ _ _ _ => rfl
theorem det_like {n : Nat} {A B : Nat → V} (h : Like n A B) : det n A = det n B := det_congr n h
theorem full_piv {n w : Nat} {R : Nat → V} {p : Nat → Nat} (h : Red n w R p) (hw : w = n) : ∀ i, i < n → p i = i := fun i hi => by
  have h1 : ∀ i, i < n → i ≤ p i := fun i => by
    induction i with
    | zero => intro _; omega
    | succ i ih => intro hi; have := ih (by omega); have := h.up i (i + 1) (by omega) hi; omega
  have h2 : ∀ d i, i + d + 1 = n → p i ≤ i := fun d => by
    induction d with
    | zero => intro i hi; have := h.lt i (by omega); omega
    | succ d ih => intro i hi; have := ih (i + 1) (by omega); have := h.up i (i + 1) (by omega) (by omega); omega
  have := h1 i hi
  have := h2 (n - i - 1) i (by omega)
  omega
/-- Reduced rows, as many as columns: the identity. -/
theorem full_one {n : Nat} {R : Nat → V} {p : Nat → Nat} (h : Red n n R p) : Like n R one := fun i j hi hj => by
  have hp := full_piv h rfl
  rw [one_at]
  by_cases e : j = i
  · subst e; rw [if_pos rfl]; have := h.one j hi; rwa [hp j hi] at this
  · rw [if_neg e]; have := h.zero i j hi hj e; rwa [hp j hj] at this
/-- Where the determinant is not 0 there is a left inverse. -/
theorem exists_left {n : Nat} {M : Nat → V} (hd : det n M ≠ 0) : ∃ X, Like n (mulR n X M) one := by
  obtain ⟨a, R, p, h, h1, h2⟩ := exists_elim invF invF_ok n M n
  by_cases ha : a = n
  · subst ha
    obtain ⟨X, hX⟩ := choose_c h1
    exact ⟨X, fun i j hi hj => by
      have := full_one h.red i j hi hj
      rw [hX i hi] at this
      exact this⟩
  · exfalso
    apply hd
    obtain ⟨C, hC⟩ := choose_c h2
    have hz : det n R = 0 := by
      have hal : a < n := by have := h.le; omega
      have e : det n R = det n (upd R a (fun _ => 0)) := det_congr n fun i j hi hj => by
        unfold upd; split
        · rename_i e; subst e; exact h.rest i j (Nat.le_refl _) hi hj
        · rfl
      rw [e, (alt_det n).zero _ hal fun j => by rw [upd_same]]
    have : det n M = det n (mulR n C R) := det_congr n fun i j hi _ => by rw [hC i hi]; rfl
    rw [this, det_mul invF invF_ok, hz]; grind
theorem left_det {n : Nat} {X M : Nat → V} (h : Like n (mulR n X M) one) : det n X * det n M = 1 := by
  rw [← det_mul invF invF_ok, det_like h, det_one]
/-- A left inverse is a right inverse. -/
theorem left_right {n : Nat} {X M : Nat → V} (h : Like n (mulR n X M) one) : Like n (mulR n M X) one := by
  have hd := left_det h
  obtain ⟨Y, hY⟩ := exists_left (n := n) (M := X) (fun e => absurd (show (0 : F) = 1 by rw [e] at hd; grind) (by decide))
  have hM : Like n M Y := by
    have h1 : Like n (mulR n (mulR n Y X) M) M := (mulR_like hY (Like.refl n M)).trans (one_mulR n M)
    rw [mulR_assoc] at h1
    exact h1.symm.trans ((mulR_like (Like.refl n Y) h).trans (mulR_one n Y))
  exact (mulR_like hM (Like.refl n X)).trans hY
theorem left_uniq {n : Nat} {X Y M : Nat → V} (h : Like n (mulR n X M) one) (h2 : Like n (mulR n Y M) one) : Like n X Y := by
  have h3 := left_right h2
  have h4 : Like n (mulR n X (mulR n M Y)) X := (mulR_like (Like.refl n X) h3).trans (mulR_one n X)
  rw [← mulR_assoc] at h4
  exact h4.symm.trans ((mulR_like h (Like.refl n Y)).trans (one_mulR n Y))

/-- A matrix with as many rows as columns. -/
def isSq (m : List (List Int)) : Bool := Mat.isMat m && (m.length == colsOf m)
theorem isSq_iff {m : List (List Int)} : isSq m = true ↔ Mat.isMat m = true ∧ m.length = colsOf m := by unfold isSq; simp
def detM (m : List (List Int)) : Int := bif isSq m then em (det m.length (ent m)) else 0
theorem detM_no {m : List (List Int)} (h : isSq m = false) : detM m = 0 := by unfold detM; rw [h]; rfl
theorem detM_ok {m : List (List Int)} (h : isSq m = true) : detM m = em (det m.length (ent m)) := by unfold detM; rw [h]; rfl
theorem detM_in (m : List (List Int)) : 0 ≤ detM m ∧ detM m ≤ 1018 := by
  cases h : isSq m
  · rw [detM_no h]; decide
  · rw [detM_ok h]; exact em_in _
/-- Full rank, and nothing else, has a determinant other than 0. -/
theorem full_iff {m : List (List Int)} (h : isSq m = true) : (rref m).length = m.length ↔ det m.length (ent m) ≠ 0 := by
  obtain ⟨hm, hsq⟩ := isSq_iff.1 h
  obtain ⟨a, R, p, hr, hR, hn, h1, h2⟩ := rref_red invF invF_ok hm
  rw [hr, mk_len]
  rw [← hsq] at hR
  constructor
  · intro ha
    subst ha
    obtain ⟨X, hX⟩ := choose_c h1
    have hl : Like m.length (mulR m.length X (ent m)) one := fun i j hi hj => by
      have := full_one hR i j hi hj
      rw [hX i hi] at this
      exact this
    have := left_det hl
    intro e
    rw [e] at this
    have h0 : (0 : F) = 1 := by grind
    exact absurd h0 (by decide)
  · intro hd
    obtain ⟨X, hX⟩ := exists_left hd
    -- the identity's rows lie in the span of the a rows
    have hI : Indep m.length (fun i => mulR m.length X (ent m) i) := by
      intro c hc i hi
      have := hc i
      have e : lin m.length (fun i => mulR m.length X (ent m) i) c i = lin m.length one c i := sum_congr fun k hk => by
        show c k * mulR m.length X (ent m) k i = _
        rw [hX k i hk hi]
      rw [e] at this
      have e2 : lin m.length one c i = c i := mulR_one m.length (fun _ => c) i i hi hi
      rw [e2] at this
      exact this
    have := exchange invF invF_ok a m.length R _ hI fun i hi => span_trans h2 ⟨X i, rfl⟩
    omega
noncomputable def isFull (m : List (List Int)) : Bool := (isSq m && decide (m.length ≤ 20)) && ((rref m).length == m.length)
open Classical in
/-- The inverse; none of what has none. -/
noncomputable def invM (m : List (List Int)) : List (List Int) :=
  if h : isFull m = true ∧ ∃ X, Like m.length (mulR m.length X (ent m)) one then mk m.length m.length (Classical.choose h.2) else []
theorem invM_no {m : List (List Int)} (h : isFull m = false) : invM m = [] := by
  unfold invM; rw [dif_neg (by rw [h]; simp)]
theorem invM_is {m : List (List Int)} {X : Nat → V} (h : isFull m = true) (hX : Like m.length (mulR m.length X (ent m)) one) : invM m = mk m.length m.length X := by
  unfold invM
  have hx : isFull m = true ∧ ∃ X, Like m.length (mulR m.length X (ent m)) one := ⟨h, X, hX⟩
  rw [dif_pos hx]
  exact mk_congr fun i j hi hj => left_uniq (Classical.choose_spec hx.2) hX i j hi hj
theorem isFull_iff {m : List (List Int)} : isFull m = true ↔ isSq m = true ∧ m.length ≤ 20 ∧ (rref m).length = m.length := by
  unfold isFull; simp [and_assoc]
theorem invM_exists {m : List (List Int)} (h : isFull m = true) : ∃ X, Like m.length (mulR m.length X (ent m)) one ∧ invM m = mk m.length m.length X := by
  obtain ⟨h1, _, h3⟩ := isFull_iff.1 h
  obtain ⟨X, hX⟩ := exists_left ((full_iff h1).1 h3)
  exact ⟨X, hX, invM_is h hX⟩
theorem few_invM (m : List (List Int)) : (invM m).length ≤ 20 ∧ ∀ xs ∈ invM m, xs.length ≤ 20 := by
  cases h : isFull m
  · rw [invM_no h]; exact ⟨Nat.zero_le _, by simp⟩
  · obtain ⟨_, h2, _⟩ := isFull_iff.1 h
    obtain ⟨X, _, e⟩ := invM_exists h
    rw [e]
    refine ⟨by rw [mk_len]; exact h2, fun xs hx => ?_⟩
    obtain ⟨i, _, rfl⟩ := List.mem_map.1 hx
    rw [vec_len]; exact h2
/-- What FnInverses asks of an inverse. -/
theorem inv_laws {m : List (List Int)} (h : isFull m = true) (h0 : 0 < m.length) : mulMat m (invM m) = identity m.length ∧ mulMat (invM m) m = identity m.length ∧ mul (detM m) (detM (invM m)) = 1 ∧ detM (transpose m) = detM m := by
  obtain ⟨h1, h2, h3⟩ := isFull_iff.1 h
  obtain ⟨hm, hsq⟩ := isSq_iff.1 h1
  obtain ⟨X, hX, e⟩ := invM_exists h
  have hme := mk_ent hm
  rw [← hsq] at hme
  have hmul : ∀ f g : Nat → V, mulMat (mk m.length m.length f) (mk m.length m.length g) = mk m.length m.length (mulR m.length f g) := fun f g => mulMat_mk f g h0 h0 (by omega) (by omega) (by omega)
  have hid : identity m.length = mk m.length m.length one := identity_mk (by omega)
  have hsqX : isSq (mk m.length m.length X) = true := isSq_iff.2 ⟨isMat_mk _ (by omega) (by omega), by rw [mk_len, mk_cols _ h0]⟩
  have hdX : detM (mk m.length m.length X) = em (det m.length X) := by
    rw [detM_ok hsqX, mk_len]
    congr 1
    exact det_congr _ fun i j hi hj => ent_mk _ hi hj
  refine ⟨?_, ?_, ?_, ?_⟩
  · rw [e, hid]
    conv => lhs; rw [← hme]
    rw [show (mk m.length m.length (ent m)).length = m.length by rw [mk_len]]
    rw [hmul]
    exact mk_congr (left_right hX)
  · rw [e, hid]
    conv => lhs; arg 2; rw [← hme]
    rw [hmul]
    exact mk_congr hX
  · rw [e, hdX, detM_ok h1, mul_em]
    have := left_det hX
    rw [show det m.length (ent m) * det m.length X = 1 by grind, em_1]
  · have ht : transpose m = mk m.length m.length (tr (ent m)) := by
      conv => lhs; rw [← hme]
      exact transpose_mk (ent m) h0 (by omega) (by omega)
    have hsqT : isSq (mk m.length m.length (tr (ent m))) = true := isSq_iff.2 ⟨isMat_mk _ (by omega) (by omega), by rw [mk_len, mk_cols _ h0]⟩
    rw [ht, detM_ok hsqT, detM_ok h1, mk_len]
    congr 1
    rw [det_congr _ (N := tr (ent m)) fun i j hi hj => ent_mk _ hi hj, det_tr invF invF_ok]
end Go.Proofs.YtefcfeikooknmaaGreat.InvP
namespace Go.Proofs.YtefcfeikooknmaaGreat.SolP
open Go.Proofs.YtefcfeikooknmaaGreat.Field Go.Proofs.YtefcfeikooknmaaGreat.Vec Go.Proofs.YtefcfeikooknmaaGreat.Mat Go.Proofs.YtefcfeikooknmaaGreat.MatP Go.Proofs.YtefcfeikooknmaaGreat.Lin Go.Proofs.YtefcfeikooknmaaGreat.Rref

/-- Reduced rows of a matrix, with their pivots. -/
structure Dec (m : List (List Int)) (n : Nat) (R : Nat → V) (p : Nat → Nat) : Prop where
  red : Red n (colsOf m) R p
  inn : ∀ i, i < n → Span m.length (ent m) (R i)
  out : ∀ l, l < m.length → Span n R (ent m l)
variable {m : List (List Int)} {n n' : Nat} {R R' : Nat → V} {p p' : Nat → Nat}
theorem Dec.le (h : Dec m n R p) : n ≤ m.length := exchange invF invF_ok m.length n (ent m) R h.red.indep h.inn
theorem Dec.rref (h : Dec m n R p) (hm : isMat m = true) : Rref.rref m = MatP.mk n (colsOf m) R := rref_is invF invF_ok hm ⟨n, R, p, rfl, h.red, h.le, h.inn, h.out⟩
theorem dec_exists (hm : isMat m = true) : ∃ n R p, Dec m n R p := by
  obtain ⟨n, R, p, _, h1, _, h3, h4⟩ := rref_red invF invF_ok hm
  exact ⟨n, R, p, h1, h3, h4⟩
theorem Dec.uniq (h : Dec m n R p) (h' : Dec m n' R' p') : n = n' ∧ (∀ i, i < n → p i = p' i) ∧ ∀ i, i < n → R i = R' i := by
  obtain ⟨rfl, hp, hR⟩ := Red.uniq invF invF_ok h.red h'.red (fun i hi => span_trans h'.out (h.inn i hi)) (fun i hi => span_trans h.out (h'.inn i hi))
  exact ⟨rfl, fun i hi => (hp i hi), fun i hi => (hR i hi)⟩
theorem Dec.piv (h : Dec m n R p) (h' : Dec m n' R' p') (j : Nat) : isPiv n p j = isPiv n' p' j := by
  obtain ⟨rfl, hp, _⟩ := h.uniq h'
  rw [Bool.eq_iff_iff, isPiv_iff, isPiv_iff]
  exact ⟨fun ⟨i, hi, e⟩ => ⟨i, hi, by rw [← hp i hi, e]⟩, fun ⟨i, hi, e⟩ => ⟨i, hi, by rw [hp i hi, e]⟩⟩
theorem Dec.supp (h : Dec m n R p) (hm : isMat m = true) {i : Nat} (hi : i < n) : Supp (colsOf m) (R i) := supp_span (fun l _ => ent_supp hm l) (h.inn i hi)
/-- Reduced rows, read back. -/
theorem ent_red {w : Nat} {i : Nat} (hi : i < n) (hs : Supp w (R i)) : ent (mk n w R) i = R i := by
  funext j
  by_cases hj : j < w
  · exact ent_mk R hi hj
  · rw [hs j (by omega)]
    unfold ent mk vec
    rw [List.getElem?_map, List.getElem?_range hi]
    simp only [Option.map_some, Option.getD_some]
    rw [List.getElem?_eq_none (by simp; omega)]; rfl
/-- What is reduced stays. -/
theorem rref_again (hm : isMat m = true) : isMat (Rref.rref m) = true ∧ Rref.rref (Rref.rref m) = Rref.rref m := by
  obtain ⟨n, R, p, h⟩ := dec_exists hm
  rw [h.rref hm]
  have h4 := (isMat_iff.1 hm).2
  have hn := h.le
  have hM : isMat (mk n (colsOf m) R) = true := isMat_mk R (by omega) (colsOf_le hm)
  refine ⟨hM, ?_⟩
  rcases Nat.eq_zero_or_pos n with h0 | h0
  · subst h0
    exact rref_is invF invF_ok hM ⟨0, R, p, rfl, ⟨fun _ h => by omega, fun _ _ _ h => by omega, fun _ h => by omega, fun _ _ h => by omega, fun _ _ h => by omega⟩, by rw [mk_len]; omega, fun _ h => by omega, fun l hl => by rw [mk_len] at hl; omega⟩
  · refine rref_is invF invF_ok hM ⟨n, R, p, by rw [mk_cols R h0], by rw [mk_cols R h0]; exact h.red, by rw [mk_len]; omega, fun i hi => ?_, fun l hl => ?_⟩
    · rw [mk_len]
      have := span_mem (n := n) (S := ent (mk n (colsOf m) R)) hi
      rwa [ent_red hi (h.supp hm hi)] at this
    · rw [mk_len] at hl
      rw [ent_red hl (h.supp hm hl)]
      exact span_mem hl
/-- A matrix with its reduced rows behind it. -/
theorem rref_both (hm : isMat m = true) (hl : (m ++ Rref.rref m).length ≤ 40) : isMat (m ++ Rref.rref m) = true ∧ Rref.rref (m ++ Rref.rref m) = Rref.rref m := by
  obtain ⟨n, R, p, h⟩ := dec_exists hm
  have he := h.rref hm
  have hcl := colsOf_le hm
  rcases Nat.eq_zero_or_pos m.length with h0 | h0
  · obtain rfl : m = [] := List.eq_nil_of_length_eq_zero h0
    have hn := h.le
    obtain rfl : n = 0 := by rw [h0] at hn; omega
    rw [he]
    exact ⟨rfl, by show Rref.rref ([] ++ []) = _; rw [List.append_nil, he]⟩
  · rw [he] at hl ⊢
    have hc : colsOf (m ++ mk n (colsOf m) R) = colsOf m := by
      cases m with
      | nil => simp at h0
      | cons x r => rfl
    have hM : isMat (m ++ mk n (colsOf m) R) = true := by
      refine isMat_iff.2 ⟨fun xs hx => ?_, hl⟩
      rw [hc]
      rcases List.mem_append.1 hx with h1 | h1
      · exact (isMat_iff.1 hm).1 xs h1
      · obtain ⟨i, _, rfl⟩ := List.mem_map.1 h1
        exact ⟨isVec_vec _ hcl, vec_len _ _⟩
    have hlen : (m ++ mk n (colsOf m) R).length = m.length + n := by rw [List.length_append, mk_len]
    have e1 : ∀ l, l < m.length → ent (m ++ mk n (colsOf m) R) l = ent m l := fun l hl => by
      funext j; unfold ent; rw [List.getElem?_append_left hl]
    have e2 : ∀ l, l < n → ent (m ++ mk n (colsOf m) R) (m.length + l) = R l := fun l hl => by
      rw [← ent_red hl (h.supp hm hl)]
      funext j; unfold ent
      rw [List.getElem?_append_right (by omega), Nat.add_sub_cancel_left]
    refine ⟨hM, rref_is invF invF_ok hM ⟨n, R, p, by rw [hc], by rw [hc]; exact h.red, by omega, fun i hi => ?_, fun l hl => ?_⟩⟩
    · rw [hlen]
      refine span_trans (fun l hl => ?_) (h.inn i hi)
      rw [← e1 l hl]
      exact span_mem (by omega)
    · rw [hlen] at hl
      by_cases h1 : l < m.length
      · rw [e1 l h1]; exact h.out l h1
      · obtain ⟨d, rfl⟩ : ∃ d, l = m.length + d := ⟨l - m.length, by omega⟩
        rw [e2 d (by omega)]
        exact span_mem (by omega)

/-! null spaces -/
def freeCols (n : Nat) (p : Nat → Nat) (w : Nat) : List Nat := (List.range w).filter fun j => !isPiv n p j
def nulls (n : Nat) (R : Nat → V) (p : Nat → Nat) (w : Nat) : List (List Int) := (freeCols n p w).map fun f => vec w (nul n R p f)
theorem filter_cnt (f : Nat → Bool) (w : Nat) : ((List.range w).filter f).length = cnt w f := by
  induction w with
  | zero => rfl
  | succ w ih =>
    rw [List.range_succ, List.filter_append, List.length_append, ih]
    show _ = cnt w f + (if f w then 1 else 0)
    cases h : f w <;> simp [h]
theorem nulls_len {w : Nat} (h : Red n w R p) : (nulls n R p w).length = w - n := by
  unfold nulls freeCols
  rw [List.length_map, filter_cnt, h.count_free]
theorem Dec.nulls (h : Dec m n R p) (h' : Dec m n' R' p') : SolP.nulls n R p (colsOf m) = SolP.nulls n' R' p' (colsOf m) := by
  have hpv := h.piv h'
  obtain ⟨rfl, hp, hR⟩ := h.uniq h'
  unfold SolP.nulls freeCols
  rw [show (fun j => !isPiv n p j) = (fun j => !isPiv n p' j) by funext j; rw [hpv j]]
  refine List.map_congr_left fun f _ => vec_congr fun j _ => ?_
  unfold nul
  congr 2
  exact congrFun (lin_congr (fun i hi => by rw [hR i hi]) fun i hi => by rw [hp i hi]) j
open Classical in
noncomputable def nullOf (m : List (List Int)) : List (List Int) :=
  if h : isMat m = true ∧ ∃ r, ∃ n R p, Dec m n R p ∧ r = nulls n R p (colsOf m) then Classical.choose h.2 else []
theorem nullOf_no (h : isMat m = false) : nullOf m = [] := by unfold nullOf; rw [dif_neg (by rw [h]; simp)]
theorem nullOf_is (hm : isMat m = true) (h : Dec m n R p) : nullOf m = nulls n R p (colsOf m) := by
  unfold nullOf
  have hx : isMat m = true ∧ ∃ r, ∃ n R p, Dec m n R p ∧ r = nulls n R p (colsOf m) := ⟨hm, _, n, R, p, h, rfl⟩
  rw [dif_pos hx]
  obtain ⟨n', R', p', h', e⟩ := Classical.choose_spec hx.2
  rw [e, h'.nulls h]
theorem nullOf_len (hm : isMat m = true) : (nullOf m).length = colsOf m - (Rref.rref m).length := by
  obtain ⟨n, R, p, h⟩ := dec_exists hm
  rw [nullOf_is hm h, nulls_len h.red, h.rref hm, mk_len]
theorem few_nullOf (m : List (List Int)) : (nullOf m).length ≤ 40 ∧ ∀ xs ∈ nullOf m, xs.length ≤ 40 := by
  cases hm : isMat m
  · rw [nullOf_no hm]; exact ⟨Nat.zero_le _, by simp⟩
  · have h4 := colsOf_le hm
    refine ⟨by have := nullOf_len hm; omega, fun xs hx => ?_⟩
    obtain ⟨n, R, p, h⟩ := dec_exists hm
    rw [nullOf_is hm h] at hx
    obtain ⟨f, _, rfl⟩ := List.mem_map.1 hx
    rw [vec_len]; exact h4
theorem em_zero : em 0 = 0 := rfl
/-- Null vectors are sent to zeros. -/
theorem null_law (hm : isMat m = true) {v : List Int} (hv : v ∈ nullOf m) : isVec v = true ∧ v.length = colsOf m ∧ mulVec m v = List.replicate m.length 0 := by
  obtain ⟨n, R, p, h⟩ := dec_exists hm
  rw [nullOf_is hm h] at hv
  obtain ⟨f, hf, rfl⟩ := List.mem_map.1 hv
  unfold freeCols at hf
  rw [List.mem_filter, List.mem_range] at hf
  have h4 := colsOf_le hm
  have hr4 := (isMat_iff.1 hm).2
  refine ⟨isVec_vec _ h4, vec_len _ _, ?_⟩
  have h0 : 0 < m.length := by
    rcases Nat.eq_zero_or_pos m.length with h1 | h1
    · obtain rfl : m = [] := List.eq_nil_of_length_eq_zero h1
      exact absurd hf.1 (by show ¬ f < 0; omega)
    · exact h1
  have e := mulVec_mk (ent m) (nul n R p f) h0 hr4 h4
  rw [mk_ent hm] at e
  rw [e]
  unfold vec
  rw [List.map_congr_left (g := fun _ => (0 : Int)) fun i hi => by
    have hi := List.mem_range.1 hi
    obtain ⟨c, hc⟩ := h.out i hi
    show em (dotw (colsOf m) (ent m i) (nul n R p f)) = 0
    rw [hc, dotw_lin, sum_zero fun k hk => by rw [h.red.nul_dot hf.1 hk]; grind, em_zero]]
  simp [List.map_const']

/-! solutions -/
/-- The right side. -/
def rhs (b : List Int) (i : Nat) : F := toF (b[i]?.getD 0)
structure IsSol (m : List (List Int)) (b : List Int) (x : V) : Prop where
  supp : Supp (colsOf m) x
  eqs : ∀ i, i < m.length → dotw (colsOf m) (ent m i) x = rhs b i
  free : ∀ n R p, Dec m n R p → ∀ j, j < colsOf m → isPiv n p j = false → x j = 0
theorem IsSol.uniq {b : List Int} {x y : V} (hm : isMat m = true) (h : IsSol m b x) (h' : IsSol m b y) : x = y := by
  obtain ⟨n, R, p, hd⟩ := dec_exists hm
  have h0 := hd.red.orth_none (u := fun j => x j + (0 - 1) * y j) (fun k hk => by
      obtain ⟨c, hc⟩ := hd.inn k hk
      rw [hc, dotw_lin, sum_zero fun i hi => by
        rw [dotw_comm, dotw_add, dotw_comm, h.eqs i hi, dotw_comm, h'.eqs i hi]; grind])
    (fun j hj hf => by
      show x j + (0 - 1) * y j = 0
      rw [h.free n R p hd j hj hf, h'.free n R p hd j hj hf]; grind)
  funext j
  by_cases hj : j < colsOf m
  · have := h0 j hj
    have h2 : x j + (0 - 1) * y j = 0 := this
    grind
  · rw [h.supp j (by omega), h'.supp j (by omega)]
/-- What has a solution has one of this kind. -/
theorem sol_of {b : List Int} (hm : isMat m = true) (y : V) (hy : ∀ i, i < m.length → dotw (colsOf m) (ent m i) y = rhs b i) : ∃ x, IsSol m b x := by
  obtain ⟨n, R, p, hd⟩ := dec_exists hm
  have hx : ∀ i, i < n → dotw (colsOf m) (R i) (lin n (fun k => ind (p k)) fun k => dotw (colsOf m) (R k) y) = dotw (colsOf m) (R i) y := fun i hi => by
    rw [dotw_comm, dotw_lin, sum_one hi fun k hk hne => by rw [dotw_ind (hd.red.lt k hk), hd.red.zero i k hi hk hne]; grind]
    rw [dotw_ind (hd.red.lt i hi), hd.red.one i hi]; grind
  refine ⟨lin n (fun k => ind (p k)) fun k => dotw (colsOf m) (R k) y, fun j hj => ?_, fun i hi => ?_, fun n' R' p' hd' j _ hf => ?_⟩
  · exact sum_zero fun k hk => by
      have := hd.red.lt k hk
      dsimp only
      rw [ind_ne (show j ≠ p k by omega)]; grind
  · obtain ⟨c, hc⟩ := hd.out i hi
    rw [← hy i hi, hc, dotw_lin, dotw_lin]
    exact sum_congr fun k hk => by rw [hx k hk]
  · rw [← hd.piv hd'] at hf
    exact sum_zero fun k hk => by
      dsimp only
      rw [ind_ne (fun e => isPiv_no hf hk e.symm)]; grind
/-- The system that SolveSystem takes. -/
def sysOk (m : List (List Int)) (b : List Int) : Bool := ((isMat m && isVec b) && (b.length == m.length)) && decide (colsOf m < 40)
theorem sysOk_iff {b : List Int} : sysOk m b = true ↔ isMat m = true ∧ isVec b = true ∧ b.length = m.length ∧ colsOf m < 40 := by unfold sysOk; simp [and_assoc]
open Classical in
noncomputable def solveM (m : List (List Int)) (b : List Int) : List Int × Bool :=
  if h : sysOk m b = true ∧ ∃ x, IsSol m b x then (vec (colsOf m) (Classical.choose h.2), true) else ([], false)
theorem solveM_no {b : List Int} (h : sysOk m b = false) : solveM m b = ([], false) := by unfold solveM; rw [dif_neg (by rw [h]; simp)]
theorem solveM_none {b : List Int} (h : ¬ ∃ x, IsSol m b x) : solveM m b = ([], false) := by unfold solveM; rw [dif_neg (fun e => h e.2)]
theorem solveM_is {b : List Int} {x : V} (h : sysOk m b = true) (hx : IsSol m b x) : solveM m b = (vec (colsOf m) x, true) := by
  unfold solveM
  have he : sysOk m b = true ∧ ∃ x, IsSol m b x := ⟨h, x, hx⟩
  rw [dif_pos he, (Classical.choose_spec he.2).uniq (sysOk_iff.1 h).1 hx]
theorem few_solve (m : List (List Int)) (b : List Int) : (solveM m b).1.length ≤ 40 := by
  by_cases h : sysOk m b = true ∧ ∃ x, IsSol m b x
  · obtain ⟨h1, x, hx⟩ := h
    rw [solveM_is h1 hx]
    show (vec _ _).length ≤ 40
    rw [vec_len]; exact colsOf_le (sysOk_iff.1 h1).1
  · unfold solveM; rw [dif_neg h]; exact Nat.zero_le _
theorem toF_0 : toF 0 = 0 := rfl
/-- A solution put back. -/
theorem sol_back {b : List Int} {x : V} (hm : isMat m = true) (hb : isVec b = true) (hl : b.length = m.length) (h0 : 0 < m.length) (hx : ∀ i, i < m.length → dotw (colsOf m) (ent m i) x = rhs b i) : mulVec m (vec (colsOf m) x) = b := by
  have h4 := colsOf_le hm
  have e := mulVec_mk (ent m) x h0 (isMat_iff.1 hm).2 h4
  rw [mk_ent hm] at e
  rw [e, of_isVec hb, hl]
  refine vec_congr fun i hi => ?_
  exact hx i hi
/-- The other way round: a product has the factor for a solution. -/
theorem back_sol {v : List Int} (hm : isMat m = true) (hv : isVec v = true) (hl : v.length = colsOf m) (h0 : 0 < m.length) : ∃ y : V, ∀ i, i < m.length → dotw (colsOf m) (ent m i) y = rhs (mulVec m v) i := by
  have h4 := colsOf_le hm
  refine ⟨fun j => toF (v[j]?.getD 0), fun i hi => ?_⟩
  have e : mulVec m v = vec m.length fun i => sum (colsOf m) fun k => ent m i k * toF (v[k]?.getD 0) := by
    have e := mulVec_mk (ent m) (fun j => toF (v[j]?.getD 0)) h0 (isMat_iff.1 hm).2 h4
    rw [mk_ent hm, ← hl, ← of_isVec hv] at e
    rw [e, hl]
  unfold rhs
  rw [e]
  unfold vec
  rw [List.getElem?_map, List.getElem?_range hi]
  simp only [Option.map_some, Option.getD_some]
  rw [toF_em]; rfl
/-- A matrix with the right side as its last column. -/
def wide (m : List (List Int)) (b : List Int) : Nat → V := fun i j => if j = colsOf m then rhs b i else ent m i j
section
variable {b : List Int} {A : Nat} {M : Nat → V} {q : Nat → Nat}
theorem wide_supp (hm : isMat m = true) (l : Nat) : Supp (colsOf m + 1) (wide m b l) := fun j hj => by
  unfold wide; rw [if_neg (by omega)]; exact ent_supp hm l j (by omega)
/-- A pivot in the last column: no solution. -/
theorem wide_none (hA : Elim m.length A (colsOf m + 1) M q) (h1 : ∀ l, l < m.length → Span m.length (wide m b) (M l)) {i : Nat} (hi : i < A) (hq : q i = colsOf m) : ¬ ∃ x, IsSol m b x := by
  rintro ⟨x, hx⟩
  obtain ⟨d, hd⟩ := h1 i (Nat.lt_of_lt_of_le hi hA.le)
  have e1 : sum m.length (fun k => d k * rhs b k) = 1 := by
    have := hA.one i hi
    rw [hq, hd] at this
    rw [← this]
    exact sum_congr fun k _ => by unfold wide; rw [if_pos rfl]
  have e2 : sum m.length (fun k => d k * rhs b k) = 0 := by
    rw [sum_congr (g := fun k => d k * dotw (colsOf m) (ent m k) x) fun k hk => by rw [hx.eqs k hk], ← dotw_lin]
    refine sum_zero fun j hj => ?_
    have := hA.ahead i j hi (by omega)
    rw [hd] at this
    have e : lin m.length (ent m) d j = lin m.length (wide m b) d j := sum_congr fun k _ => by unfold wide; rw [if_neg (by omega)]
    rw [e, this]; grind
  rw [e1] at e2
  exact absurd e2 (by decide)
theorem wide_some (hm : isMat m = true) (hA : Elim m.length A (colsOf m + 1) M q) (h1 : ∀ l, l < m.length → Span m.length (wide m b) (M l)) (h2 : ∀ l, l < m.length → Span m.length M (wide m b l)) (hq : ∀ i, i < A → q i < colsOf m) :
    IsSol m b (lin A (fun k => ind (q k)) fun k => M k (colsOf m)) := by
  have hs : ∀ l, l < m.length → Supp (colsOf m + 1) (M l) := fun l hl => supp_span (fun l _ => wide_supp hm l) (h1 l hl)
  have hAm := hA.le
  have hd : Dec m A (fun i j => if j < colsOf m then M i j else 0) q := by
    refine ⟨⟨hq, hA.red.up, fun i hi => ?_, fun i k hi hk hne => ?_, fun i j hi hj => ?_⟩, fun i hi => ?_, fun l hl => ?_⟩
    · rw [if_pos (hq i hi)]; exact hA.one i hi
    · rw [if_pos (hq k hk)]; exact hA.red.zero i k hi hk hne
    · rw [if_pos (by have := hq i hi; omega)]; exact hA.ahead i j hi hj
    · obtain ⟨d, hdd⟩ := h1 i (by omega)
      refine ⟨d, ?_⟩
      funext j
      by_cases hj : j < colsOf m
      · rw [if_pos hj, hdd]; exact sum_congr fun k _ => by unfold wide; rw [if_neg (by omega)]
      · rw [if_neg hj]; exact (sum_zero fun k _ => by rw [ent_supp hm k j (by omega)]; grind).symm
    · obtain ⟨d, hdd⟩ := hA.span (fun l j hl hj => hs l hl j hj) (h2 l hl)
      refine ⟨d, ?_⟩
      funext j
      by_cases hj : j < colsOf m
      · have : wide m b l j = ent m l j := by unfold wide; rw [if_neg (by omega)]
        rw [← this, hdd]
        exact sum_congr fun k _ => by dsimp only; rw [if_pos hj]
      · rw [ent_supp hm l j (by omega)]
        exact (sum_zero fun k _ => by dsimp only; rw [if_neg hj]; grind).symm
  have hx : ∀ i, i < A → dotw (colsOf m) (fun j => if j < colsOf m then M i j else 0) (lin A (fun k => ind (q k)) fun k => M k (colsOf m)) = M i (colsOf m) := fun i hi => by
    rw [dotw_comm, dotw_lin, sum_one hi fun k hk hne => by
      rw [dotw_ind (hq k hk), if_pos (hq k hk), hA.red.zero i k hi hk hne]; grind]
    rw [dotw_ind (hq i hi), if_pos (hq i hi), hA.one i hi]; grind
  refine ⟨fun j hj => ?_, fun l hl => ?_, fun n' R' p' hd' j _ hf => ?_⟩
  · exact sum_zero fun k hk => by
      have := hq k hk
      dsimp only
      rw [ind_ne (show j ≠ q k by omega)]; grind
  · obtain ⟨d, hdd⟩ := hA.span (fun l j hl hj => hs l hl j hj) (h2 l hl)
    have e1 : dotw (colsOf m) (ent m l) (lin A (fun k => ind (q k)) fun k => M k (colsOf m)) = dotw (colsOf m) (lin A (fun i j => if j < colsOf m then M i j else 0) d) (lin A (fun k => ind (q k)) fun k => M k (colsOf m)) := dotw_congr (fun j hj => by
      have : wide m b l j = ent m l j := by unfold wide; rw [if_neg (by omega)]
      rw [← this, hdd]
      exact sum_congr fun k _ => by dsimp only; rw [if_pos hj]) fun _ _ => rfl
    rw [e1, dotw_lin, sum_congr (g := fun i => d i * M i (colsOf m)) fun i hi => by rw [hx i hi]]
    have : wide m b l (colsOf m) = rhs b l := by unfold wide; rw [if_pos rfl]
    rw [← this, hdd]; rfl
  · rw [← hd.piv hd'] at hf
    exact sum_zero fun k hk => by
      dsimp only
      rw [ind_ne (fun e => isPiv_no hf hk e.symm)]; grind
end
/-- The pivot of a reduced row is its leading index. -/
theorem lead_red {w : Nat} (h : Red n w R p) {i : Nat} (hi : i < n) : lead (vec w (R i)) = p i := by
  have hp := h.lt i hi
  have h1 : (vec w (R i))[p i]? = some 1 := by unfold vec; simp [hp, h.one i hi, em_1]
  have := lead_at h1 (fun y hy => by
    obtain ⟨j, hj⟩ := List.getElem?_of_mem hy
    rw [List.getElem?_take] at hj
    split at hj
    · rename_i hlt
      unfold vec at hj
      rw [List.getElem?_map, List.getElem?_range (by omega)] at hj
      obtain rfl := Option.some.inj hj
      show em (R i j) = 0
      rw [h.ahead i j hi hlt]; rfl
    · cases hj) (by decide) 0
  unfold lead
  rw [this]; omega
end Go.Proofs.YtefcfeikooknmaaGreat.SolP
