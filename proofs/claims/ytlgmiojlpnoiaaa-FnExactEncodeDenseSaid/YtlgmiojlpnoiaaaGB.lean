/-
  Powers modulo a number; the field of 1019 elements and its group modulo 2039, over integers. No program.
  Vectors over the field of 1019 elements, as lists: over Fin 1019, and the lists of integers that stand for them. No program.
  Combinations of vectors over the field: they are linear in the coefficients, and a unit vector picks a row. No program.
  Matrices as lists of lists: what the functions of chapter 6 answer. No program.
  Varints as lists of numbers. No program.
  Reading a varint, as a function of lists. No program.
  Byte strings and lists of integers, encoded and decoded, as functions of lists. No program.
  What is encoded is decoded, and what is decoded is an encoding: on lists. No program.
  What was decoded from bytes, encoded again, is the bytes that were read: on lists of integers. No program.
  Coefficients in their two forms, as lists: what the functions of chapter 12 answer. No program.
-/
import Derived.Lib.Hide
import Derived.Test.YtlgmiojlpnoiaaaGA
namespace Go.Proofs.Ytlgmiojlpnoiaaa.Field

/-- A power modulo m. -/
def pw (a n m : Nat) : Nat := a ^ n % m

theorem pw_lt (a n : Nat) {m : Nat} (hm : 0 < m) : pw a n m < m := Nat.mod_lt _ hm
theorem pw_add (a i j m : Nat) : pw a i m * pw a j m % m = pw a (i + j) m := by
  unfold pw; rw [← Nat.mul_mod, Nat.pow_add]
theorem pw_base (a n m : Nat) : pw (a % m) n m = pw a n m := by
  unfold pw; rw [← Nat.pow_mod]
theorem pw_mul (a i j m : Nat) : pw (pw a i m) j m = pw a (i * j) m := by
  unfold pw; rw [← Nat.pow_mod, Nat.pow_mul]
theorem pw_one (n m : Nat) (hm : 1 < m) : pw 1 n m = 1 := by
  unfold pw; rw [Nat.one_pow, Nat.mod_eq_of_lt hm]
theorem pw_zero (a m : Nat) (hm : 1 < m) : pw a 0 m = 1 := by
  unfold pw; rw [Nat.pow_zero, Nat.mod_eq_of_lt hm]
theorem pw_succ (a n m : Nat) : pw a n m * a % m = pw a (n + 1) m := by
  unfold pw; rw [Nat.mod_mul_mod, Nat.pow_succ]

/-- What squaring and multiplying keeps. -/
def Inv (a0 n0 m out a n : Nat) : Prop := out < m ∧ a < m ∧ out * a ^ n % m = pw a0 n0 m
theorem inv_start {a0 n0 m : Nat} (hm : 1 < m) (ha : a0 < m) : Inv a0 n0 m 1 a0 n0 := ⟨hm, ha, by rw [Nat.one_mul]; rfl⟩
theorem inv_end {a0 n0 m out a : Nat} (h : Inv a0 n0 m out a 0) : out = pw a0 n0 m := by
  obtain ⟨h1, _, h3⟩ := h
  rw [← h3, Nat.pow_zero, Nat.mul_one, Nat.mod_eq_of_lt h1]
theorem sq (a k m : Nat) : (a * a % m) ^ k % m = a ^ (2 * k) % m := by
  rw [← Nat.pow_mod, Nat.pow_mul, Nat.pow_two]
theorem inv_odd {a0 n0 m out a n : Nat} (hm : 0 < m) (h : Inv a0 n0 m out a n) (hn : n % 2 = 1) : Inv a0 n0 m (out * a % m) (a * a % m) (n / 2) := by
  obtain ⟨h1, h2, h3⟩ := h
  refine ⟨Nat.mod_lt _ hm, Nat.mod_lt _ hm, ?_⟩
  have e : n = 2 * (n / 2) + 1 := by omega
  rw [← h3, Nat.mul_mod, Nat.mod_mod, sq, ← Nat.mul_mod, Nat.mul_assoc]
  conv => rhs; rw [e, Nat.pow_succ]
  rw [Nat.mul_comm a]
theorem inv_even {a0 n0 m out a n : Nat} (hm : 0 < m) (h : Inv a0 n0 m out a n) (hn : n % 2 = 0) : Inv a0 n0 m out (a * a % m) (n / 2) := by
  obtain ⟨h1, h2, h3⟩ := h
  refine ⟨h1, Nat.mod_lt _ hm, ?_⟩
  have e : n = 2 * (n / 2) := by omega
  rw [← h3, Nat.mul_mod, sq, ← Nat.mul_mod]
  conv => rhs; rw [e]

/-- The elements. -/
def isEl (x : Int) : Bool := decide (0 ≤ x) && decide (x ≤ 1018)
theorem isEl_iff {x : Int} : isEl x = true ↔ 0 ≤ x ∧ x ≤ 1018 := by unfold isEl; simp
theorem isEl_no {x : Int} : isEl x = false ↔ ¬ (0 ≤ x ∧ x ≤ 1018) := by
  rw [← isEl_iff]; simp
def add (a b : Int) : Int := bif isEl a && isEl b then (a + b) % 1019 else 0
def sub (a b : Int) : Int := bif isEl a && isEl b then (a - b) % 1019 else 0
def mul (a b : Int) : Int := bif isEl a && isEl b then a * b % 1019 else 0
def pow (a n : Int) : Int := bif isEl a && (decide (0 ≤ n) && decide (n ≤ 1000000000000)) then (pw a.toNat n.toNat 1019 : Int) else 0
def inv (a : Int) : Int := bif isEl a && !decide (a = 0) then (pw a.toNat 1017 1019 : Int) else 0
/-- The group's elements. -/
def isG (x : Int) : Bool := (decide (1 ≤ x) && decide (x ≤ 2038)) && decide (pw x.toNat 1019 2039 = 1)
def powG (g n : Int) : Int := bif isG g && isEl n then (pw g.toNat n.toNat 2039 : Int) else 0
def mulG (a b : Int) : Int := bif isG a && isG b then a * b % 2039 else 0

theorem isG_iff {x : Int} : isG x = true ↔ (1 ≤ x ∧ x ≤ 2038) ∧ pw x.toNat 1019 2039 = 1 := by unfold isG; simp

theorem prod_in {a b : Int} {m : Int} (ha0 : 0 ≤ a) (ha1 : a ≤ m) (hb0 : 0 ≤ b) (hb1 : b ≤ m) : 0 ≤ a * b ∧ a * b ≤ m * m :=
  ⟨Int.mul_nonneg ha0 hb0, Int.mul_le_mul ha1 hb1 hb0 (Int.le_trans ha0 ha1)⟩

theorem rem (v q : Int) (hq : 0 < q) : (0 ≤ v.tmod q ∧ v.tmod q = v % q) ∨ (v.tmod q < 0 ∧ v.tmod q = v % q - q) := by
  rcases Int.lt_or_le v 0 with h | h
  · have h2 : (-v).tmod q = (-v) % q := Int.tmod_eq_emod_of_nonneg (by omega)
    rw [Int.neg_tmod] at h2
    have h3 : 0 ≤ (-v) % q := Int.emod_nonneg _ (by omega)
    have h4 : (-v) % q < q := Int.emod_lt_of_pos _ hq
    have h5 : 0 ≤ v % q := Int.emod_nonneg _ (by omega)
    have h6 : v % q < q := Int.emod_lt_of_pos _ hq
    have h7 : (v % q + (-v) % q) % q = 0 := by rw [← Int.add_emod, Int.add_right_neg, Int.zero_emod]
    by_cases h8 : (-v) % q = 0
    · left
      rw [h8, Int.add_zero, Int.emod_emod_of_dvd _ (Int.dvd_refl q)] at h7
      omega
    · right
      refine ⟨by omega, ?_⟩
      by_cases h9 : v % q + (-v) % q < q
      · rw [Int.emod_eq_of_lt (by omega) h9] at h7; omega
      · rw [← Int.sub_emod_right, Int.emod_eq_of_lt (by omega) (by omega)] at h7; omega
  · left
    rw [Int.tmod_eq_emod_of_nonneg h]
    exact ⟨Int.emod_nonneg _ (by omega), rfl⟩

/-- All powers of 2, as bits of one number. -/
def table : Nat → Nat × Nat
  | 0 => (1, 0)
  | k + 1 => let p := table k; (p.1 * 2 % 1019, p.2 ||| 1 <<< p.1)
theorem table_fst (k : Nat) : (table k).1 = pw 2 k 1019 := by
  induction k with
  | zero => rfl
  | succ k ih => show (table k).1 * 2 % 1019 = _; rw [ih, pw_succ]
theorem table_bit (k a : Nat) (h : (table k).2.testBit a = true) : ∃ i, i < k ∧ pw 2 i 1019 = a := by
  induction k with
  | zero => simp [table] at h
  | succ k ih =>
    have e : (table (k + 1)).2 = (table k).2 ||| 1 <<< (table k).1 := rfl
    rw [e, Nat.testBit_or, Bool.or_eq_true] at h
    rcases h with h | h
    · obtain ⟨i, hi, h⟩ := ih h
      exact ⟨i, by omega, h⟩
    · rw [Nat.one_shiftLeft, Nat.testBit_two_pow] at h
      exact ⟨k, by omega, by rw [← table_fst]; simpa using h⟩
theorem full_bit {t n a : Nat} (h : t + 2 = 2 ^ n) (h0 : 0 < a) (h1 : a < n) : t.testBit a = true := by
  obtain rfl : t = 2 ^ n - (1 + 1) := by omega
  rw [Nat.testBit_two_pow_sub_succ (Nat.one_lt_two_pow (by omega)), decide_eq_true h1, Bool.true_and]
  have : Nat.testBit 1 a = false := by
    rw [show (1 : Nat) = 2 ^ 0 from rfl, Nat.testBit_two_pow]; simp; omega
  rw [this]; rfl
theorem gen_of {n t a : Nat} (h : Nat.beq ((table n).2 + 2) (Nat.shiftLeft 1 t) = true) (h0 : 0 < a) (h1 : a < t) : ∃ i, i < n ∧ pw 2 i 1019 = a :=
  table_bit n a (full_bit (n := t) ((Nat.eq_of_beq_eq_true h).trans (Nat.one_shiftLeft t)) h0 h1)
theorem pw_of {k v : Nat} (h : Nat.beq (table k).1 v = true) : pw 2 k 1019 = v := by
  rw [← table_fst]; exact Nat.eq_of_beq_eq_true h
set_option maxRecDepth 100000 in
theorem table_all : Nat.beq ((table 1018).2 + 2) (Nat.shiftLeft 1 1019) = true := by decide +kernel
set_option maxRecDepth 100000 in
theorem table_1018 : Nat.beq (table 1018).1 1 = true := by decide +kernel
set_option maxRecDepth 100000 in
theorem table_1017 : Nat.beq (table 1017).1 510 = true := by decide +kernel
theorem two_generates {a : Nat} (h0 : 0 < a) (h1 : a < 1019) : ∃ i, i < 1018 ∧ pw 2 i 1019 = a := gen_of table_all h0 h1
set_option maxRecDepth 100000 in
theorem two_order : pw 2 1018 1019 = 1 := pw_of table_1018
set_option maxRecDepth 100000 in
theorem half : pw 2 1017 1019 = 510 := pw_of table_1017
theorem absurd_zero {n : Nat} (h0 : 0 < n) (h : pw 0 n 1019 = 1) : False := by
  obtain ⟨k, rfl⟩ : ∃ k, n = k + 1 := ⟨n - 1, by omega⟩
  unfold pw at h
  rw [Nat.pow_succ, Nat.mul_zero] at h
  exact absurd h (by decide)
set_option maxRecDepth 100000 in
theorem fermat {a : Nat} (h0 : 0 < a) (h1 : a < 1019) : pw a 1018 1019 = 1 := by
  obtain ⟨i, _, rfl⟩ := two_generates h0 h1
  rw [pw_mul, Nat.mul_comm, ← pw_mul, two_order, pw_one _ _ (by decide)]
/-- The walk's second part is the inverse. -/
theorem walk_inv (k : Nat) : pw 510 k 1019 = pw (pw 2 k 1019) 1017 1019 := by
  rw [pw_mul, Nat.mul_comm, ← pw_mul, half]
set_option maxRecDepth 100000 in
theorem two_pos (k : Nat) : 0 < pw 2 k 1019 := by
  rcases Nat.eq_zero_or_pos (pw 2 k 1019) with h | h
  · have h2 : pw 2 (k * 1018) 1019 = 1 := by rw [Nat.mul_comm, ← pw_mul, two_order, pw_one _ _ (by decide)]
    rw [← pw_mul, h] at h2
    exact (absurd_zero (by decide) h2).elim
  · exact h
/-- Before its round is done the walk does not meet 1 again. -/
def ones : Nat → Nat × Bool
  | 0 => (2, true)
  | k + 1 => let p := ones k; (p.1 * 2 % 1019, p.2 && !(p.1 == 1))
theorem ones_fst (k : Nat) : (ones k).1 = pw 2 (k + 1) 1019 := by
  induction k with
  | zero => rfl
  | succ k ih => show (ones k).1 * 2 % 1019 = _; rw [ih, pw_succ]
theorem ones_snd (k : Nat) (h : (ones k).2 = true) : ∀ i, i < k → pw 2 (i + 1) 1019 ≠ 1 := by
  induction k with
  | zero => intro i hi; omega
  | succ k ih =>
    have e : (ones (k + 1)).2 = ((ones k).2 && !((ones k).1 == 1)) := rfl
    rw [e, Bool.and_eq_true] at h
    intro i hi
    rcases Nat.lt_or_ge i k with h2 | h2
    · exact ih h.1 i h2
    · obtain rfl : i = k := by omega
      rw [← ones_fst]; simpa using h.2
set_option maxRecDepth 100000 in
theorem ones_all : (ones 1017).2 = true := by decide +kernel
theorem two_not {k : Nat} (h0 : 0 < k) (h1 : k < 1018) : pw 2 k 1019 ≠ 1 := by
  have h := ones_snd 1017 ones_all (k - 1) (by omega)
  rwa [Nat.sub_add_cancel h0] at h

theorem isEl_nat {a : Nat} (h : a < 1019) : isEl (a : Int) = true := isEl_iff.2 ⟨by omega, by omega⟩
theorem mul_nat {a b : Nat} (ha : a < 1019) (hb : b < 1019) : mul (a : Int) (b : Int) = ((a * b % 1019 : Nat) : Int) := by
  unfold mul
  rw [isEl_nat ha, isEl_nat hb, Int.natCast_emod, Int.natCast_mul]; rfl
theorem mul_two (k : Nat) : mul (pw 2 k 1019) 2 = (pw 2 (k + 1) 1019 : Nat) := by
  rw [← pw_succ]; exact mul_nat (pw_lt _ _ (by decide)) (by decide)
theorem mul_half (k : Nat) : mul (pw 510 k 1019) 510 = (pw 510 (k + 1) 1019 : Nat) := by
  rw [← pw_succ]; exact mul_nat (pw_lt _ _ (by decide)) (by decide)
theorem inv_nat {a : Nat} (h0 : 0 < a) (h1 : a < 1019) : inv (a : Int) = (pw a 1017 1019 : Nat) := by
  unfold inv
  rw [isEl_nat h1, Int.toNat_natCast]
  have : decide ((a : Int) = 0) = false := by simp; omega
  rw [this]; rfl
theorem inv_pw (k : Nat) : inv (pw 2 k 1019 : Nat) = (pw 510 k 1019 : Nat) := by
  rw [inv_nat (two_pos k) (pw_lt _ _ (by decide)), walk_inv]
/-- The whole walk has met every element that has an inverse. -/
theorem inv_none {a : Int} (h : ∀ j, j < 1018 → (pw 2 j 1019 : Int) ≠ a) : inv a = 0 := by
  unfold inv
  cases he : isEl a
  · rfl
  · obtain ⟨h0, h1⟩ := isEl_iff.1 he
    by_cases hz : a = 0
    · subst hz; rfl
    · obtain ⟨n, rfl⟩ : ∃ n : Nat, a = n := ⟨a.toNat, by omega⟩
      obtain ⟨i, hi, e⟩ := two_generates (a := n) (by omega) (by omega)
      exact absurd (by rw [e]) (h i hi)
theorem half_order : pw 510 1018 1019 = 1 := by
  rw [← half, pw_mul, Nat.mul_comm, ← pw_mul, two_order, pw_one _ _ (by decide)]

theorem el_mod (x : Int) : isEl (x % 1019) = true := isEl_iff.2 ⟨by omega, by omega⟩
theorem add_el {a b : Int} (ha : isEl a = true) (hb : isEl b = true) : add a b = (a + b) % 1019 := by unfold add; rw [ha, hb]; rfl
theorem sub_el {a b : Int} (ha : isEl a = true) (hb : isEl b = true) : sub a b = (a - b) % 1019 := by unfold sub; rw [ha, hb]; rfl
theorem mul_el {a b : Int} (ha : isEl a = true) (hb : isEl b = true) : mul a b = a * b % 1019 := by unfold mul; rw [ha, hb]; rfl
theorem add_no {a b : Int} (h : (isEl a && isEl b) = false) : add a b = 0 := by unfold add; rw [h]; rfl
theorem sub_no {a b : Int} (h : (isEl a && isEl b) = false) : sub a b = 0 := by unfold sub; rw [h]; rfl
theorem mul_no {a b : Int} (h : (isEl a && isEl b) = false) : mul a b = 0 := by unfold mul; rw [h]; rfl
theorem add_sub {a b : Int} (ha : isEl a = true) (hb : isEl b = true) : add (sub a b) b = a := by
  rw [sub_el ha hb, add_el (el_mod _) hb, Int.emod_add_emod, Int.sub_add_cancel]
  obtain ⟨h0, h1⟩ := isEl_iff.1 ha
  exact Int.emod_eq_of_lt h0 (by omega)
theorem distr {a b c : Int} (ha : isEl a = true) (hb : isEl b = true) (hc : isEl c = true) : add (mul a b) (mul a c) = mul a (add b c) := by
  rw [mul_el ha hb, mul_el ha hc, add_el (el_mod _) (el_mod _), add_el hb hc, mul_el ha (el_mod _), ← Int.add_emod, ← Int.mul_add, Int.mul_emod a ((b + c) % 1019), Int.emod_emod_of_dvd _ (Int.dvd_refl _), ← Int.mul_emod]
theorem mul_swap {a b : Int} (ha : isEl a = true) (hb : isEl b = true) : mul b a = mul a b := by
  rw [mul_el ha hb, mul_el hb ha, Int.mul_comm]
theorem el_nat {a : Int} (ha : isEl a = true) : ∃ n : Nat, a = n ∧ n < 1019 := by
  obtain ⟨h0, h1⟩ := isEl_iff.1 ha
  exact ⟨a.toNat, by omega, by omega⟩
theorem inv_el {a : Int} (ha : isEl a = true) (h : a ≠ 0) : isEl (inv a) = true ∧ inv a ≠ 0 ∧ mul a (inv a) = 1 := by
  obtain ⟨n, rfl, hn⟩ := el_nat ha
  have hp : 0 < n := by omega
  rw [inv_nat hp hn]
  have h1 : mul (n : Int) (pw n 1017 1019 : Nat) = 1 := by
    rw [mul_nat hn (pw_lt _ _ (by decide)), Nat.mul_comm, pw_succ, fermat hp hn]; rfl
  refine ⟨isEl_nat (pw_lt _ _ (by decide)), fun h0 => ?_, h1⟩
  rw [h0, mul_el ha rfl, Int.mul_zero] at h1
  exact absurd h1 (by decide)
theorem inv_0 : inv 0 = 0 := rfl
theorem pow_el {a : Int} {n : Nat} (ha : isEl a = true) (hn : n ≤ 1000000000000) : pow a n = (pw a.toNat n 1019 : Nat) := by
  unfold pow
  have h : (decide ((0 : Int) ≤ n) && decide ((n : Int) ≤ 1000000000000)) = true := by simp; omega
  rw [ha, h, Int.toNat_natCast]; rfl
theorem pow_2 {a : Int} (ha : isEl a = true) : mul a a = pow a 2 := by
  have h := pow_el (n := 2) ha (by decide)
  obtain ⟨n, rfl, hn⟩ := el_nat ha
  rw [show ((2 : Nat) : Int) = 2 from rfl] at h
  rw [h, mul_nat hn hn, Int.toNat_natCast]; unfold pw; rw [Nat.pow_two]
theorem pow_1018 {a : Int} (ha : isEl a = true) (h0 : a ≠ 0) : pow a 1018 = 1 := by
  have h := pow_el (n := 1018) ha (by decide)
  obtain ⟨n, rfl, hn⟩ := el_nat ha
  rw [show ((1018 : Nat) : Int) = 1018 from rfl] at h
  rw [h, Int.toNat_natCast, fermat (by omega) hn]; rfl

/-- Exponents of an element of the group count modulo 1019. -/
theorem period {g : Nat} (h : pw g 1019 2039 = 1) (k : Nat) : pw g (k % 1019) 2039 = pw g k 2039 := by
  conv => rhs; rw [← Nat.div_add_mod k 1019, ← pw_add, ← pw_mul, h, pw_one _ _ (by decide), Nat.one_mul]
  rw [Nat.mod_eq_of_lt (pw_lt _ _ (by decide))]
theorem absurd_zeroG {n : Nat} (h0 : 0 < n) (h : pw 0 n 2039 = 1) : False := by
  obtain ⟨k, rfl⟩ : ∃ k, n = k + 1 := ⟨n - 1, by omega⟩
  unfold pw at h
  rw [Nat.pow_succ, Nat.mul_zero] at h
  exact absurd h (by decide)
theorem isG_pw {g : Nat} (h : pw g 1019 2039 = 1) (k : Nat) : isG (pw g k 2039 : Nat) = true := by
  have h1 : pw (pw g k 2039) 1019 2039 = 1 := by
    rw [pw_mul, Nat.mul_comm, ← pw_mul, h, pw_one _ _ (by decide)]
  have h2 := pw_lt g k (m := 2039) (by decide)
  have h3 : pw g k 2039 ≠ 0 := fun h0 => absurd_zeroG (by decide) (h0 ▸ h1)
  refine isG_iff.2 ⟨⟨by omega, by omega⟩, ?_⟩
  rw [Int.toNat_natCast]; exact h1
theorem powG_el {g : Int} {n : Nat} (hg : isG g = true) (hn : n < 1019) : powG g n = (pw g.toNat n 2039 : Nat) := by
  unfold powG
  rw [hg, isEl_nat hn, Int.toNat_natCast]; rfl
theorem mulG_pw {g : Nat} (h : pw g 1019 2039 = 1) (i j : Nat) : mulG (pw g i 2039 : Nat) (pw g j 2039 : Nat) = (pw g (i + j) 2039 : Nat) := by
  unfold mulG
  rw [isG_pw h, isG_pw h, ← pw_add, Int.natCast_emod, Int.natCast_mul]; rfl
theorem powG_no {g n : Int} (h : (isG g && isEl n) = false) : powG g n = 0 := by unfold powG; rw [h]; rfl
theorem mulG_no {g n : Int} (h : isG g = false) : mulG g n = 0 := by unfold mulG; rw [h]; rfl
/-- What the law on the group asks of an element and two exponents. -/
theorem groupLaw {g n m : Int} (hg : isG g = true) (hn : isEl n = true) (hm : isEl m = true) :
    isG (powG g n) = true ∧ mulG (powG g n) (powG g m) = powG g (add n m) ∧ powG g 0 = 1 ∧ mulG g (powG g 1018) = 1 := by
  have h := (isG_iff.1 hg).2
  obtain ⟨⟨g0, g1⟩, _⟩ := isG_iff.1 hg
  obtain ⟨i, rfl, hi⟩ := el_nat hn
  obtain ⟨j, rfl, hj⟩ := el_nat hm
  have e18 := powG_el (n := 1018) hg (by decide)
  have e0 := powG_el (n := 0) hg (by decide)
  rw [show ((1018 : Nat) : Int) = 1018 from rfl] at e18
  rw [show ((0 : Nat) : Int) = 0 from rfl] at e0
  rw [powG_el hg hi, powG_el hg hj, add_el hn hm, e18, e0]
  rw [show ((i : Int) + j) % 1019 = (((i + j) % 1019 : Nat) : Int) by omega, powG_el hg (Nat.mod_lt _ (by decide)), period h, mulG_pw h]
  refine ⟨isG_pw h _, rfl, by rw [pw_zero _ _ (by decide)]; rfl, ?_⟩
  have e1 : g = (pw g.toNat 1 2039 : Nat) := by
    unfold pw; rw [Nat.pow_one, Nat.mod_eq_of_lt (by omega)]; omega
  conv => lhs; arg 1; rw [e1]
  rw [mulG_pw h, h]; rfl
end Go.Proofs.Ytlgmiojlpnoiaaa.Field
namespace Go.Proofs.Ytlgmiojlpnoiaaa.Vec
open Go.Proofs.Ytlgmiojlpnoiaaa.Field

abbrev F := Fin 1019
/-- The integer of an element. -/
def em (x : F) : Int := (x.val : Int)
theorem em_in (x : F) : 0 ≤ em x ∧ em x ≤ 1018 := by unfold em; have := x.isLt; omega
theorem em_el (x : F) : isEl (em x) = true := isEl_iff.2 (em_in x)
theorem em_inj {x y : F} (h : em x = em y) : x = y := Fin.ext (by unfold em at h; omega)
theorem em_add (x y : F) : em (x + y) = (em x + em y) % 1019 := by unfold em; rw [Fin.val_add]; omega
theorem em_mul (x y : F) : em (x * y) = em x * em y % 1019 := by unfold em; rw [Fin.val_mul, Int.natCast_emod, Int.natCast_mul]; rfl
theorem em_sub (x y : F) : em (x - y) = (em x - em y) % 1019 := by
  have h : em (x - y + y) = em x := by rw [show x - y + y = x by grind]
  rw [em_add] at h
  have h1 := em_in (x - y)
  have h2 := em_in x
  have h3 := em_in y
  omega
theorem em_0 : em 0 = 0 := rfl
theorem em_1 : em 1 = 1 := rfl
theorem em_mac (x y k : F) : em (x + y * k) = (em x + em y * em k) % 1019 := by
  rw [em_add, em_mul]; omega
theorem of_el {x : Int} (h : isEl x = true) : ∃ y : F, em y = x := by
  obtain ⟨h0, h1⟩ := isEl_iff.1 h
  exact ⟨⟨x.toNat, by omega⟩, by unfold em; simp; omega⟩
theorem add_em (x y : F) : add (em x) (em y) = em (x + y) := by rw [add_el (em_el x) (em_el y), em_add]
theorem mul_em (x y : F) : mul (em x) (em y) = em (x * y) := by rw [mul_el (em_el x) (em_el y), em_mul]
theorem sub_em (x y : F) : sub (em x) (em y) = em (x - y) := by rw [sub_el (em_el x) (em_el y), em_sub]

/-- The list of integers of a vector. -/
def ems (xs : List F) : List Int := xs.map em
theorem ems_len (xs : List F) : (ems xs).length = xs.length := by simp [ems]
theorem ems_inj {xs ys : List F} (h : ems xs = ems ys) : xs = ys := (List.map_inj_right (fun _ _ => em_inj)).1 h

/-- A valid vector. -/
def isVec (xs : List Int) : Bool := xs.all isEl && decide (xs.length ≤ 40)
theorem isVec_iff {xs : List Int} : isVec xs = true ↔ (∀ x ∈ xs, isEl x = true) ∧ xs.length ≤ 40 := by unfold isVec; simp
theorem isVec_ems {xs : List F} (h : xs.length ≤ 40) : isVec (ems xs) = true := by
  refine isVec_iff.2 ⟨fun x hx => ?_, by rw [ems_len]; exact h⟩
  obtain ⟨y, _, rfl⟩ := List.mem_map.1 hx
  exact em_el y
theorem all_ems {xs : List Int} (h : ∀ x ∈ xs, isEl x = true) : ∃ ys, ems ys = xs := by
  induction xs with
  | nil => exact ⟨[], rfl⟩
  | cons x xs ih =>
    obtain ⟨ys, rfl⟩ := ih fun y hy => h y (by simp [hy])
    obtain ⟨y, rfl⟩ := of_el (h x (by simp))
    exact ⟨y :: ys, rfl⟩
theorem of_vec {xs : List Int} (h : isVec xs = true) : ∃ ys, ems ys = xs ∧ ys.length ≤ 40 := by
  obtain ⟨h1, h2⟩ := isVec_iff.1 h
  obtain ⟨ys, rfl⟩ := all_ems h1
  exact ⟨ys, rfl, by rw [ems_len] at h2; exact h2⟩

/-- What the functions of the layer answer. -/
def mac (xs ys : List Int) (k : Int) : List Int := List.zipWith (fun x y => (x + y * k) % 1019) xs ys
def addScaled (xs ys : List Int) (k : Int) : List Int := bif ((isVec xs && isVec ys) && (xs.length == ys.length)) && isEl k then mac xs ys k else []
def scaled (xs : List Int) (k : Int) : List Int := xs.map fun x => x * k % 1019
def scale (xs : List Int) (k : Int) : List Int := bif isVec xs && isEl k then scaled xs k else []
def dotF (a b : List F) : F := (List.zipWith (· * ·) a b).foldl (· + ·) 0
def dots (xs ys : List Int) : Int := (List.zipWith (fun x y => x * y) xs ys).foldl (fun s p => (s + p) % 1019) 0
def dot (xs ys : List Int) : Int := bif (isVec xs && isVec ys) && (xs.length == ys.length) then dots xs ys else 0
def leadFrom : Int → List Int → Int
  | _, [] => -1
  | j, x :: xs => bif x == 0 then leadFrom (j + 1) xs else j
def lead (xs : List Int) : Int := leadFrom 0 xs
def units (n : Nat) (i : Int) : List Int := (List.range n).map fun (j : Nat) => bif (j : Int) == i then 1 else 0
def unit (n i : Int) : List Int := bif (decide (0 ≤ n) && decide (n ≤ 40)) && (decide (0 ≤ i) && decide (i ≤ n - 1)) then units n.toNat i else []

/-- .. over the field. -/
def macF (xs ys : List F) (k : F) : List F := List.zipWith (fun x y => x + y * k) xs ys
theorem mac_ems (xs ys : List F) (k : F) : mac (ems xs) (ems ys) (em k) = ems (macF xs ys k) := by
  unfold mac ems macF
  rw [List.zipWith_map, List.map_zipWith]
  congr 1; funext x y; exact (em_mac x y k).symm
theorem macF_len {xs ys : List F} {k : F} (h : xs.length = ys.length) : (macF xs ys k).length = xs.length := by simp [macF, h]
theorem addScaled_ems {xs ys : List F} {k : F} (h : xs.length = ys.length) (h2 : xs.length ≤ 40) : addScaled (ems xs) (ems ys) (em k) = ems (macF xs ys k) := by
  unfold addScaled
  rw [isVec_ems h2, isVec_ems (h ▸ h2), em_el, ems_len, ems_len, h]
  simp [mac_ems]
theorem scale_ems {xs : List F} {k : F} (h2 : xs.length ≤ 40) : scale (ems xs) (em k) = ems (xs.map (· * k)) := by
  unfold scale
  rw [isVec_ems h2, em_el]
  simp only [Bool.and_self, cond_true, scaled, ems, List.map_map]
  refine List.map_congr_left fun x _ => (em_mul x k).symm
theorem fold_em (l : List F) (c : F) (L : List Int) (h : L.map (· % 1019) = ems l) : L.foldl (fun s p => (s + p) % 1019) (em c) = em (l.foldl (· + ·) c) := by
  induction L generalizing l c with
  | nil =>
    obtain rfl : l = [] := by cases l with | nil => rfl | cons a b => simp [ems] at h
    rfl
  | cons p L ih =>
    cases l with
    | nil => simp [ems] at h
    | cons x l =>
      simp only [ems, List.map_cons, List.cons.injEq] at h
      rw [List.foldl_cons, List.foldl_cons, ← ih l (c + x) h.2]
      congr 1
      rw [em_add, ← h.1]; omega
theorem dot_ems {xs ys : List F} (h : xs.length = ys.length) (h2 : xs.length ≤ 40) : dot (ems xs) (ems ys) = em (dotF xs ys) := by
  unfold dot dots dotF
  rw [isVec_ems h2, isVec_ems (h ▸ h2), ems_len, ems_len, h]
  simp only [Bool.and_self, BEq.rfl, cond_true]
  refine fold_em _ 0 _ ?_
  unfold ems
  rw [List.zipWith_map, List.map_zipWith, List.map_zipWith]
  congr 1

theorem foldl_add (l : List F) (c : F) : l.foldl (· + ·) c = c + l.foldl (· + ·) 0 := by
  induction l generalizing c with
  | nil => simp
  | cons x l ih => simp only [List.foldl_cons]; rw [ih (c + x), ih (0 + x)]; grind
theorem dot_nil (b : List F) : dotF [] b = 0 := by simp [dotF]
theorem dot_cons (x y : F) (a b : List F) : dotF (x :: a) (y :: b) = x * y + dotF a b := by
  unfold dotF
  simp only [List.zipWith_cons_cons, List.foldl_cons]
  rw [foldl_add]; grind
theorem dot_mac {a b v : List F} (k : F) (h : a.length = b.length) (h2 : v.length = a.length) : dotF (macF a b k) v = dotF a v + k * dotF b v := by
  induction a generalizing b v with
  | nil =>
    obtain rfl : b = [] := by simpa using h.symm
    simp only [macF, List.zipWith_nil_left, dot_nil]; grind
  | cons x a ih =>
    cases b with
    | nil => simp at h
    | cons y b =>
      cases v with
      | nil => simp at h2
      | cons z v =>
        have := ih (b := b) (v := v) (by simpa using h) (by simpa using h2)
        rw [show macF (x :: a) (y :: b) k = (x + y * k) :: macF a b k from rfl, dot_cons, dot_cons, dot_cons, this]; grind
theorem dot_comm (a b : List F) : dotF a b = dotF b a := by
  unfold dotF
  rw [List.zipWith_comm]
  congr 2; funext x y; exact Fin.mul_comm _ _

theorem mac_scale (a b : List F) (k : F) : macF a (b.map (· * k)) 1 = macF a b k := by
  unfold macF
  rw [List.zipWith_map_right]
  congr 1; funext x y; grind
theorem mac_back {a b : List F} (k : F) (h : a.length = b.length) : macF (macF a b k) b (0 - k) = a := by
  induction a generalizing b with
  | nil => simp [macF]
  | cons x a ih =>
    cases b with
    | nil => simp at h
    | cons y b =>
      rw [show macF (macF (x :: a) (y :: b) k) (y :: b) (0 - k) = (x + y * k + y * (0 - k)) :: macF (macF a b k) b (0 - k) from rfl, ih (by simpa using h)]
      congr 1; grind
theorem mac_none (a : List F) : macF a a 1018 = a.map fun _ => 0 := by
  unfold macF
  rw [List.zipWith_self]
  congr 1; funext x; grind
theorem lead_zero (a : List F) (j : Int) : leadFrom j (ems (a.map fun _ => 0)) = -1 := by
  induction a generalizing j with
  | nil => rfl
  | cons x a ih => exact ih (j + 1)

/-! What the walks ask. -/
theorem take_more {α : Type} {xs : List α} {j : Nat} {x : α} (hx : xs[j]? = some x) : xs.take (j + 1) = xs.take j ++ [x] := by
  rw [List.take_add_one, hx]; rfl
theorem isVec_no_at {xs : List Int} {j : Nat} {x : Int} (hx : xs[j]? = some x) (h : isEl x = false) : isVec xs = false := by
  unfold isVec
  have : xs.all isEl = false := by
    rw [List.all_eq_false]; exact ⟨x, List.mem_of_getElem? hx, by rw [h]; simp⟩
  rw [this]; rfl
theorem isVec_all {xs : List Int} {n : Nat} (hl : xs.length = n) (h : ∀ x ∈ xs.take n, isEl x = true) : isVec xs = decide ((n : Int) ≤ 40) := by
  unfold isVec
  rw [List.take_of_length_le (Nat.le_of_eq hl)] at h
  have : xs.all isEl = true := List.all_eq_true.2 h
  rw [this, hl, Bool.true_and]; congr 1; simp; omega
theorem all_more {xs : List Int} {j : Nat} {x : Int} (hx : xs[j]? = some x) (h : ∀ y ∈ xs.take j, isEl y = true) (h1 : isEl x = true) : ∀ y ∈ xs.take (j + 1), isEl y = true := by
  rw [take_more hx]
  intro y hy
  rcases List.mem_append.1 hy with hy | hy
  · exact h y hy
  · obtain rfl := List.mem_singleton.1 hy; exact h1
theorem vec_el {xs : List Int} {j : Nat} {x : Int} (hv : isVec xs = true) (hx : xs[j]? = some x) : 0 ≤ x ∧ x ≤ 1018 :=
  isEl_iff.1 ((isVec_iff.1 hv).1 x (List.mem_of_getElem? hx))
theorem mac_get {xs ys : List Int} {k x y : Int} {j : Nat} (hx : xs[j]? = some x) (hy : ys[j]? = some y) : (mac xs ys k)[j]? = some ((x + y * k) % 1019) := by
  unfold mac; rw [List.getElem?_zipWith, hx, hy]
theorem mac_len {xs ys : List Int} (k : Int) (h : xs.length = ys.length) : (mac xs ys k).length = xs.length := by unfold mac; simp [h]
theorem scaled_get {xs : List Int} {k x : Int} {j : Nat} (hx : xs[j]? = some x) : (scaled xs k)[j]? = some (x * k % 1019) := by
  unfold scaled; rw [List.getElem?_map, hx]; rfl
theorem scaled_len (xs : List Int) (k : Int) : (scaled xs k).length = xs.length := by unfold scaled; simp
theorem dots_more {xs ys : List Int} {x y : Int} {j : Nat} (hx : xs[j]? = some x) (hy : ys[j]? = some y) : dots (xs.take (j + 1)) (ys.take (j + 1)) = (dots (xs.take j) (ys.take j) + x * y) % 1019 := by
  unfold dots
  rw [take_more hx, take_more hy, List.zipWith_append (by
    have h1 := (List.getElem?_eq_some_iff.1 hx).1
    have h2 := (List.getElem?_eq_some_iff.1 hy).1
    simp; omega), List.foldl_append]
  rfl
theorem fold_in (L : List Int) (c : Int) (h0 : 0 ≤ c) (h1 : c ≤ 1018) : 0 ≤ L.foldl (fun s p => (s + p) % 1019) c ∧ L.foldl (fun s p => (s + p) % 1019) c ≤ 1018 := by
  induction L generalizing c with
  | nil => exact ⟨h0, h1⟩
  | cons p L ih => rw [List.foldl_cons]; exact ih _ (by omega) (by omega)
theorem dots_in (xs ys : List Int) : 0 ≤ dots xs ys ∧ dots xs ys ≤ 1018 := fold_in _ 0 (by omega) (by omega)
theorem dots_full {xs ys : List Int} {n : Nat} (h1 : xs.length = n) (h2 : ys.length = n) : dots (xs.take n) (ys.take n) = dots xs ys := by
  rw [List.take_of_length_le (Nat.le_of_eq h1), List.take_of_length_le (Nat.le_of_eq h2)]
theorem lead_at {xs : List Int} {j : Nat} {x : Int} (hx : xs[j]? = some x) (h : ∀ y ∈ xs.take j, y = 0) (hne : x ≠ 0) (c : Int) : leadFrom c xs = c + j := by
  induction xs generalizing j c with
  | nil => simp at hx
  | cons a xs ih =>
    cases j with
    | zero =>
      obtain rfl : a = x := by simpa using hx
      have : (a == 0) = false := by simpa using hne
      simp [leadFrom, this]
    | succ j =>
      have ha : a = 0 := h a (by simp)
      rw [show leadFrom c (a :: xs) = leadFrom (c + 1) xs by simp [leadFrom, ha], ih (by simpa using hx) (fun y hy => h y (by simp [hy])) (c + 1)]
      omega
theorem lead_no {xs : List Int} (h : ∀ y ∈ xs, y = 0) (c : Int) : leadFrom c xs = -1 := by
  induction xs generalizing c with
  | nil => rfl
  | cons a xs ih =>
    have ha : a = 0 := h a (by simp)
    rw [show leadFrom c (a :: xs) = leadFrom (c + 1) xs by simp [leadFrom, ha], ih (fun y hy => h y (by simp [hy]))]
theorem zero_more {xs : List Int} {j : Nat} (hx : xs[j]? = some 0) (h : ∀ y ∈ xs.take j, y = 0) : ∀ y ∈ xs.take (j + 1), y = 0 := by
  rw [take_more hx]
  intro y hy
  rcases List.mem_append.1 hy with hy | hy
  · exact h y hy
  · exact List.mem_singleton.1 hy
theorem units_get {n j : Nat} {i : Int} (hj : j < n) : (units n i)[j]? = some (bif (j : Int) == i then 1 else 0) := by simp [units, hj]
theorem units_len (n : Nat) (i : Int) : (units n i).length = n := by simp [units]

/-- What Combine answers. -/
def combs (ws : Nat) (xss : List (List Int)) (cs : List Int) : List Int := (List.zip xss cs).foldl (fun acc p => addScaled acc p.1 p.2) (List.replicate ws 0)
def okRows (ws : Nat) (xss : List (List Int)) : Bool := xss.all fun xs => isVec xs && (xs.length == ws)
def combine (xss : List (List Int)) (cs : List Int) : List Int :=
  match xss with
  | [] => []
  | xs :: _ => bif ((xss.length == cs.length) && isVec cs) && okRows xs.length xss then combs xs.length xss cs else []
theorem combs_more {ws : Nat} {xss : List (List Int)} {cs xs : List Int} {c : Int} {j : Nat} (hx : xss[j]? = some xs) (hc : cs[j]? = some c) :
    combs ws (xss.take (j + 1)) (cs.take (j + 1)) = addScaled (combs ws (xss.take j) (cs.take j)) xs c := by
  unfold combs
  rw [take_more hx, take_more hc, List.zip_append (by
    have h1 := (List.getElem?_eq_some_iff.1 hx).1
    have h2 := (List.getElem?_eq_some_iff.1 hc).1
    simp; omega), List.foldl_append]
  rfl
theorem addScaled_len {xs ys : List Int} {k : Int} {ws : Nat} (h1 : isVec xs = true) (h2 : isVec ys = true) (h3 : isEl k = true) (h4 : xs.length = ws) (h5 : ys.length = ws) :
    addScaled xs ys k = mac xs ys k ∧ isVec (addScaled xs ys k) = true ∧ (addScaled xs ys k).length = ws := by
  obtain ⟨a, rfl, ha⟩ := of_vec h1
  obtain ⟨b, rfl, hb⟩ := of_vec h2
  obtain ⟨c, rfl⟩ := of_el h3
  rw [ems_len] at h4 h5
  rw [addScaled_ems (h4.trans h5.symm) ha, mac_ems]
  have hl := macF_len (k := c) (h4.trans h5.symm)
  exact ⟨rfl, isVec_ems (by omega), by rw [ems_len]; omega⟩

theorem combine_len {xss : List (List Int)} {cs : List Int} (h : xss.length ≠ cs.length) : combine xss cs = [] := by
  cases xss with
  | nil => rfl
  | cons xs r =>
    have : ((xs :: r).length == cs.length) = false := by simpa using h
    unfold combine; simp only [this]; rfl
theorem combine_cs {xss : List (List Int)} {cs : List Int} (h : isVec cs = false) : combine xss cs = [] := by
  cases xss with
  | nil => rfl
  | cons xs r => unfold combine; simp [h]
theorem combine_row {xss : List (List Int)} {cs xs ys : List Int} {j : Nat} (h0 : xss[0]? = some xs) (hj : xss[j]? = some ys) (h : (isVec ys && (ys.length == xs.length)) = false) : combine xss cs = [] := by
  cases xss with
  | nil => rfl
  | cons x r =>
    obtain rfl : x = xs := by simpa using h0
    have : okRows x.length (x :: r) = false := by
      unfold okRows
      rw [List.all_eq_false]; exact ⟨ys, List.mem_of_getElem? hj, by rw [h]; simp⟩
    unfold combine; simp only [this, Bool.and_false]; rfl
theorem combine_ok {xss : List (List Int)} {cs xs : List Int} {n : Nat} (h0 : xss[0]? = some xs) (hn : xss.length = n) (hl : xss.length = cs.length) (hv : isVec cs = true) (h : ∀ ys ∈ xss.take n, (isVec ys && (ys.length == xs.length)) = true) : combine xss cs = combs xs.length (xss.take n) (cs.take n) := by
  rw [List.take_of_length_le (Nat.le_of_eq hn)] at h ⊢
  rw [List.take_of_length_le (by omega)]
  cases xss with
  | nil => simp at h0
  | cons x r =>
    obtain rfl : x = xs := by simpa using h0
    have h1 : okRows x.length (x :: r) = true := List.all_eq_true.2 h
    have h2 : ((x :: r).length == cs.length) = true := by simpa using hl
    unfold combine; simp only [h1, h2, hv]; rfl
theorem rows_more {xss : List (List Int)} {ys : List Int} {j W : Nat} (hx : xss[j]? = some ys) (h : ∀ y ∈ xss.take j, (isVec y && (y.length == W)) = true) (h1 : (isVec ys && (ys.length == W)) = true) : ∀ y ∈ xss.take (j + 1), (isVec y && (y.length == W)) = true := by
  rw [take_more hx]
  intro y hy
  rcases List.mem_append.1 hy with hy | hy
  · exact h y hy
  · obtain rfl := List.mem_singleton.1 hy; exact h1
theorem scale_le (xs : List Int) (k : Int) : (scale xs k).length ≤ xs.length := by
  unfold scale
  cases isVec xs && isEl k
  · exact Nat.zero_le _
  · exact Nat.le_of_eq (scaled_len xs k)
theorem addScaled_le (xs ys : List Int) (k : Int) : (addScaled xs ys k).length ≤ xs.length := by
  unfold addScaled
  cases (isVec xs && isVec ys && (xs.length == ys.length)) && isEl k
  · exact Nat.zero_le _
  · show (mac xs ys k).length ≤ _
    unfold mac; rw [List.length_zipWith]; omega
theorem units_le (n i : Int) : (unit n i).length ≤ 40 := by
  unfold unit
  cases h : ((decide (0 ≤ n) && decide (n ≤ 40)) && (decide (0 ≤ i) && decide (i ≤ n - 1)))
  · exact Nat.zero_le _
  · have : 0 ≤ n ∧ n ≤ 40 := by simp at h; omega
    show (units n.toNat i).length ≤ _
    rw [units_len]; omega
end Go.Proofs.Ytlgmiojlpnoiaaa.Vec
namespace Go.Proofs.Ytlgmiojlpnoiaaa.Vec
open Go.Proofs.Ytlgmiojlpnoiaaa.Field

/-- The sum of rows, each times its coefficient, on top of a. -/
def foldC (a : List F) : List (List F) → List F → List F
  | r :: rs, c :: cs => foldC (macF a r c) rs cs
  | _, _ => a
theorem foldC_zip (a : List F) (rs : List (List F)) (cs : List F) : (List.zip rs cs).foldl (fun acc p => macF acc p.1 p.2) a = foldC a rs cs := by
  induction rs generalizing a cs with
  | nil => cases cs <;> rfl
  | cons r rs ih =>
    cases cs with
    | nil => rfl
    | cons c cs => exact ih _ _
theorem foldC_len {a : List F} {rs : List (List F)} {cs : List F} {W : Nat} (ha : a.length = W) (h : ∀ r ∈ rs, r.length = W) : (foldC a rs cs).length = W := by
  induction rs generalizing a cs with
  | nil => cases cs <;> exact ha
  | cons r rs ih =>
    cases cs with
    | nil => exact ha
    | cons c cs => exact ih ((macF_len (ha.trans (h r (by simp)).symm)).trans ha) fun r' hr => h r' (by simp [hr])
theorem mix (a b r : List F) (c d : F) (h1 : a.length = r.length) (h2 : b.length = r.length) : macF (macF a b 1) r (c + d * 1) = macF (macF a r c) (macF b r d) 1 := by
  induction r generalizing a b with
  | nil =>
    obtain rfl : a = [] := by simpa using h1
    simp [macF]
  | cons x r ih =>
    cases a with
    | nil => simp at h1
    | cons y a =>
      cases b with
      | nil => simp at h2
      | cons z b =>
        have := ih a b (by simpa using h1) (by simpa using h2)
        show (y + z * 1 + x * (c + d * 1)) :: macF (macF a b 1) r (c + d * 1) = (y + x * c + (z + x * d) * 1) :: macF (macF a r c) (macF b r d) 1
        rw [this]; congr 1; grind
theorem foldC_add {a b : List F} {rs : List (List F)} {cs ds : List F} {W : Nat} (ha : a.length = W) (hb : b.length = W) (h : ∀ r ∈ rs, r.length = W) (hl : cs.length = ds.length) :
    foldC (macF a b 1) rs (macF cs ds 1) = macF (foldC a rs cs) (foldC b rs ds) 1 := by
  induction rs generalizing a b cs ds with
  | nil => simp [foldC]
  | cons r rs ih =>
    cases cs with
    | nil =>
      obtain rfl : ds = [] := by simpa using hl.symm
      simp [foldC, macF]
    | cons c cs =>
      cases ds with
      | nil => simp at hl
      | cons d ds =>
        have hr := h r (by simp)
        show foldC (macF (macF a b 1) r (c + d * 1)) rs (macF cs ds 1) = macF (foldC (macF a r c) rs cs) (foldC (macF b r d) rs ds) 1
        rw [mix a b r c d (ha.trans hr.symm) (hb.trans hr.symm)]
        exact ih ((macF_len (ha.trans hr.symm)).trans ha) ((macF_len (hb.trans hr.symm)).trans hb) (fun r' hr' => h r' (by simp [hr'])) (by simpa using hl)
theorem mac_map (a r : List F) (c k : F) : macF (a.map (· * k)) r (c * k) = (macF a r c).map (· * k) := by
  unfold macF
  rw [List.zipWith_map_left, List.map_zipWith]
  congr 1; funext x y; grind
theorem foldC_scale (a : List F) (rs : List (List F)) (cs : List F) (k : F) : foldC (a.map (· * k)) rs (cs.map (· * k)) = (foldC a rs cs).map (· * k) := by
  induction rs generalizing a cs with
  | nil => simp [foldC]
  | cons r rs ih =>
    cases cs with
    | nil => simp [foldC]
    | cons c cs =>
      show foldC (macF (a.map (· * k)) r (c * k)) rs (cs.map (· * k)) = (foldC (macF a r c) rs cs).map (· * k)
      rw [mac_map]; exact ih _ _
theorem mac_0 {a r : List F} (h : a.length = r.length) : macF a r 0 = a := by
  induction r generalizing a with
  | nil =>
    obtain rfl : a = [] := by simpa using h
    rfl
  | cons x r ih =>
    cases a with
    | nil => simp at h
    | cons y a =>
      show (y + x * 0) :: macF a r 0 = y :: a
      rw [ih (by simpa using h)]; congr 1; grind
theorem zeros_mac {r : List F} {W : Nat} (h : r.length = W) : macF (List.replicate W 0) r 1 = r := by
  subst h
  induction r with
  | nil => rfl
  | cons x r ih =>
    show (0 + x * 1) :: macF (List.replicate r.length 0) r 1 = x :: r
    rw [ih]; congr 1; grind
def unitsF (n i : Nat) : List F := (List.range n).map fun j => bif j == i then 1 else 0
theorem unitsF_zero (n : Nat) : unitsF (n + 1) 0 = 1 :: List.replicate n 0 := by
  unfold unitsF
  rw [List.range_succ_eq_map, List.map_cons, List.map_map]
  congr 1
  rw [List.eq_replicate_iff]
  refine ⟨by simp, fun x hx => ?_⟩
  obtain ⟨j, _, rfl⟩ := List.mem_map.1 hx
  rfl
theorem unitsF_succ (n i : Nat) : unitsF (n + 1) (i + 1) = 0 :: unitsF n i := by
  unfold unitsF
  rw [List.range_succ_eq_map, List.map_cons, List.map_map]
  congr 1
  refine List.map_congr_left fun j _ => ?_
  simp
theorem foldC_zeros {a : List F} {rs : List (List F)} {n W : Nat} (ha : a.length = W) (h : ∀ r ∈ rs, r.length = W) : foldC a rs (List.replicate n 0) = a := by
  induction rs generalizing n with
  | nil => simp [foldC]
  | cons r rs ih =>
    cases n with
    | zero => simp [foldC]
    | succ n =>
      show foldC (macF a r 0) rs (List.replicate n 0) = a
      rw [mac_0 (ha.trans (h r (by simp)).symm)]
      exact ih fun r' hr => h r' (by simp [hr])
theorem foldC_unit {a r : List F} {rs : List (List F)} {i W : Nat} (ha : a.length = W) (h : ∀ r ∈ rs, r.length = W) (hi : rs[i]? = some r) : foldC a rs (unitsF rs.length i) = macF a r 1 := by
  induction rs generalizing i with
  | nil => simp at hi
  | cons r' rs ih =>
    have hr := h r' (by simp)
    cases i with
    | zero =>
      obtain rfl : r' = r := by simpa using hi
      rw [List.length_cons, unitsF_zero]
      exact foldC_zeros ((macF_len (ha.trans hr.symm)).trans ha) fun q hq => h q (by simp [hq])
    | succ i =>
      rw [List.length_cons, unitsF_succ]
      show foldC (macF a r' 0) rs (unitsF rs.length i) = _
      rw [mac_0 (ha.trans hr.symm)]
      exact ih (fun q hq => h q (by simp [hq])) (by simpa using hi)

/-- The rows of integers. -/
def emss (rs : List (List F)) : List (List Int) := rs.map ems
theorem units_ems (n i : Nat) : units n i = ems (unitsF n i) := by
  unfold units ems unitsF
  rw [List.map_map]
  refine List.map_congr_left fun j _ => ?_
  have e : ((j : Int) == (i : Int)) = (j == i) := by rw [Bool.eq_iff_iff]; simp; omega
  rw [e]; cases h : (j == i) <;> simp [Function.comp, h, em]
theorem combs_fold (a : List F) (rs : List (List F)) (cs : List F) {W : Nat} (hW : W ≤ 40) (ha : a.length = W) (h : ∀ r ∈ rs, r.length = W) :
    (List.zip (emss rs) (ems cs)).foldl (fun acc p => addScaled acc p.1 p.2) (ems a) = ems (foldC a rs cs) := by
  induction rs generalizing a cs with
  | nil => cases cs <;> rfl
  | cons r rs ih =>
    cases cs with
    | nil => rfl
    | cons c cs =>
      have hr := h r (by simp)
      show (List.zip (emss rs) (ems cs)).foldl (fun acc p => addScaled acc p.1 p.2) (addScaled (ems a) (ems r) (em c)) = ems (foldC (macF a r c) rs cs)
      rw [addScaled_ems (ha.trans hr.symm) (ha ▸ hW)]
      exact ih (macF a r c) cs ((macF_len (ha.trans hr.symm)).trans ha) fun q hq => h q (by simp [hq])
theorem combs_ems (rs : List (List F)) (cs : List F) {W : Nat} (hW : W ≤ 40) (h : ∀ r ∈ rs, r.length = W) : combs W (emss rs) (ems cs) = ems (foldC (List.replicate W 0) rs cs) := by
  have h0 : List.replicate W (0 : Int) = ems (List.replicate W 0) := by simp [ems, em]
  unfold combs
  rw [h0]
  exact combs_fold _ rs cs hW (by simp) h
theorem okRows_ems {W : Nat} {xss : List (List Int)} (h : okRows W xss = true) : ∃ rs : List (List F), emss rs = xss ∧ (∀ r ∈ rs, r.length = W) := by
  induction xss with
  | nil => exact ⟨[], rfl, by simp⟩
  | cons xs xss ih =>
    unfold okRows at h
    rw [List.all_cons, Bool.and_eq_true] at h
    obtain ⟨rs, rfl, hrs⟩ := ih h.2
    obtain ⟨h1, h2⟩ := Bool.and_eq_true _ _ ▸ h.1
    obtain ⟨r, rfl, _⟩ := of_vec h1
    refine ⟨r :: rs, rfl, fun q hq => ?_⟩
    rcases List.mem_cons.1 hq with rfl | hq
    · rw [ems_len] at h2; simpa using h2
    · exact hrs q hq
/-- Combine of rows of one width. -/
theorem combine_ems {rs : List (List F)} {cs : List F} {W : Nat} (h0 : rs ≠ []) (hW : W ≤ 40) (h : ∀ r ∈ rs, r.length = W) (hl : rs.length = cs.length) (hc : cs.length ≤ 40) :
    combine (emss rs) (ems cs) = ems (foldC (List.replicate W 0) rs cs) := by
  cases rs with
  | nil => exact absurd rfl h0
  | cons r rs =>
    have hr := h r (by simp)
    have hok : okRows W (emss (r :: rs)) = true := by
      refine List.all_eq_true.2 fun q hq => ?_
      obtain ⟨p, hp, rfl⟩ := List.mem_map.1 hq
      have := h p hp
      rw [isVec_ems (by omega), ems_len, this]; simp
    have e1 : combine (emss (r :: rs)) (ems cs) = bif (((emss (r :: rs)).length == (ems cs).length) && isVec (ems cs)) && okRows (ems r).length (emss (r :: rs)) then combs (ems r).length (emss (r :: rs)) (ems cs) else [] := rfl
    rw [e1, ems_len, ems_len, hr, hok, isVec_ems hc]
    have e2 : (emss (r :: rs)).length = cs.length := by rw [← hl]; simp [emss]
    rw [e2]
    simp only [BEq.rfl, Bool.and_self, cond_true]
    exact combs_ems _ cs hW h
/-- What the law on combinations asks: where the combination is not empty. -/
theorem comb_facts {xss : List (List Int)} {cs ds : List Int} (hne : combine xss cs ≠ []) (hd : ∀ y ∈ ds, isEl y = true) (hl : ds.length = cs.length) :
    (∀ (k : Nat) (xs : List Int), xss[k]? = some xs → combine xss (unit xss.length k) = xs) ∧ addScaled (combine xss cs) (combine xss ds) 1 = combine xss (addScaled cs ds 1) ∧ scale (combine xss cs) 7 = combine xss (scale cs 7) := by
  have hlen : xss.length = cs.length := Classical.byContradiction fun h => hne (combine_len h)
  have hv : isVec cs = true := by
    cases h : isVec cs
    · exact absurd (combine_cs h) hne
    · rfl
  cases xss with
  | nil => exact absurd rfl hne
  | cons x0 r0 =>
    have hok : okRows x0.length (x0 :: r0) = true := by
      cases h : okRows x0.length (x0 :: r0)
      · exfalso
        apply hne
        unfold combine; simp only [h, Bool.and_false]; rfl
      · rfl
    have hW : x0.length ≤ 40 := by
      unfold okRows at hok
      rw [List.all_cons, Bool.and_eq_true, Bool.and_eq_true] at hok
      exact (isVec_iff.1 hok.1.1).2
    obtain ⟨rs, hrs, hw⟩ := okRows_ems hok
    obtain ⟨c, rfl, hc⟩ := of_vec hv
    obtain ⟨d, rfl⟩ := all_ems hd
    generalize x0.length = W at *
    rw [← hrs] at hlen ⊢
    have hrs0 : rs ≠ [] := by rintro rfl; simp [emss] at hrs
    have hrl : rs.length = c.length := by rw [ems_len] at hlen; simpa [emss] using hlen
    rw [ems_len, ems_len] at hl
    have hel : (emss rs).length = rs.length := by simp [emss]
    refine ⟨fun k xs hk => ?_, ?_, ?_⟩
    · have hk1 : k < rs.length := by rw [← hel]; exact (List.getElem?_eq_some_iff.1 hk).1
      obtain ⟨q, hq, rfl⟩ : ∃ q, rs[k]? = some q ∧ ems q = xs := by
        unfold emss at hk; rw [List.getElem?_map] at hk
        exact Option.map_eq_some_iff.1 hk
      have hu : unit (emss rs).length k = ems (unitsF rs.length k) := by
        unfold unit
        have h1 : ((decide ((0 : Int) ≤ ((emss rs).length : Nat)) && decide ((((emss rs).length : Nat) : Int) ≤ 40)) && (decide ((0 : Int) ≤ (k : Int)) && decide ((k : Int) ≤ (((emss rs).length : Nat) : Int) - 1))) = true := by simp; omega
        rw [h1, hel, Int.toNat_natCast, units_ems]; rfl
      have hqW := hw q (List.mem_of_getElem? hq)
      rw [hu, combine_ems hrs0 hW hw (by simp [unitsF]) (by simp [unitsF]; omega), foldC_unit (by simp) hw hq, zeros_mac hqW]
    · rw [show (1 : Int) = em 1 from rfl, addScaled_ems hl.symm hc, combine_ems hrs0 hW hw hrl hc, combine_ems hrs0 hW hw (hrl.trans hl.symm) (by omega),
        addScaled_ems (by rw [foldC_len (W := W) (by simp) hw, foldC_len (W := W) (by simp) hw]) (by rw [foldC_len (W := W) (by simp) hw]; exact hW),
        combine_ems hrs0 hW hw (hrl.trans (macF_len hl.symm).symm) (by rw [macF_len hl.symm]; exact hc), ← foldC_add (W := W) (by simp) (by simp) hw hl.symm]
      rw [zeros_mac (by simp)]
    · rw [show (7 : Int) = em 7 from rfl, scale_ems hc, combine_ems hrs0 hW hw hrl hc, combine_ems hrs0 hW hw (by simpa using hrl) (by simpa using hc), scale_ems (by rw [foldC_len (W := W) (by simp) hw]; exact hW), ← foldC_scale]
      congr 2
      rw [List.map_replicate]; congr 1
theorem combine_le40 (xss : List (List Int)) (cs : List Int) : (combine xss cs).length ≤ 40 := by
  by_cases hne : combine xss cs = []
  · rw [hne]; exact Nat.zero_le _
  · cases xss with
    | nil => exact Nat.zero_le _
    | cons x r =>
      have hlen : (x :: r).length = cs.length := Classical.byContradiction fun h => hne (combine_len h)
      have hv : isVec cs = true := by
        cases h : isVec cs
        · exact absurd (combine_cs h) hne
        · rfl
      have hok : okRows x.length (x :: r) = true := by
        cases h : okRows x.length (x :: r)
        · exfalso
          apply hne
          unfold combine; simp only [h, Bool.and_false]; rfl
        · rfl
      obtain ⟨rs, hrs, hw⟩ := okRows_ems hok
      obtain ⟨c, rfl, hc⟩ := of_vec hv
      have hW : x.length ≤ 40 := by
        unfold okRows at hok
        rw [List.all_cons, Bool.and_eq_true, Bool.and_eq_true] at hok
        exact (isVec_iff.1 hok.1.1).2
      rw [← hrs, combine_ems (by rintro rfl; simp [emss] at hrs) hW hw (by rw [← hrs, ems_len] at hlen; simpa [emss] using hlen) hc, ems_len, foldC_len (W := x.length) (by simp) hw]
      exact hW
end Go.Proofs.Ytlgmiojlpnoiaaa.Vec
namespace Go.Proofs.Ytlgmiojlpnoiaaa.Mat
open Go.Proofs.Ytlgmiojlpnoiaaa.Field Go.Proofs.Ytlgmiojlpnoiaaa.Vec

def colsOf (m : List (List Int)) : Nat := match m with | [] => 0 | xs :: _ => xs.length
def isMat (m : List (List Int)) : Bool := okRows (colsOf m) m && decide (m.length ≤ 40)
def identity (n : Int) : List (List Int) := bif decide (n ≤ 40) then (List.range n.toNat).map fun (i : Nat) => unit n i else []
def column (m : List (List Int)) (k : Nat) : List Int := m.map fun xs => xs[k]?.getD 0
def transpose (m : List (List Int)) : List (List Int) := bif isMat m then (List.range (colsOf m)).map (column m) else []
/-- A row times a matrix: the sum of its rows, each times the component. -/
def rowMul (xs : List Int) (b : List (List Int)) : List Int := combs (colsOf b) b xs
def mulMat (a b : List (List Int)) : List (List Int) := bif (isMat a && isMat b) && (colsOf a == b.length) then a.map fun xs => rowMul xs b else []
def mulVec (m : List (List Int)) (v : List Int) : List Int := bif (isMat m && isVec v) && (v.length == colsOf m) then m.map fun xs => dot xs v else []
def vander (ps : List Int) (c : Int) : List (List Int) := bif isVec ps && (decide (0 ≤ c) && decide (c ≤ 40)) then ps.map fun x => (List.range c.toNat).map fun (k : Nat) => Field.pow x k else []

theorem colsOf_get {m : List (List Int)} {xs : List Int} (h : m[0]? = some xs) : colsOf m = xs.length := by
  cases m with
  | nil => simp at h
  | cons x r =>
    obtain rfl : x = xs := by simpa using h
    rfl
theorem isMat_row {m : List (List Int)} {xs ys : List Int} {j : Nat} (h0 : m[0]? = some xs) (hj : m[j]? = some ys) (h : (isVec ys && (ys.length == xs.length)) = false) : isMat m = false := by
  have h1 : okRows (colsOf m) m = false := by
    unfold okRows
    rw [List.all_eq_false]; exact ⟨ys, List.mem_of_getElem? hj, by rw [colsOf_get h0, h]; simp⟩
  unfold isMat; rw [h1]; rfl
theorem isMat_all {m : List (List Int)} {n c : Nat} (hl : m.length = n) (hc : colsOf m = c) (h : ∀ y ∈ m.take n, (isVec y && (y.length == c)) = true) : isMat m = decide ((n : Int) ≤ 40) := by
  rw [List.take_of_length_le (Nat.le_of_eq hl)] at h
  have h1 : okRows (colsOf m) m = true := List.all_eq_true.2 (by rw [hc]; exact h)
  unfold isMat
  rw [h1, hl, Bool.true_and]; congr 1; simp; omega
theorem isMat_iff {m : List (List Int)} : isMat m = true ↔ (∀ xs ∈ m, isVec xs = true ∧ xs.length = colsOf m) ∧ m.length ≤ 40 := by
  unfold isMat okRows; simp
theorem isMat_at {m : List (List Int)} {xs : List Int} {j : Nat} (h : isMat m = true) (hx : m[j]? = some xs) : isVec xs = true ∧ xs.length = colsOf m := (isMat_iff.1 h).1 xs (List.mem_of_getElem? hx)
theorem mulVec_no {m : List (List Int)} {v : List Int} (h : ((isMat m && isVec v) && (v.length == colsOf m)) = false) : mulVec m v = [] := by unfold mulVec; rw [h]; rfl
theorem mulVec_ok {m : List (List Int)} {v : List Int} (h : ((isMat m && isVec v) && (v.length == colsOf m)) = true) : mulVec m v = m.map fun xs => dot xs v := by unfold mulVec; rw [h]; rfl
theorem map_more {α β : Type} {m : List α} {f : α → β} {x : α} {j : Nat} (h : m[j]? = some x) : (m.take (j + 1)).map f = (m.take j).map f ++ [f x] := by
  rw [take_more h, List.map_append]; rfl
theorem dot_in (xs ys : List Int) : 0 ≤ dot xs ys ∧ dot xs ys ≤ 1018 := by
  unfold dot
  cases (isVec xs && isVec ys) && (xs.length == ys.length)
  · exact ⟨Int.le_refl 0, show (0 : Int) ≤ 1018 by decide⟩
  · exact dots_in _ _
theorem range_map_more {β : Type} {f : Nat → β} {k j : Nat} (h : j < k) : ((List.range k).take (j + 1)).map f = ((List.range k).take j).map f ++ [f j] := map_more (by simp [h])
theorem range_map_full {β : Type} {f : Nat → β} {k : Nat} : ((List.range k).take k).map f = (List.range k).map f := by rw [List.take_of_length_le (by simp)]
theorem identity_is (n : Int) : ∃ k : Nat, k ≤ 40 ∧ identity n = (List.range k).map (fun (i : Nat) => unit n i) ∧ ((n ≤ 40 ∧ (k : Int) = n) ∨ (n < 0 ∧ k = 0) ∨ (40 < n ∧ k = 0)) := by
  unfold identity
  by_cases h : n ≤ 40
  · refine ⟨n.toNat, by omega, by simp [h], ?_⟩
    omega
  · exact ⟨0, by omega, by simp [h], by omega⟩
theorem vander_no {ps : List Int} {c : Int} (h : (isVec ps && (decide (0 ≤ c) && decide (c ≤ 40))) = false) : vander ps c = [] := by unfold vander; rw [h]; rfl
theorem vander_ok {ps : List Int} {c : Int} (h : (isVec ps && (decide (0 ≤ c) && decide (c ≤ 40))) = true) : vander ps c = ps.map fun x => (List.range c.toNat).map fun (k : Nat) => Field.pow x k := by unfold vander; rw [h]; rfl
theorem transpose_no {m : List (List Int)} (h : isMat m = false) : transpose m = [] := by unfold transpose; rw [h]; rfl
theorem transpose_ok {m : List (List Int)} (h : isMat m = true) : transpose m = (List.range (colsOf m)).map (column m) := by unfold transpose; rw [h]; rfl
theorem colsOf_le {m : List (List Int)} (h : isMat m = true) : colsOf m ≤ 40 := by
  cases m with
  | nil => exact Nat.zero_le _
  | cons x r =>
    have := (isMat_iff.1 h).1 x (List.mem_cons_self)
    rw [← this.2]; exact (isVec_iff.1 this.1).2
/-- A row of a matrix at a column. -/
theorem isMat_in {m : List (List Int)} {xs : List Int} {i k : Nat} (h : isMat m = true) (hx : m[i]? = some xs) (hk : k < colsOf m) : ∃ x, xs[k]? = some x ∧ 0 ≤ x ∧ x ≤ 1018 := by
  obtain ⟨h1, h2⟩ := isMat_at h hx
  have h3 : k < xs.length := by rw [h2]; exact hk
  exact ⟨xs[k], List.getElem?_eq_getElem h3, vec_el h1 (List.getElem?_eq_getElem h3)⟩
theorem mulMat_no {a b : List (List Int)} (h : ((isMat a && isMat b) && (colsOf a == b.length)) = false) : mulMat a b = [] := by unfold mulMat; rw [h]; rfl
theorem mulMat_ok {a b : List (List Int)} (h : ((isMat a && isMat b) && (colsOf a == b.length)) = true) : mulMat a b = a.map fun xs => rowMul xs b := by unfold mulMat; rw [h]; rfl
end Go.Proofs.Ytlgmiojlpnoiaaa.Mat
namespace Go.Proofs.Ytlgmiojlpnoiaaa.Uv
open Go.RowKit
open Go.Proofs.Ytlgmiojlpnoiaaa.Seq

/-- The varint of a number. -/
def uv (n : Nat) : List Int := if h : n < 128 then [(n : Int)] else ((n % 128 + 128 : Nat) : Int) :: uv (n / 128)
termination_by n
decreasing_by omega
theorem uv_small {n : Nat} (h : n < 128) : uv n = [(n : Int)] := by rw [uv, dif_pos h]
theorem uv_big {n : Nat} (h : ¬ n < 128) : uv n = ((n % 128 + 128 : Nat) : Int) :: uv (n / 128) := by rw [uv, dif_neg h]

theorem uv_fits : ∀ (n : Nat), ∀ x ∈ uv n, Fits .u8 x := by
  intro n
  induction n using Nat.strongRecOn with
  | _ n ih =>
    intro x hx
    rw [fits_u8]
    by_cases h : n < 128
    · rw [uv_small h] at hx
      obtain rfl : x = n := by simpa using hx
      omega
    · rw [uv_big h] at hx
      rcases List.mem_cons.1 hx with rfl | hx
      · omega
      · exact fits_u8.1 (ih _ (by omega) x hx)
theorem uv_len : ∀ (k n : Nat), n < 128 ^ (k + 1) → (uv n).length ≤ k + 1 := by
  intro k
  induction k with
  | zero =>
    intro n hn
    rw [uv_small (by simpa using hn)]; simp
  | succ k ih =>
    intro n hn
    by_cases h : n < 128
    · rw [uv_small h]; simp
    · rw [uv_big h]
      have := ih (n / 128) (by rw [Nat.div_lt_iff_lt_mul (by decide)]; rw [Nat.pow_succ] at hn; omega)
      simp only [List.length_cons]; omega
theorem uv_len6 {n : Nat} (h : n ≤ 1000000000000) : (uv n).length ≤ 6 := uv_len 5 n (by omega)
theorem uv_pos (n : Nat) : 1 ≤ (uv n).length := by
  by_cases h : n < 128
  · rw [uv_small h]; simp
  · rw [uv_big h]; simp

/-- What 'AppendUvarint' answers. -/
def app (xs : List Int) (n : Int) : List Int := if 0 ≤ n ∧ n ≤ 1000000000000 then xs ++ uv n.toNat else xs
theorem app_in {xs : List Int} {n : Nat} (h : n ≤ 1000000000000) : app xs n = xs ++ uv n := by
  rw [app, if_pos (by omega)]; rfl
theorem app_out {xs : List Int} {n : Int} (h : ¬ (0 ≤ n ∧ n ≤ 1000000000000)) : app xs n = xs := by rw [app, if_neg h]
theorem app_fits {xs : List Int} (n : Int) (h : ∀ x ∈ xs, Fits .u8 x) : ∀ x ∈ app xs n, Fits .u8 x := by
  intro x hx
  unfold app at hx
  split at hx
  · rcases List.mem_append.1 hx with hx | hx
    · exact h x hx
    · exact uv_fits _ x hx
  · exact h x hx
theorem app_len (xs : List Int) (n : Int) : xs.length ≤ (app xs n).length ∧ (app xs n).length ≤ xs.length + 6 := by
  unfold app
  split
  · rw [List.length_append]
    have := uv_len6 (n := n.toNat) (by omega)
    omega
  · omega

/-- One round of the loop: what is laid, and what is left. -/
theorem round {pre : List Int} {m n : Nat} (h : pre ++ uv m = uv n) (hm : ¬ m < 128) : (pre ++ [((m % 128 + 128 : Nat) : Int)]) ++ uv (m / 128) = uv n := by
  rw [← h, uv_big hm, List.append_assoc]; rfl
theorem last {pre : List Int} {m n : Nat} (h : pre ++ uv m = uv n) (hm : m < 128) : pre ++ [(m : Int)] = uv n := by rw [← h, uv_small hm]
end Go.Proofs.Ytlgmiojlpnoiaaa.Uv
namespace Go.Proofs.Ytlgmiojlpnoiaaa.Rd
open Go.RowKit
open Go.Proofs.Ytlgmiojlpnoiaaa.Seq Go.Proofs.Ytlgmiojlpnoiaaa.Uv

/-- The rounds that are left, what is gathered, how many bytes are read. -/
def rd (xs : List Int) (p : Nat) : Nat → Int → Nat → Option (Int × Nat)
  | 0, _, _ => none
  | f + 1, acc, k =>
    match xs[p + k]? with
    | none => none
    | some x => if x < 128 then (if (x = 0 ∧ 0 < k) ∨ 1000000000000 < acc + x * 128 ^ k then none else some (acc + x * 128 ^ k, p + k + 1)) else rd xs p f (acc + x % 128 * 128 ^ k) (k + 1)

/-- What 'ReadUvarint' answers. -/
def rdv (xs : List Int) (i : Int) : Int × Int × Bool :=
  if i < 0 then (0, 0, false) else match rd xs i.toNat 6 0 0 with
    | none => (0, 0, false)
    | some (n, q) => (n, (q : Int), true)

theorem rd_none {xs : List Int} {p f k : Nat} {acc : Int} (h : xs[p + k]? = none) : rd xs p f acc k = none := by
  cases f with
  | zero => rfl
  | succ f => rw [rd, h]
theorem rd_more {xs : List Int} {p f k : Nat} {acc x : Int} (h : xs[p + k]? = some x) (hx : ¬ x < 128) : rd xs p (f + 1) acc k = rd xs p f (acc + x % 128 * 128 ^ k) (k + 1) := by
  rw [rd, h]; simp only [if_neg hx]
theorem rd_last {xs : List Int} {p f k : Nat} {acc x : Int} (h : xs[p + k]? = some x) (hx : x < 128) (h1 : ¬ ((x = 0 ∧ 0 < k) ∨ 1000000000000 < acc + x * 128 ^ k)) : rd xs p (f + 1) acc k = some (acc + x * 128 ^ k, p + k + 1) := by
  rw [rd, h]; simp only [if_pos hx, if_neg h1]
theorem rd_bad {xs : List Int} {p f k : Nat} {acc x : Int} (h : xs[p + k]? = some x) (hx : x < 128) (h1 : (x = 0 ∧ 0 < k) ∨ 1000000000000 < acc + x * 128 ^ k) : rd xs p (f + 1) acc k = none := by
  rw [rd, h]; simp only [if_pos hx, if_pos h1]
theorem read_neg {xs : List Int} {i : Int} (h : i < 0) : rdv xs i = (0, 0, false) := by rw [rdv, if_pos h]
theorem read_none {xs : List Int} {p : Nat} (h : rd xs p 6 0 0 = none) : rdv xs p = (0, 0, false) := by
  rw [rdv, if_neg (by omega), Int.toNat_natCast, h]
theorem read_some {xs : List Int} {p q : Nat} {n : Int} (h : rd xs p 6 0 0 = some (n, q)) : rdv xs p = (n, (q : Int), true) := by
  rw [rdv, if_neg (by omega), Int.toNat_natCast, h]
end Go.Proofs.Ytlgmiojlpnoiaaa.Rd
namespace Go.Proofs.Ytlgmiojlpnoiaaa.Enc
open Go.RowKit
open Go.Proofs.Ytlgmiojlpnoiaaa.Seq Go.Proofs.Ytlgmiojlpnoiaaa.Uv Go.Proofs.Ytlgmiojlpnoiaaa.Rd

theorem rd_ok {xs : List Int} {p : Nat} (hf : ∀ x ∈ xs, Fits .u8 x) : ∀ (f : Nat) (acc : Int) (k : Nat) (n : Int) (q : Nat), 0 ≤ acc → rd xs p f acc k = some (n, q) → 0 ≤ n ∧ n ≤ 1000000000000 ∧ p < q ∧ q ≤ xs.length := by
  intro f
  induction f with
  | zero => intro acc k n q _ h; cases h
  | succ f ih =>
    intro acc k n q h0 h
    cases hx : xs[p + k]? with
    | none => rw [rd_none hx] at h; cases h
    | some x =>
      have hl := (List.getElem?_eq_some_iff.1 hx).1
      have hm : x ∈ xs := List.mem_of_getElem? hx
      have hb := fits_u8.1 (hf x hm)
      have hp : (0 : Int) < 128 ^ k := Int.pow_pos (by decide)
      by_cases h128 : x < 128
      · by_cases h1 : (x = 0 ∧ 0 < k) ∨ 1000000000000 < acc + x * 128 ^ k
        · rw [rd_bad hx h128 h1] at h; cases h
        · rw [rd_last hx h128 h1] at h
          have e := Option.some.inj h
          have e1 : acc + x * 128 ^ k = n := congrArg Prod.fst e
          have e2 : p + k + 1 = q := congrArg Prod.snd e
          have := Int.mul_nonneg hb.1 (Int.le_of_lt hp)
          refine ⟨by omega, by omega, by omega, by omega⟩
      · rw [rd_more hx h128] at h
        exact ih _ _ n q (Int.add_nonneg h0 (Int.mul_nonneg (by omega) (Int.le_of_lt hp))) h

theorem read_ok {xs : List Int} {i m q : Int} (hf : ∀ x ∈ xs, Fits .u8 x) (h : rdv xs i = (m, q, true)) : ∃ p m' q' : Nat, i = p ∧ m = m' ∧ q = q' ∧ m' ≤ 1000000000000 ∧ p < q' ∧ q' ≤ xs.length := by
  unfold rdv at h
  by_cases h0 : i < 0
  · rw [if_pos h0] at h; cases h
  · rw [if_neg h0] at h
    cases hr : rd xs i.toNat 6 0 0 with
    | none => rw [hr] at h; cases h
    | some r =>
      obtain ⟨a, b⟩ := r
      rw [hr] at h
      have e1 : a = m := congrArg Prod.fst h
      have e2 : (b : Int) = q := congrArg (fun z => z.2.1) h
      obtain ⟨g1, g2, g3, g4⟩ := rd_ok hf 6 0 0 a b (by omega) hr
      exact ⟨i.toNat, m.toNat, b, by omega, by omega, e2.symm, by omega, g3, g4⟩
theorem read_no {xs : List Int} {i m q : Int} (h : rdv xs i = (m, q, false)) : m = 0 ∧ q = 0 := by
  unfold rdv at h
  by_cases h0 : i < 0
  · rw [if_pos h0] at h
    exact ⟨(congrArg Prod.fst h).symm, (congrArg (fun z => z.2.1) h).symm⟩
  · rw [if_neg h0] at h
    cases hr : rd xs i.toNat 6 0 0 with
    | none =>
      rw [hr] at h
      exact ⟨(congrArg Prod.fst h).symm, (congrArg (fun z => z.2.1) h).symm⟩
    | some r => obtain ⟨a, b⟩ := r; rw [hr] at h; have := congrArg (fun z => z.2.2) h; cases this

/-- What 'AppendBytes' answers. -/
def apb (xs ys : List Int) : List Int := app xs (ys.length : Int) ++ ys
theorem apb_len (xs ys : List Int) : (apb xs ys).length ≤ xs.length + 6 + ys.length := by
  have := app_len xs ys.length
  unfold apb; rw [List.length_append]; omega

/-- What 'ReadBytes' answers. -/
def rdb (xs : List Int) (i most : Int) : List Int × Int × Bool :=
  match rdv xs i with
  | (m, q, true) => if m ≤ most ∧ m ≤ (xs.length : Int) - q then ((xs.drop q.toNat).take m.toNat, q + m, true) else ([], 0, false)
  | (_, _, false) => ([], 0, false)
theorem rdb_no {xs : List Int} {i most m q : Int} (h : rdv xs i = (m, q, false)) : rdb xs i most = ([], 0, false) := by rw [rdb, h]
theorem rdb_big {xs : List Int} {i most m q : Int} (h : rdv xs i = (m, q, true)) (h1 : ¬ (m ≤ most ∧ m ≤ (xs.length : Int) - q)) : rdb xs i most = ([], 0, false) := by rw [rdb, h]; simp only [if_neg h1]
theorem rdb_yes {xs : List Int} {i most : Int} {m q : Nat} (h : rdv xs i = ((m : Int), (q : Int), true)) (h1 : (m : Int) ≤ most) (h2 : (m : Int) ≤ (xs.length : Int) - q) : rdb xs i most = ((xs.drop q).take m, (q : Int) + m, true) := by
  rw [rdb, h]; simp only [if_pos (And.intro h1 h2), Int.toNat_natCast]
theorem rdb_len (xs : List Int) (i most : Int) : (rdb xs i most).1.length ≤ xs.length := by
  unfold rdb
  split
  · split
    · simp only [List.length_take, List.length_drop]; omega
    · simp
  · simp

/-- What 'EncodeInts' answers. -/
def enc (vs : List Int) : List Int := vs.foldl app []
theorem enc_snoc (vs : List Int) (v : Int) : enc (vs ++ [v]) = app (enc vs) v := by simp [enc]
theorem enc_len : ∀ vs : List Int, (enc vs).length ≤ 6 * vs.length := by
  intro vs
  have h : ∀ (us : List Int) (acc : List Int), (us.foldl app acc).length ≤ acc.length + 6 * us.length := by
    intro us
    induction us with
    | nil => intro acc; simp
    | cons u us ih =>
      intro acc
      have := ih (app acc u)
      have := app_len acc u
      simp only [List.foldl_cons, List.length_cons]; omega
  have := h vs []
  simp only [List.length_nil] at this
  unfold enc; omega
theorem take_snoc {xs : List Int} {k : Nat} {x : Int} (h : xs[k]? = some x) : xs.take (k + 1) = xs.take k ++ [x] := by
  obtain ⟨hl, rfl⟩ := List.getElem?_eq_some_iff.1 h
  exact List.take_succ_eq_append_getElem hl

/-- What 'DecodeInts' answers: so many more, from there on, behind what is rdv. -/
def decGo (xs : List Int) : Nat → Int → List Int → List Int × Int × Bool
  | 0, i, acc => (acc, i, true)
  | f + 1, i, acc => match rdv xs i with
    | (m, q, true) => decGo xs f q (acc ++ [m])
    | (_, _, false) => ([], 0, false)
def dec (xs : List Int) (i c : Int) : List Int × Int × Bool := if (0 ≤ c ∧ c ≤ 100) ∧ (0 ≤ i ∧ i ≤ xs.length) then decGo xs c.toNat i [] else ([], 0, false)
theorem decGo_yes {xs : List Int} {f : Nat} {i m q : Int} {acc : List Int} (h : rdv xs i = (m, q, true)) : decGo xs (f + 1) i acc = decGo xs f q (acc ++ [m]) := by rw [decGo, h]
theorem decGo_no {xs : List Int} {f : Nat} {i m q : Int} {acc : List Int} (h : rdv xs i = (m, q, false)) : decGo xs (f + 1) i acc = ([], 0, false) := by rw [decGo, h]
theorem dec_out {xs : List Int} {i c : Int} (h : ¬ ((0 ≤ c ∧ c ≤ 100) ∧ (0 ≤ i ∧ i ≤ xs.length))) : dec xs i c = ([], 0, false) := by rw [dec, if_neg h]
theorem dec_in {xs : List Int} {i c : Nat} (h1 : c ≤ 100) (h2 : i ≤ xs.length) : dec xs i c = decGo xs c i [] := by
  rw [dec, if_pos ⟨⟨by omega, by omega⟩, by omega, by omega⟩, Int.toNat_natCast]
theorem decGo_len (xs : List Int) : ∀ (f : Nat) (i : Int) (acc : List Int), (decGo xs f i acc).1.length ≤ acc.length + f := by
  intro f
  induction f with
  | zero => intro i acc; simp [decGo]
  | succ f ih =>
    intro i acc
    obtain ⟨⟨m, q, b⟩, h⟩ : ∃ r : Int × Int × Bool, r = rdv xs i := ⟨_, rfl⟩
    cases b
    · rw [decGo_no h.symm]; simp
    · rw [decGo_yes h.symm]
      have := ih q (acc ++ [m])
      rw [List.length_append] at this
      simp at this; omega
theorem dec_len (xs : List Int) (i c : Int) : (dec xs i c).1.length ≤ 100 := by
  unfold dec
  split
  · have := decGo_len xs c.toNat i []
    simp at this; omega
  · simp
end Go.Proofs.Ytlgmiojlpnoiaaa.Enc
namespace Go.Proofs.Ytlgmiojlpnoiaaa.UvR
open Go.RowKit
open Go.Proofs.Ytlgmiojlpnoiaaa.Seq Go.Proofs.Ytlgmiojlpnoiaaa.Uv Go.Proofs.Ytlgmiojlpnoiaaa.Rd Go.Proofs.Ytlgmiojlpnoiaaa.Enc

theorem get_drop {xs ys : List Int} {p : Nat} {x : Int} (h : xs.drop p = x :: ys) : xs[p]? = some x ∧ xs.drop (p + 1) = ys := by
  constructor
  · have := congrArg (fun l => l[0]?) h
    simpa using this
  · rw [← List.drop_drop, h]; rfl

/-- A varint that lies there is read. -/
theorem rd_uv (ys rest : List Int) (p : Nat) : ∀ (m : Nat) (f k : Nat) (acc : Int), 0 ≤ acc → (0 < k → 0 < m) → acc + m * 128 ^ k ≤ 1000000000000 → (uv m).length ≤ f → ys.drop (p + k) = uv m ++ rest → rd ys p f acc k = some (acc + m * 128 ^ k, p + k + (uv m).length) := by
  intro m
  induction m using Nat.strongRecOn with
  | _ m ih =>
    intro f k acc h0 hk hmax hf hd
    have hu := uv_pos m
    obtain ⟨f, rfl⟩ : ∃ g, f = g + 1 := ⟨f - 1, by omega⟩
    by_cases h : m < 128
    · rw [uv_small h] at hd ⊢
      obtain ⟨g1, _⟩ := get_drop hd
      rw [rd_last g1 (by omega) (by
        rintro (⟨h1, h2⟩ | h1)
        · have := hk h2; omega
        · omega)]
      rfl
    · rw [uv_big h] at hd hf ⊢
      obtain ⟨g1, g2⟩ := get_drop hd
      rw [List.length_cons] at hf
      have hp : (128 : Int) ^ (k + 1) = 128 ^ k * 128 := Int.pow_succ ..
      have hm : (m : Int) = 128 * ((m / 128 : Nat) : Int) + ((m % 128 : Nat) : Int) := by omega
      have he : acc + ((m % 128 + 128 : Nat) : Int) % 128 * 128 ^ k + ((m / 128 : Nat) : Int) * 128 ^ (k + 1) = acc + m * 128 ^ k := by
        have e1 : ((m % 128 + 128 : Nat) : Int) % 128 = ((m % 128 : Nat) : Int) := by omega
        rw [e1, hp]
        conv => rhs; rw [hm]
        rw [Int.add_mul, Int.mul_comm (128 ^ k) 128, ← Int.mul_assoc, Int.mul_comm ((m / 128 : Nat) : Int) 128]
        omega
      have hp0 : (0 : Int) ≤ 128 ^ k := Int.le_of_lt (Int.pow_pos (by decide))
      have h1 := Int.mul_nonneg (show (0 : Int) ≤ ((m % 128 + 128 : Nat) : Int) % 128 by omega) hp0
      rw [rd_more g1 (by omega), ih (m / 128) (by omega) f (k + 1) _ (by omega) (by omega) (by omega) (by omega) (by rw [← Nat.add_assoc]; exact g2)]
      rw [he, List.length_cons]
      congr 2
      omega

theorem rdv_uv {ys rest : List Int} {p m : Nat} (hm : m ≤ 1000000000000) (hd : ys.drop p = uv m ++ rest) : rdv ys p = ((m : Int), ((p + (uv m).length : Nat) : Int), true) := by
  have h := rd_uv ys rest p m 6 0 0 (by omega) (by omega) (by omega) (uv_len6 hm) (by simpa using hd)
  have e : (0 : Int) + m * 128 ^ 0 = m := by omega
  rw [e, Nat.add_zero] at h
  exact read_some h

/-- What is read is the varint that lies there. -/
theorem uv_rd {ys : List Int} {p : Nat} (hf : ∀ x ∈ ys, Fits .u8 x) : ∀ (f k : Nat) (acc n : Int) (q : Nat), rd ys p f acc k = some (n, q) →
    ∃ m : Nat, n = acc + m * 128 ^ k ∧ (0 < k → 0 < m) ∧ p + k + (uv m).length = q ∧ ((ys.drop (p + k)).take (uv m).length = uv m) := by
  intro f
  induction f with
  | zero => intro k acc n q h; cases h
  | succ f ih =>
    intro k acc n q h
    cases hx : ys[p + k]? with
    | none => rw [rd_none hx] at h; cases h
    | some x =>
      have hb := fits_u8.1 (hf x (List.mem_of_getElem? hx))
      obtain ⟨hl, hxe⟩ := List.getElem?_eq_some_iff.1 hx
      have hd : ys.drop (p + k) = x :: ys.drop (p + k + 1) := by rw [List.drop_eq_getElem_cons hl, hxe]
      by_cases h128 : x < 128
      · by_cases h1 : (x = 0 ∧ 0 < k) ∨ 1000000000000 < acc + x * 128 ^ k
        · rw [rd_bad hx h128 h1] at h; cases h
        · rw [rd_last hx h128 h1] at h
          have e := Option.some.inj h
          have e1 : acc + x * 128 ^ k = n := congrArg Prod.fst e
          have e2 : p + k + 1 = q := congrArg Prod.snd e
          refine ⟨x.toNat, ?_, fun hk => ?_, ?_, ?_⟩
          · rw [← e1, Int.toNat_of_nonneg hb.1]
          · have : ¬ x = 0 := fun h => h1 (.inl ⟨h, hk⟩)
            omega
          · rw [uv_small (by omega)]; exact e2
          · rw [uv_small (by omega), hd]
            simp only [List.length_singleton, List.take_succ_cons, List.take_zero]
            congr 1
            omega
      · rw [rd_more hx h128] at h
        obtain ⟨m, g1, g2, g3, g4⟩ := ih (k + 1) _ n q h
        have hm := g2 (by omega)
        have hM : ¬ (x - 128).toNat + 128 * m < 128 := by omega
        have e1 : ((x - 128).toNat + 128 * m) % 128 = (x - 128).toNat := by omega
        have e2 : ((x - 128).toNat + 128 * m) / 128 = m := by omega
        refine ⟨(x - 128).toNat + 128 * m, ?_, fun _ => by omega, ?_, ?_⟩
        · rw [g1, show x % 128 = x - 128 by omega, Int.pow_succ, Int.natCast_add, Int.toNat_of_nonneg (by omega), Int.add_mul, Int.natCast_mul, Int.mul_comm (128 ^ k) 128, ← Int.mul_assoc, Int.mul_comm (m : Int) 128]
          have : ((128 : Nat) : Int) = 128 := rfl
          rw [this]; omega
        · rw [uv_big hM, e2, List.length_cons]; omega
        · rw [uv_big hM, e1, e2, hd, List.length_cons, List.take_succ_cons]
          rw [← Nat.add_assoc] at g4
          rw [g4]
          congr 1
          omega
theorem uv_rdv {ys : List Int} {i m q : Int} (hf : ∀ x ∈ ys, Fits .u8 x) (h : rdv ys i = (m, q, true)) :
    ∃ p m' q' : Nat, i = p ∧ m = m' ∧ q = q' ∧ m' ≤ 1000000000000 ∧ p < q' ∧ q' ≤ ys.length ∧ (ys.drop p).take (q' - p) = uv m' := by
  obtain ⟨p, m', q', rfl, rfl, rfl, g1, g2, g3⟩ := read_ok hf h
  unfold rdv at h
  rw [if_neg (by omega), Int.toNat_natCast] at h
  cases hr : rd ys p 6 0 0 with
  | none => rw [hr] at h; have := congrArg (fun z => z.2.2) h; cases this
  | some r =>
    obtain ⟨a, b⟩ := r
    rw [hr] at h
    have e1 : a = (m' : Int) := congrArg Prod.fst h
    have e2 : (b : Int) = q' := congrArg (fun z => z.2.1) h
    obtain ⟨u, k1, _, k3, k4⟩ := uv_rd hf 6 0 0 a b hr
    have e3 : a = (u : Int) := by rw [k1]; omega
    have e4 : u = m' := by omega
    subst e4
    refine ⟨p, u, q', rfl, rfl, rfl, g1, g2, g3, ?_⟩
    rw [Nat.add_zero] at k3 k4
    rw [show q' - p = (uv u).length by omega]
    exact k4
theorem rdv_end {ys : List Int} {p : Nat} (h : ys.length ≤ p) : rdv ys p = (0, 0, false) := read_none (rd_none (List.getElem?_eq_none (by omega)))

/-- Byte strings: what was appended is read. -/
theorem rdb_apb {xs ys : List Int} (hl : ys.length ≤ 1000000000000) (most : Int) (hm : (ys.length : Int) ≤ most) : rdb (apb xs ys) xs.length most = (ys, ((apb xs ys).length : Int), true) := by
  have e : apb xs ys = xs ++ (uv ys.length ++ ys) := by rw [apb, app_in hl, List.append_assoc]
  have hd : (apb xs ys).drop xs.length = uv ys.length ++ ys := by rw [e, List.drop_left]
  have hr := rdv_uv hl hd
  have hn : (apb xs ys).length = xs.length + (uv ys.length).length + ys.length := by rw [e]; simp only [List.length_append]; omega
  rw [rdb_yes hr hm (by rw [hn]; omega), hn]
  congr 1
  rw [← List.drop_drop, hd, List.drop_left, List.take_of_length_le (Nat.le_refl _)]
theorem rdb_short {xs ys : List Int} (hl : ys.length ≤ 1000000000000) (most : Int) (hm : ¬ (ys.length : Int) ≤ most) : rdb (apb xs ys) xs.length most = ([], 0, false) := by
  have e : apb xs ys = xs ++ (uv ys.length ++ ys) := by rw [apb, app_in hl, List.append_assoc]
  have hd : (apb xs ys).drop xs.length = uv ys.length ++ ys := by rw [e, List.drop_left]
  exact rdb_big (rdv_uv hl hd) (fun h => hm h.1)

/-- Lists of integers: what was encoded is decoded. -/
def uvs (vs : List Int) : List Int := (vs.map fun v => uv v.toNat).flatten
theorem enc_uvs {vs : List Int} (h : ∀ v ∈ vs, 0 ≤ v ∧ v ≤ 1000000000000) : enc vs = uvs vs := by
  have key : ∀ (us acc : List Int), (∀ v ∈ us, 0 ≤ v ∧ v ≤ 1000000000000) → us.foldl app acc = acc ++ uvs us := by
    intro us
    induction us with
    | nil => intro acc _; simp [uvs]
    | cons u us ih =>
      intro acc h
      rw [List.foldl_cons, ih _ (fun v hv => h v (by simp [hv])), app, if_pos (h u (by simp)), List.append_assoc]
      simp [uvs]
  have := key vs [] h
  simpa [enc] using this
theorem decGo_uvs (xs : List Int) : ∀ (vs : List Int) (f p : Nat) (acc rest : List Int), (∀ v ∈ vs, 0 ≤ v ∧ v ≤ 1000000000000) → xs.drop p = uvs vs ++ rest → decGo xs (vs.length + f) p acc = decGo xs f ((p + (uvs vs).length : Nat) : Int) (acc ++ vs) := by
  intro vs
  induction vs with
  | nil => intro f p acc rest _ _; simp [uvs]
  | cons v vs ih =>
    intro f p acc rest h hd
    obtain ⟨h0, h1⟩ := h v (by simp)
    obtain ⟨u, rfl⟩ : ∃ u : Nat, v = u := ⟨v.toNat, by omega⟩
    have e : uvs ((u : Int) :: vs) = uv u ++ uvs vs := by simp [uvs]
    rw [e, List.append_assoc] at hd
    have hr := rdv_uv (by omega) hd
    rw [List.length_cons, show vs.length + 1 + f = (vs.length + f) + 1 by omega, decGo_yes hr, ih f _ _ rest (fun w hw => h w (by simp [hw])) (by rw [← List.drop_drop, hd, List.drop_left]), e, List.length_append, Nat.add_assoc]
    simp
theorem dec_enc {vs : List Int} (h : ∀ v ∈ vs, 0 ≤ v ∧ v ≤ 1000000000000) (hl : vs.length ≤ 100) : dec (enc vs) 0 vs.length = (vs, ((enc vs).length : Int), true) := by
  have e := enc_uvs h
  have := dec_in (xs := enc vs) (i := 0) (c := vs.length) hl (Nat.zero_le _)
  rw [show ((0 : Nat) : Int) = 0 from rfl] at this
  rw [this]
  have hg := decGo_uvs (enc vs) vs 0 0 [] [] h (by rw [List.drop_zero, List.append_nil]; exact e)
  rw [Nat.add_zero, show ((0 : Nat) : Int) = 0 from rfl] at hg
  rw [hg, decGo, e, Nat.zero_add, List.nil_append]
theorem dec_more {vs : List Int} (h : ∀ v ∈ vs, 0 ≤ v ∧ v ≤ 1000000000000) (hl : vs.length + 1 ≤ 100) : dec (enc vs) 0 ((vs.length : Int) + 1) = ([], 0, false) := by
  have e := enc_uvs h
  have := dec_in (xs := enc vs) (i := 0) (c := vs.length + 1) hl (Nat.zero_le _)
  rw [show ((0 : Nat) : Int) = 0 from rfl, Int.natCast_add, show ((1 : Nat) : Int) = 1 from rfl] at this
  rw [this]
  have hg := decGo_uvs (enc vs) vs 1 0 [] [] h (by rw [List.drop_zero, List.append_nil]; exact e)
  rw [show ((0 : Nat) : Int) = 0 from rfl] at hg
  rw [hg, decGo_no (rdv_end (by rw [e]; omega))]
theorem app_nil {m : Nat} (h : m ≤ 1000000000000) : app [] m = uv m := by rw [app_in h, List.nil_append]
end Go.Proofs.Ytlgmiojlpnoiaaa.UvR
namespace Go.Proofs.Ytlgmiojlpnoiaaa.Back
open Go.RowKit
open Go.Proofs.Ytlgmiojlpnoiaaa.Seq Go.Proofs.Ytlgmiojlpnoiaaa.Field Go.Proofs.Ytlgmiojlpnoiaaa.Vec Go.Proofs.Ytlgmiojlpnoiaaa.Uv Go.Proofs.Ytlgmiojlpnoiaaa.Rd Go.Proofs.Ytlgmiojlpnoiaaa.Enc Go.Proofs.Ytlgmiojlpnoiaaa.UvR

def In12 (vs : List Int) : Prop := ∀ v ∈ vs, 0 ≤ v ∧ v ≤ 1000000000000
theorem In12.nil : In12 [] := fun v hv => by cases hv
theorem In12.cons {v : Int} {vs : List Int} (h0 : 0 ≤ v) (h1 : v ≤ 1000000000000) (h : In12 vs) : In12 (v :: vs) := fun u hu => by
  rcases List.mem_cons.1 hu with rfl | hu
  · exact ⟨h0, h1⟩
  · exact h u hu
theorem vec_in {xs : List Int} (h : isVec xs = true) : In12 xs := fun v hv => by
  have := isEl_iff.1 ((isVec_iff.1 h).1 v hv)
  omega
theorem dec_at {xs vs rest : List Int} {p : Nat} (h : In12 vs) (hl : vs.length ≤ 100) (hp : p ≤ xs.length) (hd : xs.drop p = uvs vs ++ rest) : dec xs p vs.length = (vs, ((p + (uvs vs).length : Nat) : Int), true) := by
  rw [dec_in hl hp]
  have hg := decGo_uvs xs vs 0 p [] rest h hd
  rw [Nat.add_zero] at hg
  rw [hg, decGo, List.nil_append]
theorem decGo_back {xs : List Int} (hf : ∀ x ∈ xs, Fits .u8 x) : ∀ (f : Nat) (i : Int) (acc : List Int) (r : List Int) (q : Int), 0 ≤ i ∧ i ≤ xs.length → decGo xs f i acc = (r, q, true) → ∃ vs, r = acc ++ vs ∧ In12 vs ∧ i ≤ q ∧ q ≤ xs.length ∧ xs.drop i.toNat = uvs vs ++ xs.drop q.toNat ∧ i + (uvs vs).length = q ∧ vs.length = f := by
  intro f
  induction f with
  | zero =>
    intro i acc r q hi h
    have e1 : acc = r := congrArg Prod.fst h
    have e2 : i = q := congrArg (fun z => z.2.1) h
    subst e1; subst e2
    exact ⟨[], by simp, In12.nil, Int.le_refl _, hi.2, by simp [uvs], by simp [uvs], rfl⟩
  | succ f ih =>
    intro i acc r q hi h
    obtain ⟨⟨m, q1, b⟩, hr⟩ : ∃ r : Int × Int × Bool, r = rdv xs i := ⟨_, rfl⟩
    cases b
    · rw [decGo_no hr.symm] at h; cases h
    · rw [decGo_yes hr.symm] at h
      obtain ⟨p, m', q', rfl, rfl, rfl, g1, g2, g3, g4⟩ := uv_rdv hf hr.symm
      obtain ⟨vs, rfl, hv, k1, k2, k3, k4, k5⟩ := ih _ _ r q ⟨by omega, by omega⟩ h
      have hdr : xs.drop p = uv m' ++ xs.drop q' := by
        rw [← g4]
        conv => lhs; rw [← List.take_append_drop (q' - p) (xs.drop p)]
        rw [List.drop_drop, show p + (q' - p) = q' by omega]
      have hlen : p + (uv m').length = q' := by
        have := congrArg List.length g4
        rw [List.length_take, List.length_drop] at this
        omega
      refine ⟨(m' : Int) :: vs, by simp, In12.cons (by omega) (by omega) hv, by omega, k2, ?_, ?_, by simp [k5]⟩
      · rw [Int.toNat_natCast] at k3 ⊢
        rw [hdr, k3]
        simp [uvs]
      · have : (uvs ((m' : Int) :: vs)).length = (uv m').length + (uvs vs).length := by simp [uvs]
        omega
theorem dec_back {xs : List Int} (hf : ∀ x ∈ xs, Fits .u8 x) {i c q : Int} {r : List Int} (h : dec xs i c = (r, q, true)) : In12 r ∧ 0 ≤ i ∧ i ≤ q ∧ q ≤ xs.length ∧ xs.drop i.toNat = uvs r ++ xs.drop q.toNat ∧ i + (uvs r).length = q ∧ r.length = c.toNat ∧ 0 ≤ c := by
  unfold dec at h
  split at h
  · rename_i hc
    obtain ⟨vs, e, hv, k1, k2, k3, k4, k5⟩ := decGo_back hf _ _ _ _ _ hc.2 h
    rw [List.nil_append] at e
    subst e
    exact ⟨hv, hc.2.1, k1, k2, k3, k4, k5, hc.1.1⟩
  · cases h
/-- One varint read: what lies there. -/
theorem rdv_back {xs : List Int} (hf : ∀ x ∈ xs, Fits .u8 x) {i m q : Int} (h : rdv xs i = (m, q, true)) : ∃ p m' q' : Nat, i = p ∧ m = m' ∧ q = q' ∧ m' ≤ 1000000000000 ∧ p < q' ∧ q' ≤ xs.length ∧ xs.drop p = uv m' ++ xs.drop q' := by
  obtain ⟨p, m', q', rfl, rfl, rfl, g1, g2, g3, g4⟩ := uv_rdv hf h
  refine ⟨p, m', q', rfl, rfl, rfl, g1, g2, g3, ?_⟩
  rw [← g4]
  conv => lhs; rw [← List.take_append_drop (q' - p) (xs.drop p)]
  rw [List.drop_drop, show p + (q' - p) = q' by omega]
end Go.Proofs.Ytlgmiojlpnoiaaa.Back
namespace Go.Proofs.Ytlgmiojlpnoiaaa.Coef
open Go.RowKit
open Go.Proofs.Ytlgmiojlpnoiaaa.Seq Go.Proofs.Ytlgmiojlpnoiaaa.Field Go.Proofs.Ytlgmiojlpnoiaaa.Vec Go.Proofs.Ytlgmiojlpnoiaaa.Uv Go.Proofs.Ytlgmiojlpnoiaaa.Rd Go.Proofs.Ytlgmiojlpnoiaaa.Enc Go.Proofs.Ytlgmiojlpnoiaaa.UvR Go.Proofs.Ytlgmiojlpnoiaaa.Back

/-- The number of components that are not 0. -/
def cnt : List Int → Nat
  | [] => 0
  | x :: xs => (if x = 0 then 0 else 1) + cnt xs
/-- The gaps and components, g zeros having been seen. -/
def gp : Nat → List Int → List Int
  | _, [] => []
  | g, x :: xs => if x = 0 then gp (g + 1) xs else (g : Int) :: x :: gp 0 xs
/-- The zeros at the end, g zeros having been seen. -/
def tl : Nat → List Int → Nat
  | g, [] => g
  | g, x :: xs => if x = 0 then tl (g + 1) xs else tl 0 xs
def zs (n : Nat) : List Int := List.replicate n 0
def gaps (xs : List Int) : List Int := gp 0 xs

theorem cnt_app (xs ys : List Int) : cnt (xs ++ ys) = cnt xs + cnt ys := by
  induction xs with
  | nil => simp [cnt]
  | cons x xs ih => simp only [List.cons_append, cnt, ih]; omega
theorem gp_app (xs ys : List Int) : ∀ g, gp g (xs ++ ys) = gp g xs ++ gp (tl g xs) ys := by
  induction xs with
  | nil => intro g; simp [gp, tl]
  | cons x xs ih =>
    intro g
    simp only [List.cons_append, gp, tl]
    split
    · exact ih _
    · rw [ih]; rfl
theorem tl_app (xs ys : List Int) : ∀ g, tl g (xs ++ ys) = tl (tl g xs) ys := by
  induction xs with
  | nil => intro g; simp [tl]
  | cons x xs ih =>
    intro g
    simp only [List.cons_append, tl]
    split <;> exact ih _
theorem cnt_zs (n : Nat) : cnt (zs n) = 0 := by
  induction n with
  | zero => rfl
  | succ n ih => rw [zs, List.replicate_succ, cnt, if_pos rfl, Nat.zero_add]; exact ih
theorem gp_zs (n : Nat) : ∀ g, gp g (zs n) = [] := by
  induction n with
  | zero => intro g; rfl
  | succ n ih => intro g; rw [zs, List.replicate_succ, gp, if_pos rfl]; exact ih _
theorem tl_zs (n : Nat) : ∀ g, tl g (zs n) = g + n := by
  induction n with
  | zero => intro g; rfl
  | succ n ih => intro g; rw [zs, List.replicate_succ, tl, if_pos rfl]; exact (ih _).trans (by omega)
theorem cnt_le (xs : List Int) : cnt xs ≤ xs.length := by
  induction xs with
  | nil => simp [cnt]
  | cons x xs ih => simp only [cnt, List.length_cons]; split <;> omega
theorem gp_len (xs : List Int) : ∀ g, (gp g xs).length = 2 * cnt xs := by
  induction xs with
  | nil => intro g; rfl
  | cons x xs ih =>
    intro g
    simp only [gp, cnt]
    split
    · rw [ih]; omega
    · simp only [List.length_cons, ih]; omega
theorem tl_le (xs : List Int) : ∀ g, tl g xs ≤ g + xs.length := by
  induction xs with
  | nil => intro g; simp [tl]
  | cons x xs ih =>
    intro g
    simp only [tl, List.length_cons]
    split
    · have := ih (g + 1); omega
    · have := ih 0; omega
theorem gp_in {xs : List Int} (h : In12 xs) : ∀ g, g + xs.length ≤ 1000000000000 → In12 (gp g xs) := by
  induction xs with
  | nil => intro g _; exact In12.nil
  | cons x xs ih =>
    intro g hg
    rw [List.length_cons] at hg
    have hx := h x (by simp)
    have h' : In12 xs := fun v hv => h v (by simp [hv])
    simp only [gp]
    split
    · exact ih h' _ (by omega)
    · exact In12.cons (by omega) (by omega) (In12.cons hx.1 hx.2 (ih h' _ (by omega)))
/-- One more component. -/
theorem cnt_snoc (xs : List Int) (x : Int) : cnt (xs ++ [x]) = if x = 0 then cnt xs else cnt xs + 1 := by
  rw [cnt_app]; simp only [cnt]; split <;> omega
theorem gaps_zero (xs : List Int) : gaps (xs ++ [0]) = gaps xs ∧ tl 0 (xs ++ [0]) = tl 0 xs + 1 := by
  unfold gaps; rw [gp_app, tl_app]; simp [gp, tl]
theorem gaps_more (xs : List Int) {x : Int} (h : ¬ x = 0) : gaps (xs ++ [x]) = gaps xs ++ [(tl 0 xs : Int), x] ∧ tl 0 (xs ++ [x]) = 0 := by
  unfold gaps; rw [gp_app, tl_app]; simp [gp, tl, h]

/-- What the forms list. -/
def densL (v : List Int) : List Int := 0 :: (v.length : Int) :: v
def sparL (v : List Int) : List Int := 1 :: (v.length : Int) :: (cnt v : Int) :: gaps v
def encD (v : List Int) : List Int := bif isVec v then enc (densL v) else []
def encS (v : List Int) : List Int := bif isVec v then enc (sparL v) else []
def coef (v : List Int) : List Int := if (encS v).length < (encD v).length then encS v else encD v

theorem vec_len {v : List Int} (h : isVec v = true) : v.length ≤ 40 := (isVec_iff.1 h).2
theorem densL_in {v : List Int} (h : isVec v = true) : In12 (densL v) := In12.cons (by omega) (by omega) (In12.cons (by omega) (by have := vec_len h; omega) (vec_in h))
theorem sparL_in {v : List Int} (h : isVec v = true) : In12 (sparL v) := by
  have := vec_len h
  have := cnt_le v
  exact In12.cons (by omega) (by omega) (In12.cons (by omega) (by omega) (In12.cons (by omega) (by omega) (gp_in (vec_in h) 0 (by omega))))
theorem encD_is {v : List Int} (h : isVec v = true) : encD v = uvs (densL v) := by unfold encD; rw [h, cond_true, enc_uvs (densL_in h)]
theorem encS_is {v : List Int} (h : isVec v = true) : encS v = uvs (sparL v) := by unfold encS; rw [h, cond_true, enc_uvs (sparL_in h)]
theorem encD_no {v : List Int} (h : isVec v = false) : encD v = [] := by unfold encD; rw [h]; rfl
theorem encS_no {v : List Int} (h : isVec v = false) : encS v = [] := by unfold encS; rw [h]; rfl
theorem encD_yes {v : List Int} (h : isVec v = true) : encD v = enc (densL v) := by unfold encD; rw [h]; rfl
theorem encS_yes {v : List Int} (h : isVec v = true) : encS v = enc (sparL v) := by unfold encS; rw [h]; rfl
theorem coef_no {v : List Int} (h : isVec v = false) : coef v = [] := by unfold coef; rw [encD_no h, encS_no h]; rfl
theorem encD_len (v : List Int) : (encD v).length ≤ 252 := by
  cases h : isVec v
  · rw [encD_no h]; simp
  · rw [encD_yes h]
    have := enc_len (densL v)
    have := vec_len h
    have e : (densL v).length = v.length + 2 := by simp [densL]
    omega
theorem sparL_len (v : List Int) : (sparL v).length = 2 * cnt v + 3 := by simp [sparL, gaps, gp_len]
theorem encS_len (v : List Int) : (encS v).length ≤ 498 := by
  cases h : isVec v
  · rw [encS_no h]; simp
  · rw [encS_yes h]
    have := enc_len (sparL v)
    have := sparL_len v
    have := vec_len h
    have := cnt_le v
    omega
theorem coef_len (v : List Int) : (coef v).length ≤ 498 := by
  unfold coef
  have := encD_len v
  have := encS_len v
  split <;> omega
theorem coef_min (v : List Int) : ((coef v).length : Int) = if ((encD v).length : Int) < (encS v).length then ((encD v).length : Int) else (encS v).length := by
  unfold coef
  split <;> split <;> omega
theorem uvs_cons (v : Int) (vs : List Int) : uvs (v :: vs) = uv v.toNat ++ uvs vs := by simp [uvs]
theorem uvs_app (a b : List Int) : uvs (a ++ b) = uvs a ++ uvs b := by simp [uvs]
theorem uv0 : uv 0 = [0] := uv_small (by omega)
theorem uv1 : uv 1 = [1] := uv_small (by omega)

/-! decoding, as the model does it -/
def spGo (b : List Int) (n : Nat) : Nat → Int → List Int → List Int × Bool
  | 0, nx, pre => (pre ++ zs (n - pre.length), decide (nx = b.length))
  | f + 1, nx, pre => bif (dec b nx 2).2.2 && (decide (pre.length + ((dec b nx 2).1.getD 0 0).toNat < n) && !decide ((dec b nx 2).1.getD 1 0 = 0))
      then spGo b n f (dec b nx 2).2.1 (pre ++ zs ((dec b nx 2).1.getD 0 0).toNat ++ [(dec b nx 2).1.getD 1 0]) else (pre ++ zs (n - pre.length), false)
def spS (b : List Int) (i : Int) (n : Nat) : List Int × Bool := bif (rdv b i).2.2 && decide ((rdv b i).1 ≤ n) then spGo b n (rdv b i).1.toNat (rdv b i).2.1 [] else (zs n, false)
def decS (b : List Int) : List Int × Bool :=
  bif decide (b = []) then ([], false) else bif (rdv b 1).2.2 && decide ((rdv b 1).1 ≤ 40) then
    (bif decide (b.getD 0 0 = 0) then
      bif (dec b (rdv b 1).2.1 (rdv b 1).1).2.2 && (decide ((dec b (rdv b 1).2.1 (rdv b 1).1).2.1 = b.length) && isVec (dec b (rdv b 1).2.1 (rdv b 1).1).1) then ((dec b (rdv b 1).2.1 (rdv b 1).1).1, true) else ([], false)
    else bif decide (b.getD 0 0 = 1) && ((spS b (rdv b 1).2.1 (rdv b 1).1.toNat).2 && isVec (spS b (rdv b 1).2.1 (rdv b 1).1.toNat).1) then ((spS b (rdv b 1).2.1 (rdv b 1).1.toNat).1, true) else ([], false))
  else ([], false)

theorem two {l : List Int} (h : l.length = 2) : ∃ g x, l = [g, x] := by
  match l, h with
  | [g, x], _ => exact ⟨g, x, rfl⟩
theorem spGo_yes {b : List Int} {n f : Nat} {nx e : Int} {pre : List Int} {g x : Nat} (h : dec b nx 2 = ([(g : Int), (x : Int)], e, true)) (h1 : pre.length + g < n) (h2 : ¬ (x : Int) = 0) : spGo b n (f + 1) nx pre = spGo b n f e (pre ++ zs g ++ [(x : Int)]) := by
  rw [spGo, h]
  simp only [List.getD_cons_zero, List.getD_cons_succ, Int.toNat_natCast, decide_eq_true h1, decide_eq_false h2, Bool.not_false, Bool.and_self, cond_true]
theorem spGo_bad {b : List Int} {n f : Nat} {nx e : Int} {pre l : List Int} (h : dec b nx 2 = (l, e, false)) : spGo b n (f + 1) nx pre = (pre ++ zs (n - pre.length), false) := by
  rw [spGo, h]; rfl
theorem spGo_far {b : List Int} {n f : Nat} {nx e g x : Int} {pre : List Int} (h : dec b nx 2 = ([g, x], e, true)) (h1 : ¬ pre.length + g.toNat < n) : spGo b n (f + 1) nx pre = (pre ++ zs (n - pre.length), false) := by
  rw [spGo, h]
  simp only [List.getD_cons_zero, decide_eq_false h1, Bool.false_and, Bool.and_false, cond_false]
theorem spGo_zero {b : List Int} {n f : Nat} {nx e g : Int} {pre : List Int} (h : dec b nx 2 = ([g, 0], e, true)) : spGo b n (f + 1) nx pre = (pre ++ zs (n - pre.length), false) := by
  rw [spGo, h]
  simp only [List.getD_cons_zero, List.getD_cons_succ, decide_true, Bool.not_true, Bool.and_false, cond_false]
theorem spGo_len (b : List Int) (n : Nat) : ∀ (f : Nat) (nx : Int) (pre : List Int), pre.length ≤ n → (spGo b n f nx pre).1.length = n := by
  intro f
  induction f with
  | zero => intro nx pre h; simp [spGo, zs]; omega
  | succ f ih =>
    intro nx pre h
    rw [spGo]
    cases hc : ((dec b nx 2).2.2 && (decide (pre.length + ((dec b nx 2).1.getD 0 0).toNat < n) && !decide ((dec b nx 2).1.getD 1 0 = 0)))
    · simp [zs]; omega
    · simp only [cond_true]
      simp only [Bool.and_eq_true, decide_eq_true_eq] at hc
      refine ih _ _ ?_
      simp only [List.length_append, zs, List.length_replicate, List.length_singleton]
      omega
/-- What the sparse form decodes to is what it was listed from. -/
theorem spGo_back {b : List Int} (hf : ∀ x ∈ b, Fits .u8 x) (n : Nat) : ∀ (f : Nat) (nx : Int) (pre v : List Int), 0 ≤ nx → nx ≤ b.length → pre.length ≤ n → tl 0 pre = 0 → spGo b n f nx pre = (v, true) →
    ∃ l, In12 l ∧ b.drop nx.toNat = uvs l ∧ gaps v = gaps pre ++ l ∧ cnt v = cnt pre + f := by
  intro f
  induction f with
  | zero =>
    intro nx pre v h0 h1 hp ht h
    have e1 : pre ++ zs (n - pre.length) = v := congrArg Prod.fst h
    have e2 : decide (nx = b.length) = true := congrArg Prod.snd h
    have e2 := of_decide_eq_true e2
    subst e1
    refine ⟨[], In12.nil, by rw [e2, Int.toNat_natCast, List.drop_length]; rfl, ?_, ?_⟩
    · unfold gaps; rw [gp_app, gp_zs]
    · rw [cnt_app, cnt_zs]
  | succ f ih =>
    intro nx pre v h0 h1 hp ht h
    obtain ⟨⟨l, e, ok⟩, hd⟩ : ∃ r : List Int × Int × Bool, r = dec b nx 2 := ⟨_, rfl⟩
    have hd := hd.symm
    cases ok
    · rw [spGo_bad hd] at h; exact absurd (congrArg Prod.snd h) (by simp)
    · obtain ⟨k1, k2, k3, k4, k5, k6, k7, _⟩ := dec_back hf hd
      obtain ⟨g, x, rfl⟩ := two k7
      obtain ⟨hg0, hg1⟩ := k1 g (by simp)
      obtain ⟨hx0, hx1⟩ := k1 x (by simp)
      by_cases hx : x = 0
      · subst hx; rw [spGo_zero hd] at h; exact absurd (congrArg Prod.snd h) (by simp)
      · by_cases hg : pre.length + g.toNat < n
        · obtain ⟨g', rfl⟩ : ∃ g' : Nat, g = g' := ⟨g.toNat, by omega⟩
          obtain ⟨x', rfl⟩ : ∃ x' : Nat, x = x' := ⟨x.toNat, by omega⟩
          rw [Int.toNat_natCast] at hg
          rw [spGo_yes hd hg hx] at h
          obtain ⟨a1, a2⟩ := gaps_more (pre ++ zs g') hx
          have ez : gaps (pre ++ zs g') = gaps pre := by unfold gaps; rw [gp_app, gp_zs, List.append_nil]
          have et : tl 0 (pre ++ zs g') = g' := by rw [tl_app, tl_zs, ht, Nat.zero_add]
          rw [ez, et] at a1
          obtain ⟨l, m1, m2, m3, m4⟩ := ih e _ v (by omega) (by omega) (by simp only [List.length_append, zs, List.length_replicate, List.length_singleton]; omega) a2 h
          refine ⟨(g' : Int) :: (x' : Int) :: l, In12.cons hg0 hg1 (In12.cons hx0 hx1 m1), ?_, ?_, ?_⟩
          · rw [k5, m2, ← uvs_app]; rfl
          · rw [m3, a1, List.append_assoc]; rfl
          · rw [m4, cnt_snoc, if_neg hx, cnt_app, cnt_zs]; omega
        · rw [spGo_far hd hg] at h; exact absurd (congrArg Prod.snd h) (by simp)
theorem spGo_on {b : List Int} (n : Nat) (hn : n ≤ 40) : ∀ (xs : List Int) (g nx : Nat) (pre : List Int), In12 xs → nx ≤ b.length → b.drop nx = uvs (gp g xs) → pre.length + g + xs.length = n → spGo b n (cnt xs) nx pre = (pre ++ zs g ++ xs, true) := by
  intro xs
  induction xs with
  | nil =>
    intro g nx pre hx h1 hd hl
    have hz : b.drop nx = [] := hd
    have hz2 := congrArg List.length hz
    rw [List.length_drop, List.length_nil] at hz2
    rw [List.length_nil] at hl
    rw [cnt, spGo, show n - pre.length = g by omega, decide_eq_true (show (nx : Int) = b.length by omega), List.append_nil]
  | cons x xs ih =>
    intro g nx pre hx h1 hd hl
    have hx' : In12 xs := fun v hv => hx v (by simp [hv])
    rw [List.length_cons] at hl
    by_cases h0 : x = 0
    · subst h0
      rw [gp, if_pos rfl] at hd
      rw [cnt, if_pos rfl, Nat.zero_add, ih (g + 1) nx pre hx' h1 hd (by omega)]
      congr 1
      rw [zs, zs, List.replicate_succ', List.append_assoc, List.append_assoc, List.append_assoc]; rfl
    · obtain ⟨x0, x1⟩ := hx x (by simp)
      obtain ⟨x', rfl⟩ : ∃ x' : Nat, x = x' := ⟨x.toNat, by omega⟩
      rw [gp, if_neg h0] at hd
      have hd2 : b.drop nx = uvs [(g : Int), (x' : Int)] ++ uvs (gp 0 xs) := by rw [hd, ← uvs_app]; rfl
      have hdec := dec_at (xs := b) (p := nx) (vs := [(g : Int), (x' : Int)]) (In12.cons (by omega) (by omega) (In12.cons x0 x1 In12.nil)) (by simp) h1 hd2
      have hlen := congrArg List.length hd2
      rw [List.length_drop, List.length_append] at hlen
      rw [cnt, if_neg h0, Nat.add_comm 1, spGo_yes hdec (by omega) h0]
      rw [ih 0 _ (pre ++ zs g ++ [(x' : Int)]) hx' (by omega) (by rw [← List.drop_drop, hd2, List.drop_left]) (by simp only [List.length_append, zs, List.length_replicate, List.length_singleton]; omega)]
      congr 1
      simp [zs]
theorem decS_yes {b : List Int} (hf : ∀ x ∈ b, Fits .u8 x) {v : List Int} (h : decS b = (v, true)) : isVec v = true ∧ (encD v = b ∨ encS v = b) := by
  unfold decS at h
  by_cases hb : b = []
  · rw [decide_eq_true hb] at h; exact absurd (congrArg Prod.snd h) (by simp)
  rw [decide_eq_false hb] at h
  obtain ⟨⟨m, q, ok⟩, hr⟩ : ∃ r : Int × Int × Bool, r = rdv b 1 := ⟨_, rfl⟩
  have hr := hr.symm
  rw [hr] at h
  simp only [cond_false] at h
  cases hc : (ok && decide (m ≤ 40))
  · rw [hc] at h; exact absurd (congrArg Prod.snd h) (by simp)
  rw [hc] at h
  simp only [Bool.and_eq_true, decide_eq_true_eq] at hc
  obtain ⟨rfl, hm⟩ := hc
  simp only [cond_true] at h
  obtain ⟨p, n, q', hp, rfl, rfl, g1, g2, g3, g4⟩ := rdv_back hf hr
  obtain rfl : p = 1 := by omega
  obtain ⟨c, bs, rfl⟩ : ∃ c bs, b = c :: bs := by cases b with | nil => exact absurd rfl hb | cons c bs => exact ⟨c, bs, rfl⟩
  rw [List.getD_cons_zero] at h
  rw [List.drop_succ_cons, List.drop_zero] at g4
  by_cases h0 : c = 0
  · subst h0
    rw [decide_eq_true rfl, cond_true] at h
    obtain ⟨⟨l, e, ok⟩, hd⟩ : ∃ r : List Int × Int × Bool, r = dec (0 :: bs) q' n := ⟨_, rfl⟩
    have hd := hd.symm
    rw [hd] at h
    simp only at h
    cases hc : (ok && (decide (e = ((0 :: bs : List Int).length : Int)) && isVec l))
    · rw [hc] at h; exact absurd (congrArg Prod.snd h) (by simp)
    rw [hc] at h
    simp only [Bool.and_eq_true, decide_eq_true_eq] at hc
    obtain ⟨rfl, he, hv⟩ := hc
    obtain rfl : l = v := congrArg Prod.fst h
    obtain ⟨k1, k2, k3, k4, k5, k6, k7, _⟩ := dec_back hf hd
    refine ⟨hv, .inl ?_⟩
    rw [encD_is hv]
    rw [he, Int.toNat_natCast, Int.toNat_natCast, List.drop_length, List.append_nil] at k5
    rw [Int.toNat_natCast] at k7
    rw [k5] at g4
    show uvs (0 :: (l.length : Int) :: l) = _
    rw [uvs_cons, uvs_cons, k7, Int.toNat_natCast, ← g4]
    rw [show (0 : Int).toNat = 0 from rfl, uv0]; rfl
  · rw [decide_eq_false h0, cond_false] at h
    cases hc : (decide (c = 1) && ((spS (c :: bs) q' (n : Int).toNat).2 && isVec (spS (c :: bs) q' (n : Int).toNat).1))
    · rw [hc] at h; exact absurd (congrArg Prod.snd h) (by simp)
    rw [hc] at h
    simp only [Bool.and_eq_true, decide_eq_true_eq] at hc
    obtain ⟨rfl, hs, hv⟩ := hc
    rw [Int.toNat_natCast] at h hs hv
    have ev : (spS (1 :: bs) q' n).1 = v := congrArg Prod.fst h
    rw [ev] at hv
    refine ⟨hv, .inr ?_⟩
    obtain ⟨⟨k, q2, ok⟩, hr2⟩ : ∃ r : Int × Int × Bool, r = rdv (1 :: bs) q' := ⟨_, rfl⟩
    have hr2 := hr2.symm
    unfold spS at hs ev
    rw [hr2] at hs ev
    simp only at hs ev
    cases hc : (ok && decide (k ≤ (n : Int)))
    · rw [hc] at hs; cases hs
    rw [hc, cond_true] at hs ev
    simp only [Bool.and_eq_true, decide_eq_true_eq] at hc
    obtain ⟨rfl, hk⟩ := hc
    obtain ⟨p2, k', q3, hp2, rfl, rfl, a1, a2, a3, a4⟩ := rdv_back hf hr2
    obtain rfl : q' = p2 := by omega
    rw [Int.toNat_natCast] at hs ev
    have hsp : spGo (1 :: bs) n k' (q3 : Int) [] = (v, true) := Prod.ext ev hs
    obtain ⟨l, c1, c2, c3, c4⟩ := spGo_back hf n k' q3 [] v (by omega) (by omega) (Nat.zero_le _) rfl hsp
    have hlen := spGo_len (1 :: bs) n k' q3 [] (Nat.zero_le _)
    rw [hsp] at hlen
    rw [encS_is hv]
    show uvs (1 :: (v.length : Int) :: (cnt v : Int) :: gaps v) = _
    rw [Int.toNat_natCast] at c2
    have c3' : gaps v = l := c3
    have c4' : cnt v = k' := by rw [c4]; simp [cnt]
    rw [c3', c4', uvs_cons, uvs_cons, uvs_cons, show (v.length) = n from hlen, Int.toNat_natCast, Int.toNat_natCast, ← c2, ← a4, ← g4]
    rw [show (1 : Int).toNat = 1 from rfl, uv1]; rfl
theorem decS_D {v : List Int} (h : isVec v = true) : decS (encD v) = (v, true) := by
  have hlen := vec_len h
  obtain ⟨b, hb⟩ : ∃ b, encD v = b := ⟨_, rfl⟩
  have e := encD_is h
  rw [hb] at e
  have e2 : b = [0] ++ (uv v.length ++ uvs v) := by rw [e]; show uvs (0 :: (v.length : Int) :: v) = _; rw [uvs_cons, uvs_cons, Int.toNat_natCast]; rw [show (0 : Int).toNat = 0 from rfl, uv0]
  rw [hb]
  have hr : rdv b 1 = ((v.length : Int), ((1 + (uv v.length).length : Nat) : Int), true) := rdv_uv (p := 1) (by omega) (by rw [e2]; rfl)
  have hbl : b.length = 1 + (uv v.length).length + (uvs v).length := by rw [e2]; simp; omega
  have hd : dec b ((1 + (uv v.length).length : Nat) : Int) v.length = (v, ((1 + (uv v.length).length + (uvs v).length : Nat) : Int), true) := dec_at (rest := []) (vec_in h) (by omega) (by omega) (by
    rw [List.append_nil, ← List.drop_drop, e2]
    show (uv v.length ++ uvs v).drop _ = _
    rw [List.drop_left])
  have hne : ¬ b = [] := by rw [e2]; simp
  unfold decS
  rw [hr, decide_eq_false hne]
  simp only [cond_false]
  rw [hd, hbl, h, decide_eq_true (show (v.length : Int) ≤ 40 by omega), show b.getD 0 0 = 0 by rw [e2]; rfl]
  simp
theorem decS_S {v : List Int} (h : isVec v = true) : decS (encS v) = (v, true) := by
  have hlen := vec_len h
  have hcnt := cnt_le v
  obtain ⟨b, hb⟩ : ∃ b, encS v = b := ⟨_, rfl⟩
  have e := encS_is h
  rw [hb] at e
  have e2 : b = [1] ++ (uv v.length ++ (uv (cnt v) ++ uvs (gaps v))) := by rw [e]; show uvs (1 :: (v.length : Int) :: (cnt v : Int) :: gaps v) = _; rw [uvs_cons, uvs_cons, uvs_cons, Int.toNat_natCast, Int.toNat_natCast]; rw [show (1 : Int).toNat = 1 from rfl, uv1]
  rw [hb]
  have d1 : b.drop 1 = uv v.length ++ (uv (cnt v) ++ uvs (gaps v)) := by rw [e2]; rfl
  have d2 : b.drop (1 + (uv v.length).length) = uv (cnt v) ++ uvs (gaps v) := by rw [← List.drop_drop, d1, List.drop_left]
  have d3 : b.drop (1 + (uv v.length).length + (uv (cnt v)).length) = uvs (gaps v) := by rw [← List.drop_drop, d2, List.drop_left]
  have hr : rdv b 1 = ((v.length : Int), ((1 + (uv v.length).length : Nat) : Int), true) := rdv_uv (p := 1) (by omega) d1
  have hr2 : rdv b ((1 + (uv v.length).length : Nat) : Int) = ((cnt v : Int), ((1 + (uv v.length).length + (uv (cnt v)).length : Nat) : Int), true) := rdv_uv (by omega) d2
  have hbl : b.length = 1 + (uv v.length).length + (uv (cnt v)).length + (uvs (gaps v)).length := by rw [e2]; simp; omega
  have hs := spGo_on v.length (by omega) v 0 _ [] (vec_in h) (by omega) d3 (by simp)
  have hne : ¬ b = [] := by rw [e2]; simp
  have hsp : spS b ((1 + (uv v.length).length : Nat) : Int) v.length = (v, true) := by
    unfold spS
    rw [hr2]
    simp only [Bool.true_and]
    rw [decide_eq_true (show (cnt v : Int) ≤ v.length by omega), cond_true, Int.toNat_natCast, hs]
    simp [zs]
  unfold decS
  rw [hr, decide_eq_false hne]
  simp only [cond_false]
  rw [Int.toNat_natCast, hsp, h, decide_eq_true (show (v.length : Int) ≤ 40 by omega), show b.getD 0 0 = 1 by rw [e2]; rfl]
  simp
theorem decS_no {b v : List Int} (h : decS b = (v, false)) : v = [] := by
  unfold decS at h
  have key : ∀ (c : Bool) (u : List Int), (bif c then (u, true) else (([], false) : List Int × Bool)) = (v, false) → v = [] := fun c u e => by
    cases c
    · exact (congrArg Prod.fst e).symm
    · exact absurd (congrArg Prod.snd e) (by simp)
  cases h1 : decide (b = [])
  · rw [h1, cond_false] at h
    cases h2 : ((rdv b 1).2.2 && decide ((rdv b 1).1 ≤ 40))
    · rw [h2] at h; exact (congrArg Prod.fst h).symm
    · rw [h2, cond_true] at h
      cases h3 : decide (b.getD 0 0 = 0)
      · rw [h3, cond_false] at h; exact key _ _ h
      · rw [h3, cond_true] at h; exact key _ _ h
  · rw [h1] at h; exact (congrArg Prod.fst h).symm

/-! decoding, as the program does it -/
/-- The pairs that were read, filled into zeros. -/
def fillP (n : Nat) : List Int → List Int → List Int
  | pre, g :: x :: r => if n ≤ pre.length + g.toNat then pre ++ zs (n - pre.length) else fillP n (pre ++ zs g.toNat ++ [x]) r
  | pre, [] => pre ++ zs (n - pre.length)
  | pre, [_] => pre ++ zs (n - pre.length)
def fillD (n : Nat) (xs : List Int) : List Int := xs.take n ++ zs (n - xs.length)
def fillF (f : Int) (b : List Int) (i : Int) (n : Nat) : List Int := if f = 0 then fillD n (dec b i n).1 else fillP n [] (dec b (rdv b i).2.1 (2 * (rdv b i).1)).1
def encF (f : Int) (v : List Int) : List Int := if f = 0 then encD v else encS v
def decI (b : List Int) : List Int × Bool :=
  bif (dec b 0 2).2.2 && ((decide (0 ≤ (dec b 0 2).1.getD 0 0) && decide ((dec b 0 2).1.getD 0 0 ≤ 1)) && (decide (0 ≤ (dec b 0 2).1.getD 1 0) && decide ((dec b 0 2).1.getD 1 0 ≤ 40))) then
    bif decide (encF ((dec b 0 2).1.getD 0 0) (fillF ((dec b 0 2).1.getD 0 0) b (dec b 0 2).2.1 ((dec b 0 2).1.getD 1 0).toNat) = b) then (fillF ((dec b 0 2).1.getD 0 0) b (dec b 0 2).2.1 ((dec b 0 2).1.getD 1 0).toNat, true) else ([], false)
  else ([], false)
theorem fillP_gp (n : Nat) : ∀ (xs : List Int) (g : Nat) (pre : List Int), pre.length + g + xs.length = n → fillP n pre (gp g xs) = pre ++ zs g ++ xs := by
  intro xs
  induction xs with
  | nil =>
    intro g pre hl
    rw [List.length_nil] at hl
    rw [gp, fillP, show n - pre.length = g by omega, List.append_nil]
  | cons x xs ih =>
    intro g pre hl
    rw [List.length_cons] at hl
    by_cases h0 : x = 0
    · subst h0
      rw [gp, if_pos rfl, ih (g + 1) pre (by omega), zs, zs, List.replicate_succ', List.append_assoc, List.append_assoc, List.append_assoc]; rfl
    · rw [gp, if_neg h0, fillP, Int.toNat_natCast, if_neg (by omega), ih 0 _ (by simp only [List.length_append, zs, List.length_replicate, List.length_singleton]; omega)]
      simp [zs]
theorem fillD_full (v : List Int) : fillD v.length v = v := by unfold fillD; rw [List.take_of_length_le (Nat.le_refl _), Nat.sub_self]; simp [zs]
theorem decI_yes {b : List Int} (hf : ∀ x ∈ b, Fits .u8 x) {v : List Int} (h : decI b = (v, true)) : isVec v = true ∧ (encD v = b ∨ encS v = b) := by
  unfold decI at h
  obtain ⟨⟨l, e, ok⟩, hd⟩ : ∃ r : List Int × Int × Bool, r = dec b 0 2 := ⟨_, rfl⟩
  have hd := hd.symm
  rw [hd] at h
  simp only at h
  cases hc : (ok && ((decide (0 ≤ l.getD 0 0) && decide (l.getD 0 0 ≤ 1)) && (decide (0 ≤ l.getD 1 0) && decide (l.getD 1 0 ≤ 40))))
  · rw [hc] at h; exact absurd (congrArg Prod.snd h) (by simp)
  rw [hc, cond_true] at h
  simp only [Bool.and_eq_true] at hc
  obtain ⟨rfl, _⟩ := hc
  obtain ⟨k1, k2, k3, k4, k5, k6, k7, _⟩ := dec_back hf hd
  have hne : ¬ b = [] := by
    rintro rfl
    obtain ⟨g, x, rfl⟩ := two k7
    have := congrArg List.length k5
    rw [uvs_cons] at this
    have := uv_pos g.toNat
    simp at *
    omega
  generalize fillF (l.getD 0 0) b e (l.getD 1 0).toNat = u at h
  cases hc : decide (encF (l.getD 0 0) u = b)
  · rw [hc] at h; exact absurd (congrArg Prod.snd h) (by simp)
  rw [hc] at h
  obtain rfl : u = v := congrArg Prod.fst h
  have hc := of_decide_eq_true hc
  have hv : isVec u = true := by
    cases hv : isVec u
    · unfold encF at hc
      rw [encD_no hv, encS_no hv] at hc
      simp only [ite_self] at hc
      exact absurd hc.symm hne
    · rfl
  refine ⟨hv, ?_⟩
  unfold encF at hc
  split at hc
  · exact .inl hc
  · exact .inr hc
theorem decI_D {v : List Int} (h : isVec v = true) : decI (encD v) = (v, true) := by
  have hlen := vec_len h
  obtain ⟨b, hb⟩ : ∃ b, encD v = b := ⟨_, rfl⟩
  have e := encD_is h
  rw [hb] at e
  have e2 : b = uvs [0, (v.length : Int)] ++ uvs v := by rw [e, ← uvs_app]; rfl
  have hh : dec b ((0 : Nat) : Int) 2 = ([0, (v.length : Int)], ((0 + (uvs [0, (v.length : Int)]).length : Nat) : Int), true) := dec_at (rest := uvs v) (In12.cons (by omega) (by omega) (In12.cons (by omega) (by omega) In12.nil)) (by simp) (Nat.zero_le _) (by rw [List.drop_zero]; exact e2)
  rw [Nat.zero_add] at hh
  have hh : dec b 0 2 = _ := hh
  have hbl : b.length = (uvs [0, (v.length : Int)]).length + (uvs v).length := by rw [e2, List.length_append]
  have hd : dec b ((uvs [0, (v.length : Int)]).length : Int) v.length = (v, (((uvs [0, (v.length : Int)]).length + (uvs v).length : Nat) : Int), true) := dec_at (rest := []) (vec_in h) (by omega) (by omega) (by rw [List.append_nil, e2, List.drop_left])
  have hfil : fillF 0 b ((uvs [0, (v.length : Int)]).length : Int) v.length = v := by unfold fillF; rw [if_pos rfl, hd]; exact fillD_full v
  have hen : encF 0 v = b := by unfold encF; rw [if_pos rfl]; exact hb
  rw [hb]
  unfold decI
  rw [hh]
  simp only [List.getD_cons_zero, List.getD_cons_succ, Int.toNat_natCast]
  rw [hfil, hen, decide_eq_true (show (0 : Int) ≤ (v.length : Int) by omega), decide_eq_true (show (v.length : Int) ≤ 40 by omega)]
  simp
theorem decI_S {v : List Int} (h : isVec v = true) : decI (encS v) = (v, true) := by
  have hlen := vec_len h
  have hcnt := cnt_le v
  obtain ⟨b, hb⟩ : ∃ b, encS v = b := ⟨_, rfl⟩
  have e := encS_is h
  rw [hb] at e
  have e2 : b = uvs [1, (v.length : Int)] ++ (uv (cnt v) ++ uvs (gaps v)) := by
    rw [e]
    show uvs ([1, (v.length : Int)] ++ ((cnt v : Int) :: gaps v)) = _
    rw [uvs_app, uvs_cons (cnt v : Int), Int.toNat_natCast]
  have hh : dec b ((0 : Nat) : Int) 2 = ([1, (v.length : Int)], ((0 + (uvs [1, (v.length : Int)]).length : Nat) : Int), true) := dec_at (rest := uv (cnt v) ++ uvs (gaps v)) (In12.cons (by omega) (by omega) (In12.cons (by omega) (by omega) In12.nil)) (by simp) (Nat.zero_le _) (by rw [List.drop_zero]; exact e2)
  rw [Nat.zero_add] at hh
  have hh : dec b 0 2 = _ := hh
  obtain ⟨o, ho⟩ : ∃ o, o = (uvs [1, (v.length : Int)]).length := ⟨_, rfl⟩
  rw [← ho] at hh
  have d2 : b.drop o = uv (cnt v) ++ uvs (gaps v) := by rw [e2, ho, List.drop_left]
  have hr2 : rdv b (o : Int) = ((cnt v : Int), ((o + (uv (cnt v)).length : Nat) : Int), true) := rdv_uv (by omega) d2
  have d3 : b.drop (o + (uv (cnt v)).length) = uvs (gaps v) := by rw [← List.drop_drop, d2, List.drop_left]
  have hbl : b.length = o + (uv (cnt v)).length + (uvs (gaps v)).length := by rw [e2, ho]; simp only [List.length_append]; omega
  have hg : (gaps v).length = 2 * cnt v := gp_len v 0
  have hd := dec_at (xs := b) (p := o + (uv (cnt v)).length) (rest := []) (vs := gaps v) (gp_in (vec_in h) 0 (by omega)) (by omega) (by omega) (by rw [List.append_nil]; exact d3)
  have hfil : fillF 1 b (o : Int) v.length = v := by
    unfold fillF
    rw [if_neg (by decide), hr2]
    simp only
    rw [show (2 * (cnt v : Int)) = ((gaps v).length : Int) by omega, hd]
    have := fillP_gp v.length v 0 [] (by simp)
    unfold gaps
    simpa [zs] using this
  have hen : encF 1 v = b := by unfold encF; rw [if_neg (by decide)]; exact hb
  rw [hb]
  unfold decI
  rw [hh]
  simp only [List.getD_cons_zero, List.getD_cons_succ, Int.toNat_natCast]
  rw [hfil, hen, decide_eq_true (show (0 : Int) ≤ (v.length : Int) by omega), decide_eq_true (show (v.length : Int) ≤ 40 by omega)]
  simp
theorem decI_no {b v : List Int} (h : decI b = (v, false)) : v = [] := by
  unfold decI at h
  cases h1 : ((dec b 0 2).2.2 && ((decide (0 ≤ (dec b 0 2).1.getD 0 0) && decide ((dec b 0 2).1.getD 0 0 ≤ 1)) && (decide (0 ≤ (dec b 0 2).1.getD 1 0) && decide ((dec b 0 2).1.getD 1 0 ≤ 40))))
  · rw [h1] at h; exact (congrArg Prod.fst h).symm
  · rw [h1, cond_true] at h
    cases h2 : decide (encF ((dec b 0 2).1.getD 0 0) (fillF ((dec b 0 2).1.getD 0 0) b (dec b 0 2).2.1 ((dec b 0 2).1.getD 1 0).toNat) = b)
    · rw [h2] at h; exact (congrArg Prod.fst h).symm
    · rw [h2] at h; exact absurd (congrArg Prod.snd h) (by simp)
/-- Both decode the same. -/
theorem dec_same {b : List Int} (hf : ∀ x ∈ b, Fits .u8 x) : decI b = decS b := by
  obtain ⟨⟨v, s⟩, hs⟩ : ∃ r : List Int × Bool, r = decS b := ⟨_, rfl⟩
  obtain ⟨⟨u, t⟩, ht⟩ : ∃ r : List Int × Bool, r = decI b := ⟨_, rfl⟩
  rw [← hs, ← ht]
  cases s
  · have hv := decS_no hs.symm
    cases t
    · rw [hv, decI_no ht.symm]
    · obtain ⟨h1, h2 | h2⟩ := decI_yes hf ht.symm
      · rw [← h2, decS_D h1] at hs; exact absurd (congrArg Prod.snd hs) (by simp)
      · rw [← h2, decS_S h1] at hs; exact absurd (congrArg Prod.snd hs) (by simp)
  · obtain ⟨h1, h2 | h2⟩ := decS_yes hf hs.symm
    · rw [← h2, decI_D h1] at ht; exact ht
    · rw [← h2, decI_S h1] at ht; exact ht
theorem decS_len (b : List Int) : (decS b).1.length ≤ 100 := by
  obtain ⟨⟨v, s⟩, hs⟩ : ∃ r : List Int × Bool, r = decS b := ⟨_, rfl⟩
  rw [← hs]
  cases s
  · rw [decS_no hs.symm]; simp
  · have hk : ∀ (c : Bool) (u : List Int), (bif c then (u, true) else (([], false) : List Int × Bool)) = (v, true) → c = true ∧ u = v := fun c u e => by
      cases c
      · exact absurd (congrArg Prod.snd e) (by simp)
      · exact ⟨rfl, congrArg Prod.fst e⟩
    have hs := hs.symm
    unfold decS at hs
    cases h1 : decide (b = [])
    · rw [h1, cond_false] at hs
      cases h2 : ((rdv b 1).2.2 && decide ((rdv b 1).1 ≤ 40))
      · rw [h2] at hs; exact absurd (congrArg Prod.snd hs) (by simp)
      · rw [h2, cond_true] at hs
        cases h3 : decide (b.getD 0 0 = 0)
        · rw [h3, cond_false] at hs
          obtain ⟨a, rfl⟩ := hk _ _ hs
          simp only [Bool.and_eq_true] at a
          have := vec_len a.2.2
          simp only
          omega
        · rw [h3, cond_true] at hs
          obtain ⟨a, rfl⟩ := hk _ _ hs
          simp only [Bool.and_eq_true] at a
          have := vec_len a.2.2
          simp only
          omega
    · rw [h1] at hs; exact absurd (congrArg Prod.snd hs) (by simp)

/-! the density -/
def ceilN (a m : Nat) : Nat := if a ≤ 1000000000000 ∧ (1 ≤ m ∧ m ≤ 1000000000000) then (a + m - 1) / m else 0
theorem ceilN_yes {a m : Nat} (h1 : a ≤ 1000000000000) (h2 : 1 ≤ m) (h3 : m ≤ 1000000000000) : ceilN a m = (a + m - 1) / m := if_pos ⟨h1, h2, h3⟩
theorem ceilN_no {a m : Nat} (h : ¬ (a ≤ 1000000000000 ∧ (1 ≤ m ∧ m ≤ 1000000000000))) : ceilN a m = 0 := if_neg h
def dens (v : List Int) : Nat := ceilN (100 * cnt v) v.length
theorem dens_le (v : List Int) : dens v ≤ 100 := by
  unfold dens
  have hc := cnt_le v
  by_cases h : 100 * cnt v ≤ 1000000000000 ∧ (1 ≤ v.length ∧ v.length ≤ 1000000000000)
  · rw [ceilN_yes h.1 h.2.1 h.2.2]
    obtain ⟨_, h, _⟩ := h
    exact Nat.le_of_lt_succ ((Nat.div_lt_iff_lt_mul (by omega)).2 (by omega))
  · rw [ceilN_no h]; omega
theorem cnt_lead (v : List Int) : ((cnt v : Int) = 0) ↔ lead v < 0 := by
  have key : ∀ (xs : List Int) (j : Int), 0 ≤ j → ((cnt xs : Int) = 0 ↔ leadFrom j xs < 0) := by
    intro xs
    induction xs with
    | nil => intro j _; simp [cnt, leadFrom]
    | cons x xs ih =>
      intro j hj
      by_cases h : x = 0
      · subst h
        have := ih (j + 1) (by omega)
        simpa [cnt, leadFrom] using this
      · have hb : (x == 0) = false := by simpa using h
        rw [leadFrom, hb, cond_false, cnt, if_neg h]
        omega
  exact key v 0 (Int.le_refl _)
end Go.Proofs.Ytlgmiojlpnoiaaa.Coef
