/-
  Powers modulo a number; the field of 1019 elements and its group modulo 2039, over integers. No program.
-/
import Derived.Lib.Hide
namespace Go.Proofs.Ythhnfbhpdcemfaa.Field

/-- A power modulo m. -/
def pw (a n m : Nat) : Nat := a ^ n % m

theorem pw_lt (a n : Nat) {m : Nat} (hm : 0 < m) : pw a n m < m := Nat.mod_lt _ hm
theorem pw_add (a i j m : Nat) : pw a i m * pw a j m % m = pw a (i + j) m := by
  unfold pw; rw [← Nat.mul_mod, Nat.pow_add]
theorem pw_base (a n m : Nat) : pw (a % m) n m = pw a n m := by
  unfold pw; rw [← Nat.pow_mod]
theorem pw_mul (a i j m : Nat) : pw (pw a i m) j m = pw a (i * j) m := by
  unfold pw; rw [← Nat.pow_mod, Nat.pow_mul]
theorem pw_one (n m : Nat) (hm : 1 < m) : pw 1 n m = 1 := by
  unfold pw; rw [Nat.one_pow, Nat.mod_eq_of_lt hm]
theorem pw_zero (a m : Nat) (hm : 1 < m) : pw a 0 m = 1 := by
  unfold pw; rw [Nat.pow_zero, Nat.mod_eq_of_lt hm]
theorem pw_succ (a n m : Nat) : pw a n m * a % m = pw a (n + 1) m := by
  unfold pw; rw [Nat.mod_mul_mod, Nat.pow_succ]

/-- What squaring and multiplying keeps. -/
def Inv (a0 n0 m out a n : Nat) : Prop := out < m ∧ a < m ∧ out * a ^ n % m = pw a0 n0 m
theorem inv_start {a0 n0 m : Nat} (hm : 1 < m) (ha : a0 < m) : Inv a0 n0 m 1 a0 n0 := ⟨hm, ha, by rw [Nat.one_mul]; rfl⟩
theorem inv_end {a0 n0 m out a : Nat} (h : Inv a0 n0 m out a 0) : out = pw a0 n0 m := by
  obtain ⟨h1, _, h3⟩ := h
  rw [← h3, Nat.pow_zero, Nat.mul_one, Nat.mod_eq_of_lt h1]
theorem sq (a k m : Nat) : (a * a % m) ^ k % m = a ^ (2 * k) % m := by
  rw [← Nat.pow_mod, Nat.pow_mul, Nat.pow_two]
theorem inv_odd {a0 n0 m out a n : Nat} (hm : 0 < m) (h : Inv a0 n0 m out a n) (hn : n % 2 = 1) : Inv a0 n0 m (out * a % m) (a * a % m) (n / 2) := by
  obtain ⟨h1, h2, h3⟩ := h
  refine ⟨Nat.mod_lt _ hm, Nat.mod_lt _ hm, ?_⟩
  have e : n = 2 * (n / 2) + 1 := by omega
  rw [← h3, Nat.mul_mod, Nat.mod_mod, sq, ← Nat.mul_mod, Nat.mul_assoc]
  conv => rhs; rw [e, Nat.pow_succ]
  rw [Nat.mul_comm a]
theorem inv_even {a0 n0 m out a n : Nat} (hm : 0 < m) (h : Inv a0 n0 m out a n) (hn : n % 2 = 0) : Inv a0 n0 m out (a * a % m) (n / 2) := by
  obtain ⟨h1, h2, h3⟩ := h
  refine ⟨h1, Nat.mod_lt _ hm, ?_⟩
  have e : n = 2 * (n / 2) := by omega
  rw [← h3, Nat.mul_mod, sq, ← Nat.mul_mod]
  conv => rhs; rw [e]

/-- The elements. -/
def isEl (x : Int) : Bool := decide (0 ≤ x) && decide (x ≤ 1018)
theorem isEl_iff {x : Int} : isEl x = true ↔ 0 ≤ x ∧ x ≤ 1018 := by unfold isEl; simp
theorem isEl_no {x : Int} : isEl x = false ↔ ¬ (0 ≤ x ∧ x ≤ 1018) := by
  rw [← isEl_iff]; simp
def add (a b : Int) : Int := bif isEl a && isEl b then (a + b) % 1019 else 0
def sub (a b : Int) : Int := bif isEl a && isEl b then (a - b) % 1019 else 0
def mul (a b : Int) : Int := bif isEl a && isEl b then a * b % 1019 else 0
def pow (a n : Int) : Int := bif isEl a && (decide (0 ≤ n) && decide (n ≤ 1000000000000)) then (pw a.toNat n.toNat 1019 : Int) else 0
def inv (a : Int) : Int := bif isEl a && !decide (a = 0) then (pw a.toNat 1017 1019 : Int) else 0
/-- The group's elements. -/
def isG (x : Int) : Bool := (decide (1 ≤ x) && decide (x ≤ 2038)) && decide (pw x.toNat 1019 2039 = 1)
def powG (g n : Int) : Int := bif isG g && isEl n then (pw g.toNat n.toNat 2039 : Int) else 0
def mulG (a b : Int) : Int := bif isG a && isG b then a * b % 2039 else 0

theorem isG_iff {x : Int} : isG x = true ↔ (1 ≤ x ∧ x ≤ 2038) ∧ pw x.toNat 1019 2039 = 1 := by unfold isG; simp

theorem prod_in {a b : Int} {m : Int} (ha0 : 0 ≤ a) (ha1 : a ≤ m) (hb0 : 0 ≤ b) (hb1 : b ≤ m) : 0 ≤ a * b ∧ a * b ≤ m * m :=
  ⟨Int.mul_nonneg ha0 hb0, Int.mul_le_mul ha1 hb1 hb0 (Int.le_trans ha0 ha1)⟩

theorem rem (v q : Int) (hq : 0 < q) : (0 ≤ v.tmod q ∧ v.tmod q = v % q) ∨ (v.tmod q < 0 ∧ v.tmod q = v % q - q) := by
  rcases Int.lt_or_le v 0 with h | h
  · have h2 : (-v).tmod q = (-v) % q := Int.tmod_eq_emod_of_nonneg (by omega)
    rw [Int.neg_tmod] at h2
    have h3 : 0 ≤ (-v) % q := Int.emod_nonneg _ (by omega)
    have h4 : (-v) % q < q := Int.emod_lt_of_pos _ hq
    have h5 : 0 ≤ v % q := Int.emod_nonneg _ (by omega)
    have h6 : v % q < q := Int.emod_lt_of_pos _ hq
    have h7 : (v % q + (-v) % q) % q = 0 := by rw [← Int.add_emod, Int.add_right_neg, Int.zero_emod]
    by_cases h8 : (-v) % q = 0
    · left
      rw [h8, Int.add_zero, Int.emod_emod_of_dvd _ (Int.dvd_refl q)] at h7
      omega
    · right
      refine ⟨by omega, ?_⟩
      by_cases h9 : v % q + (-v) % q < q
      · rw [Int.emod_eq_of_lt (by omega) h9] at h7; omega
      · rw [← Int.sub_emod_right, Int.emod_eq_of_lt (by omega) (by omega)] at h7; omega
  · left
    rw [Int.tmod_eq_emod_of_nonneg h]
    exact ⟨Int.emod_nonneg _ (by omega), rfl⟩

/-- All powers of 2, as bits of one number. -/
def table : Nat → Nat × Nat
  | 0 => (1, 0)
  | k + 1 => let p := table k; (p.1 * 2 % 1019, p.2 ||| 1 <<< p.1)
theorem table_fst (k : Nat) : (table k).1 = pw 2 k 1019 := by
  induction k with
  | zero => rfl
  | succ k ih => show (table k).1 * 2 % 1019 = _; rw [ih, pw_succ]
theorem table_bit (k a : Nat) (h : (table k).2.testBit a = true) : ∃ i, i < k ∧ pw 2 i 1019 = a := by
  induction k with
  | zero => simp [table] at h
  | succ k ih =>
    have e : (table (k + 1)).2 = (table k).2 ||| 1 <<< (table k).1 := rfl
    rw [e, Nat.testBit_or, Bool.or_eq_true] at h
    rcases h with h | h
    · obtain ⟨i, hi, h⟩ := ih h
      exact ⟨i, by omega, h⟩
    · rw [Nat.one_shiftLeft, Nat.testBit_two_pow] at h
      exact ⟨k, by omega, by rw [← table_fst]; simpa using h⟩
theorem full_bit {t n a : Nat} (h : t + 2 = 2 ^ n) (h0 : 0 < a) (h1 : a < n) : t.testBit a = true := by
  obtain rfl : t = 2 ^ n - (1 + 1) := by omega
  rw [Nat.testBit_two_pow_sub_succ (Nat.one_lt_two_pow (by omega)), decide_eq_true h1, Bool.true_and]
  have : Nat.testBit 1 a = false := by
    rw [show (1 : Nat) = 2 ^ 0 from rfl, Nat.testBit_two_pow]; simp; omega
  rw [this]; rfl
theorem gen_of {n t a : Nat} (h : Nat.beq ((table n).2 + 2) (Nat.shiftLeft 1 t) = true) (h0 : 0 < a) (h1 : a < t) : ∃ i, i < n ∧ pw 2 i 1019 = a :=
  table_bit n a (full_bit (n := t) ((Nat.eq_of_beq_eq_true h).trans (Nat.one_shiftLeft t)) h0 h1)
theorem pw_of {k v : Nat} (h : Nat.beq (table k).1 v = true) : pw 2 k 1019 = v := by
  rw [← table_fst]; exact Nat.eq_of_beq_eq_true h
set_option maxRecDepth 100000 in
theorem table_all : Nat.beq ((table 1018).2 + 2) (Nat.shiftLeft 1 1019) = true := by decide +kernel
set_option maxRecDepth 100000 in
theorem table_1018 : Nat.beq (table 1018).1 1 = true := by decide +kernel
set_option maxRecDepth 100000 in
theorem table_1017 : Nat.beq (table 1017).1 510 = true := by decide +kernel
theorem two_generates {a : Nat} (h0 : 0 < a) (h1 : a < 1019) : ∃ i, i < 1018 ∧ pw 2 i 1019 = a := gen_of table_all h0 h1
set_option maxRecDepth 100000 in
theorem two_order : pw 2 1018 1019 = 1 := pw_of table_1018
set_option maxRecDepth 100000 in
theorem half : pw 2 1017 1019 = 510 := pw_of table_1017
theorem absurd_zero {n : Nat} (h0 : 0 < n) (h : pw 0 n 1019 = 1) : False := by
  obtain ⟨k, rfl⟩ : ∃ k, n = k + 1 := ⟨n - 1, by omega⟩
  unfold pw at h
  rw [Nat.pow_succ, Nat.mul_zero] at h
  exact absurd h (by decide)
set_option maxRecDepth 100000 in
theorem fermat {a : Nat} (h0 : 0 < a) (h1 : a < 1019) : pw a 1018 1019 = 1 := by
  obtain ⟨i, _, rfl⟩ := two_generates h0 h1
  rw [pw_mul, Nat.mul_comm, ← pw_mul, two_order, pw_one _ _ (by decide)]
/-- The walk's second part is the inverse. -/
theorem walk_inv (k : Nat) : pw 510 k 1019 = pw (pw 2 k 1019) 1017 1019 := by
  rw [pw_mul, Nat.mul_comm, ← pw_mul, half]
set_option maxRecDepth 100000 in
theorem two_pos (k : Nat) : 0 < pw 2 k 1019 := by
  rcases Nat.eq_zero_or_pos (pw 2 k 1019) with h | h
  · have h2 : pw 2 (k * 1018) 1019 = 1 := by rw [Nat.mul_comm, ← pw_mul, two_order, pw_one _ _ (by decide)]
    rw [← pw_mul, h] at h2
    exact (absurd_zero (by decide) h2).elim
  · exact h
/-- Before its round is done the walk does not meet 1 again. -/
def ones : Nat → Nat × Bool
  | 0 => (2, true)
  | k + 1 => let p := ones k; (p.1 * 2 % 1019, p.2 && !(p.1 == 1))
theorem ones_fst (k : Nat) : (ones k).1 = pw 2 (k + 1) 1019 := by
  induction k with
  | zero => rfl
  | succ k ih => show (ones k).1 * 2 % 1019 = _; rw [ih, pw_succ]
theorem ones_snd (k : Nat) (h : (ones k).2 = true) : ∀ i, i < k → pw 2 (i + 1) 1019 ≠ 1 := by
  induction k with
  | zero => intro i hi; omega
  | succ k ih =>
    have e : (ones (k + 1)).2 = ((ones k).2 && !((ones k).1 == 1)) := rfl
    rw [e, Bool.and_eq_true] at h
    intro i hi
    rcases Nat.lt_or_ge i k with h2 | h2
    · exact ih h.1 i h2
    · obtain rfl : i = k := by omega
      rw [← ones_fst]; simpa using h.2
set_option maxRecDepth 100000 in
theorem ones_all : (ones 1017).2 = true := by decide +kernel
theorem two_not {k : Nat} (h0 : 0 < k) (h1 : k < 1018) : pw 2 k 1019 ≠ 1 := by
  have h := ones_snd 1017 ones_all (k - 1) (by omega)
  rwa [Nat.sub_add_cancel h0] at h

theorem isEl_nat {a : Nat} (h : a < 1019) : isEl (a : Int) = true := isEl_iff.2 ⟨by omega, by omega⟩
theorem mul_nat {a b : Nat} (ha : a < 1019) (hb : b < 1019) : mul (a : Int) (b : Int) = ((a * b % 1019 : Nat) : Int) := by
  unfold mul
  rw [isEl_nat ha, isEl_nat hb, Int.natCast_emod, Int.natCast_mul]; rfl
theorem mul_two (k : Nat) : mul (pw 2 k 1019) 2 = (pw 2 (k + 1) 1019 : Nat) := by
  rw [← pw_succ]; exact mul_nat (pw_lt _ _ (by decide)) (by decide)
theorem mul_half (k : Nat) : mul (pw 510 k 1019) 510 = (pw 510 (k + 1) 1019 : Nat) := by
  rw [← pw_succ]; exact mul_nat (pw_lt _ _ (by decide)) (by decide)
theorem inv_nat {a : Nat} (h0 : 0 < a) (h1 : a < 1019) : inv (a : Int) = (pw a 1017 1019 : Nat) := by
  unfold inv
  rw [isEl_nat h1, Int.toNat_natCast]
  have : decide ((a : Int) = 0) = false := by simp; omega
  rw [this]; rfl
theorem inv_pw (k : Nat) : inv (pw 2 k 1019 : Nat) = (pw 510 k 1019 : Nat) := by
  rw [inv_nat (two_pos k) (pw_lt _ _ (by decide)), walk_inv]
/-- The whole walk has met every element that has an inverse. -/
theorem inv_none {a : Int} (h : ∀ j, j < 1018 → (pw 2 j 1019 : Int) ≠ a) : inv a = 0 := by
  unfold inv
  cases he : isEl a
  · rfl
  · obtain ⟨h0, h1⟩ := isEl_iff.1 he
    by_cases hz : a = 0
    · subst hz; rfl
    · obtain ⟨n, rfl⟩ : ∃ n : Nat, a = n := ⟨a.toNat, by omega⟩
      obtain ⟨i, hi, e⟩ := two_generates (a := n) (by omega) (by omega)
      exact absurd (by rw [e]) (h i hi)
theorem half_order : pw 510 1018 1019 = 1 := by
  rw [← half, pw_mul, Nat.mul_comm, ← pw_mul, two_order, pw_one _ _ (by decide)]

theorem el_mod (x : Int) : isEl (x % 1019) = true := isEl_iff.2 ⟨by omega, by omega⟩
theorem add_el {a b : Int} (ha : isEl a = true) (hb : isEl b = true) : add a b = (a + b) % 1019 := by unfold add; rw [ha, hb]; rfl
theorem sub_el {a b : Int} (ha : isEl a = true) (hb : isEl b = true) : sub a b = (a - b) % 1019 := by unfold sub; rw [ha, hb]; rfl
theorem mul_el {a b : Int} (ha : isEl a = true) (hb : isEl b = true) : mul a b = a * b % 1019 := by unfold mul; rw [ha, hb]; rfl
theorem add_no {a b : Int} (h : (isEl a && isEl b) = false) : add a b = 0 := by unfold add; rw [h]; rfl
theorem sub_no {a b : Int} (h : (isEl a && isEl b) = false) : sub a b = 0 := by unfold sub; rw [h]; rfl
theorem mul_no {a b : Int} (h : (isEl a && isEl b) = false) : mul a b = 0 := by unfold mul; rw [h]; rfl
theorem add_sub {a b : Int} (ha : isEl a = true) (hb : isEl b = true) : add (sub a b) b = a := by
  rw [sub_el ha hb, add_el (el_mod _) hb, Int.emod_add_emod, Int.sub_add_cancel]
  obtain ⟨h0, h1⟩ := isEl_iff.1 ha
  exact Int.emod_eq_of_lt h0 (by omega)
theorem distr {a b c : Int} (ha : isEl a = true) (hb : isEl b = true) (hc : isEl c = true) : add (mul a b) (mul a c) = mul a (add b c) := by
  rw [mul_el ha hb, mul_el ha hc, add_el (el_mod _) (el_mod _), add_el hb hc, mul_el ha (el_mod _), ← Int.add_emod, ← Int.mul_add, Int.mul_emod a ((b + c) % 1019), Int.emod_emod_of_dvd _ (Int.dvd_refl _), ← Int.mul_emod]
theorem mul_swap {a b : Int} (ha : isEl a = true) (hb : isEl b = true) : mul b a = mul a b := by
  rw [mul_el ha hb, mul_el hb ha, Int.mul_comm]
theorem el_nat {a : Int} (ha : isEl a = true) : ∃ n : Nat, a = n ∧ n < 1019 := by
  obtain ⟨h0, h1⟩ := isEl_iff.1 ha
  exact ⟨a.toNat, by omega, by omega⟩
theorem inv_el {a : Int} (ha : isEl a = true) (h : a ≠ 0) : isEl (inv a) = true ∧ inv a ≠ 0 ∧ mul a (inv a) = 1 := by
  obtain ⟨n, rfl, hn⟩ := el_nat ha
  have hp : 0 < n := by omega
  rw [inv_nat hp hn]
  have h1 : mul (n : Int) (pw n 1017 1019 : Nat) = 1 := by
    rw [mul_nat hn (pw_lt _ _ (by decide)), Nat.mul_comm, pw_succ, fermat hp hn]; rfl
  refine ⟨isEl_nat (pw_lt _ _ (by decide)), fun h0 => ?_, h1⟩
  rw [h0, mul_el ha rfl, Int.mul_zero] at h1
  exact absurd h1 (by decide)
theorem inv_0 : inv 0 = 0 := rfl
theorem pow_el {a : Int} {n : Nat} (ha : isEl a = true) (hn : n ≤ 1000000000000) : pow a n = (pw a.toNat n 1019 : Nat) := by
  unfold pow
  have h : (decide ((0 : Int) ≤ n) && decide ((n : Int) ≤ 1000000000000)) = true := by simp; omega
  rw [ha, h, Int.toNat_natCast]; rfl
theorem pow_2 {a : Int} (ha : isEl a = true) : mul a a = pow a 2 := by
  have h := pow_el (n := 2) ha (by decide)
  obtain ⟨n, rfl, hn⟩ := el_nat ha
  rw [show ((2 : Nat) : Int) = 2 from rfl] at h
  rw [h, mul_nat hn hn, Int.toNat_natCast]; unfold pw; rw [Nat.pow_two]
theorem pow_1018 {a : Int} (ha : isEl a = true) (h0 : a ≠ 0) : pow a 1018 = 1 := by
  have h := pow_el (n := 1018) ha (by decide)
  obtain ⟨n, rfl, hn⟩ := el_nat ha
  rw [show ((1018 : Nat) : Int) = 1018 from rfl] at h
  rw [h, Int.toNat_natCast, fermat (by omega) hn]; rfl

/-- Exponents of an element of the group count modulo 1019. -/
theorem period {g : Nat} (h : pw g 1019 2039 = 1) (k : Nat) : pw g (k % 1019) 2039 = pw g k 2039 := by
  conv => rhs; rw [← Nat.div_add_mod k 1019, ← pw_add, ← pw_mul, h, pw_one _ _ (by decide), Nat.one_mul]
  rw [Nat.mod_eq_of_lt (pw_lt _ _ (by decide))]
theorem absurd_zeroG {n : Nat} (h0 : 0 < n) (h : pw 0 n 2039 = 1) : False := by
  obtain ⟨k, rfl⟩ : ∃ k, n = k + 1 := ⟨n - 1, by omega⟩
  unfold pw at h
  rw [Nat.pow_succ, Nat.mul_zero] at h
  exact absurd h (by decide)
theorem isG_pw {g : Nat} (h : pw g 1019 2039 = 1) (k : Nat) : isG (pw g k 2039 : Nat) = true := by
  have h1 : pw (pw g k 2039) 1019 2039 = 1 := by
    rw [pw_mul, Nat.mul_comm, ← pw_mul, h, pw_one _ _ (by decide)]
  have h2 := pw_lt g k (m := 2039) (by decide)
  have h3 : pw g k 2039 ≠ 0 := fun h0 => absurd_zeroG (by decide) (h0 ▸ h1)
  refine isG_iff.2 ⟨⟨by omega, by omega⟩, ?_⟩
  rw [Int.toNat_natCast]; exact h1
theorem powG_el {g : Int} {n : Nat} (hg : isG g = true) (hn : n < 1019) : powG g n = (pw g.toNat n 2039 : Nat) := by
  unfold powG
  rw [hg, isEl_nat hn, Int.toNat_natCast]; rfl
theorem mulG_pw {g : Nat} (h : pw g 1019 2039 = 1) (i j : Nat) : mulG (pw g i 2039 : Nat) (pw g j 2039 : Nat) = (pw g (i + j) 2039 : Nat) := by
  unfold mulG
  rw [isG_pw h, isG_pw h, ← pw_add, Int.natCast_emod, Int.natCast_mul]; rfl
theorem powG_no {g n : Int} (h : (isG g && isEl n) = false) : powG g n = 0 := by unfold powG; rw [h]; rfl
theorem mulG_no {g n : Int} (h : isG g = false) : mulG g n = 0 := by unfold mulG; rw [h]; rfl
/-- What the law on the group asks of an element and two exponents. -/
theorem groupLaw {g n m : Int} (hg : isG g = true) (hn : isEl n = true) (hm : isEl m = true) :
    isG (powG g n) = true ∧ mulG (powG g n) (powG g m) = powG g (add n m) ∧ powG g 0 = 1 ∧ mulG g (powG g 1018) = 1 := by
  have h := (isG_iff.1 hg).2
  obtain ⟨⟨g0, g1⟩, _⟩ := isG_iff.1 hg
  obtain ⟨i, rfl, hi⟩ := el_nat hn
  obtain ⟨j, rfl, hj⟩ := el_nat hm
  have e18 := powG_el (n := 1018) hg (by decide)
  have e0 := powG_el (n := 0) hg (by decide)
  rw [show ((1018 : Nat) : Int) = 1018 from rfl] at e18
  rw [show ((0 : Nat) : Int) = 0 from rfl] at e0
  rw [powG_el hg hi, powG_el hg hj, add_el hn hm, e18, e0]
  rw [show ((i : Int) + j) % 1019 = (((i + j) % 1019 : Nat) : Int) by omega, powG_el hg (Nat.mod_lt _ (by decide)), period h, mulG_pw h]
  refine ⟨isG_pw h _, rfl, by rw [pw_zero _ _ (by decide)]; rfl, ?_⟩
  have e1 : g = (pw g.toNat 1 2039 : Nat) := by
    unfold pw; rw [Nat.pow_one, Nat.mod_eq_of_lt (by omega)]; omega
  conv => lhs; arg 1; rw [e1]
  rw [mulG_pw h, h]; rfl
end Go.Proofs.Ythhnfbhpdcemfaa.Field
