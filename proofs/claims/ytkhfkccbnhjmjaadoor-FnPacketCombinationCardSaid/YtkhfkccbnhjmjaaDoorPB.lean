/-
  Powers modulo a number; the field of 1019 elements and its group modulo 2039, over integers. No program.
  Vectors over the field of 1019 elements, as lists: over Fin 1019, and the lists of integers that stand for them. No program.
  Combinations of vectors over the field: they are linear in the coefficients, and a unit vector picks a row. No program.
  Matrices as lists of lists: what the functions of chapter 6 answer. No program.
  Varints as lists of numbers. No program.
  Reading a varint, as a function of lists. No program.
  Byte strings and lists of integers, encoded and decoded, as functions of lists. No program.
  What is encoded is decoded, and what is decoded is an encoding: on lists. No program.
  Decimal numerals as lists of bytes: the numerals of 0 to 10^12 are exactly what both ways of parsing accept. Plain mathematics, no program.
  The text of a list of numbers: each by its decimal numeral, a comma behind it. No program.
  The hash as a fold over a list; ciphers as maps over a list with its places. No program.
-/
import Derived.Lib.Hide
import Derived.Test.YtkhfkccbnhjmjaaDoorPA
import Derived.Lib.AtoiAllCases
import Derived.Lib.ItoaMem
import Derived.Lib.ItoaLen
import Derived.WalkKit
namespace Go.Proofs.YtkhfkccbnhjmjaaDoor.Field

/-- A power modulo m. -/
def pw (a n m : Nat) : Nat := a ^ n % m

theorem pw_lt (a n : Nat) {m : Nat} (hm : 0 < m) : pw a n m < m := Nat.mod_lt _ hm
theorem pw_mul (a i j m : Nat) : pw (pw a i m) j m = pw a (i * j) m := by
  unfold pw; rw [← Nat.pow_mod, Nat.pow_mul]
theorem pw_one (n m : Nat) (hm : 1 < m) : pw 1 n m = 1 := by
  unfold pw; rw [Nat.one_pow, Nat.mod_eq_of_lt hm]
theorem pw_succ (a n m : Nat) : pw a n m * a % m = pw a (n + 1) m := by
  unfold pw; rw [Nat.mod_mul_mod, Nat.pow_succ]

/-- What squaring and multiplying keeps. -/
def Inv (a0 n0 m out a n : Nat) : Prop := out < m ∧ a < m ∧ out * a ^ n % m = pw a0 n0 m
theorem inv_start {a0 n0 m : Nat} (hm : 1 < m) (ha : a0 < m) : Inv a0 n0 m 1 a0 n0 := ⟨hm, ha, by rw [Nat.one_mul]; rfl⟩
theorem inv_end {a0 n0 m out a : Nat} (h : Inv a0 n0 m out a 0) : out = pw a0 n0 m := by
  obtain ⟨h1, _, h3⟩ := h
  rw [← h3, Nat.pow_zero, Nat.mul_one, Nat.mod_eq_of_lt h1]
theorem sq (a k m : Nat) : (a * a % m) ^ k % m = a ^ (2 * k) % m := by
  rw [← Nat.pow_mod, Nat.pow_mul, Nat.pow_two]
theorem inv_odd {a0 n0 m out a n : Nat} (hm : 0 < m) (h : Inv a0 n0 m out a n) (hn : n % 2 = 1) : Inv a0 n0 m (out * a % m) (a * a % m) (n / 2) := by
  obtain ⟨h1, h2, h3⟩ := h
  refine ⟨Nat.mod_lt _ hm, Nat.mod_lt _ hm, ?_⟩
  have e : n = 2 * (n / 2) + 1 := by omega
  rw [← h3, Nat.mul_mod, Nat.mod_mod, sq, ← Nat.mul_mod, Nat.mul_assoc]
  conv => rhs; rw [e, Nat.pow_succ]
  rw [Nat.mul_comm a]
theorem inv_even {a0 n0 m out a n : Nat} (hm : 0 < m) (h : Inv a0 n0 m out a n) (hn : n % 2 = 0) : Inv a0 n0 m out (a * a % m) (n / 2) := by
  obtain ⟨h1, h2, h3⟩ := h
  refine ⟨h1, Nat.mod_lt _ hm, ?_⟩
  have e : n = 2 * (n / 2) := by omega
  rw [← h3, Nat.mul_mod, sq, ← Nat.mul_mod]
  conv => rhs; rw [e]

/-- The elements. -/
def isEl (x : Int) : Bool := decide (0 ≤ x) && decide (x ≤ 1018)
theorem isEl_iff {x : Int} : isEl x = true ↔ 0 ≤ x ∧ x ≤ 1018 := by unfold isEl; simp
def add (a b : Int) : Int := bif isEl a && isEl b then (a + b) % 1019 else 0
def mul (a b : Int) : Int := bif isEl a && isEl b then a * b % 1019 else 0
def inv (a : Int) : Int := bif isEl a && !decide (a = 0) then (pw a.toNat 1017 1019 : Int) else 0
theorem prod_in {a b : Int} {m : Int} (ha0 : 0 ≤ a) (ha1 : a ≤ m) (hb0 : 0 ≤ b) (hb1 : b ≤ m) : 0 ≤ a * b ∧ a * b ≤ m * m :=
  ⟨Int.mul_nonneg ha0 hb0, Int.mul_le_mul ha1 hb1 hb0 (Int.le_trans ha0 ha1)⟩

theorem rem (v q : Int) (hq : 0 < q) : (0 ≤ v.tmod q ∧ v.tmod q = v % q) ∨ (v.tmod q < 0 ∧ v.tmod q = v % q - q) := by
  rcases Int.lt_or_le v 0 with h | h
  · have h2 : (-v).tmod q = (-v) % q := Int.tmod_eq_emod_of_nonneg (by omega)
    rw [Int.neg_tmod] at h2
    have h3 : 0 ≤ (-v) % q := Int.emod_nonneg _ (by omega)
    have h4 : (-v) % q < q := Int.emod_lt_of_pos _ hq
    have h5 : 0 ≤ v % q := Int.emod_nonneg _ (by omega)
    have h6 : v % q < q := Int.emod_lt_of_pos _ hq
    have h7 : (v % q + (-v) % q) % q = 0 := by rw [← Int.add_emod, Int.add_right_neg, Int.zero_emod]
    by_cases h8 : (-v) % q = 0
    · left
      rw [h8, Int.add_zero, Int.emod_emod_of_dvd _ (Int.dvd_refl q)] at h7
      omega
    · right
      refine ⟨by omega, ?_⟩
      by_cases h9 : v % q + (-v) % q < q
      · rw [Int.emod_eq_of_lt (by omega) h9] at h7; omega
      · rw [← Int.sub_emod_right, Int.emod_eq_of_lt (by omega) (by omega)] at h7; omega
  · left
    rw [Int.tmod_eq_emod_of_nonneg h]
    exact ⟨Int.emod_nonneg _ (by omega), rfl⟩

/-- All powers of 2, as bits of one number. -/
def table : Nat → Nat × Nat
  | 0 => (1, 0)
  | k + 1 => let p := table k; (p.1 * 2 % 1019, p.2 ||| 1 <<< p.1)
theorem table_fst (k : Nat) : (table k).1 = pw 2 k 1019 := by
  induction k with
  | zero => rfl
  | succ k ih => show (table k).1 * 2 % 1019 = _; rw [ih, pw_succ]
theorem table_bit (k a : Nat) (h : (table k).2.testBit a = true) : ∃ i, i < k ∧ pw 2 i 1019 = a := by
  induction k with
  | zero => simp [table] at h
  | succ k ih =>
    have e : (table (k + 1)).2 = (table k).2 ||| 1 <<< (table k).1 := rfl
    rw [e, Nat.testBit_or, Bool.or_eq_true] at h
    rcases h with h | h
    · obtain ⟨i, hi, h⟩ := ih h
      exact ⟨i, by omega, h⟩
    · rw [Nat.one_shiftLeft, Nat.testBit_two_pow] at h
      exact ⟨k, by omega, by rw [← table_fst]; simpa using h⟩
theorem full_bit {t n a : Nat} (h : t + 2 = 2 ^ n) (h0 : 0 < a) (h1 : a < n) : t.testBit a = true := by
  obtain rfl : t = 2 ^ n - (1 + 1) := by omega
  rw [Nat.testBit_two_pow_sub_succ (Nat.one_lt_two_pow (by omega)), decide_eq_true h1, Bool.true_and]
  have : Nat.testBit 1 a = false := by
    rw [show (1 : Nat) = 2 ^ 0 from rfl, Nat.testBit_two_pow]; simp; omega
  rw [this]; rfl
theorem gen_of {n t a : Nat} (h : Nat.beq ((table n).2 + 2) (Nat.shiftLeft 1 t) = true) (h0 : 0 < a) (h1 : a < t) : ∃ i, i < n ∧ pw 2 i 1019 = a :=
  table_bit n a (full_bit (n := t) ((Nat.eq_of_beq_eq_true h).trans (Nat.one_shiftLeft t)) h0 h1)
theorem pw_of {k v : Nat} (h : Nat.beq (table k).1 v = true) : pw 2 k 1019 = v := by
  rw [← table_fst]; exact Nat.eq_of_beq_eq_true h
set_option maxRecDepth 100000 in
theorem table_all : Nat.beq ((table 1018).2 + 2) (Nat.shiftLeft 1 1019) = true := by decide +kernel
set_option maxRecDepth 100000 in
theorem table_1018 : Nat.beq (table 1018).1 1 = true := by decide +kernel
theorem two_generates {a : Nat} (h0 : 0 < a) (h1 : a < 1019) : ∃ i, i < 1018 ∧ pw 2 i 1019 = a := gen_of table_all h0 h1
set_option maxRecDepth 100000 in
theorem two_order : pw 2 1018 1019 = 1 := pw_of table_1018
set_option maxRecDepth 100000 in
theorem fermat {a : Nat} (h0 : 0 < a) (h1 : a < 1019) : pw a 1018 1019 = 1 := by
  obtain ⟨i, _, rfl⟩ := two_generates h0 h1
  rw [pw_mul, Nat.mul_comm, ← pw_mul, two_order, pw_one _ _ (by decide)]
/-- Before its round is done the walk does not meet 1 again. -/
def ones : Nat → Nat × Bool
  | 0 => (2, true)
  | k + 1 => let p := ones k; (p.1 * 2 % 1019, p.2 && !(p.1 == 1))
theorem isEl_nat {a : Nat} (h : a < 1019) : isEl (a : Int) = true := isEl_iff.2 ⟨by omega, by omega⟩
theorem mul_nat {a b : Nat} (ha : a < 1019) (hb : b < 1019) : mul (a : Int) (b : Int) = ((a * b % 1019 : Nat) : Int) := by
  unfold mul
  rw [isEl_nat ha, isEl_nat hb, Int.natCast_emod, Int.natCast_mul]; rfl
theorem inv_nat {a : Nat} (h0 : 0 < a) (h1 : a < 1019) : inv (a : Int) = (pw a 1017 1019 : Nat) := by
  unfold inv
  rw [isEl_nat h1, Int.toNat_natCast]
  have : decide ((a : Int) = 0) = false := by simp; omega
  rw [this]; rfl
/-- The whole walk has met every element that has an inverse. -/
theorem inv_none {a : Int} (h : ∀ j, j < 1018 → (pw 2 j 1019 : Int) ≠ a) : inv a = 0 := by
  unfold inv
  cases he : isEl a
  · rfl
  · obtain ⟨h0, h1⟩ := isEl_iff.1 he
    by_cases hz : a = 0
    · subst hz; rfl
    · obtain ⟨n, rfl⟩ : ∃ n : Nat, a = n := ⟨a.toNat, by omega⟩
      obtain ⟨i, hi, e⟩ := two_generates (a := n) (by omega) (by omega)
      exact absurd (by rw [e]) (h i hi)
theorem add_el {a b : Int} (ha : isEl a = true) (hb : isEl b = true) : add a b = (a + b) % 1019 := by unfold add; rw [ha, hb]; rfl
theorem mul_el {a b : Int} (ha : isEl a = true) (hb : isEl b = true) : mul a b = a * b % 1019 := by unfold mul; rw [ha, hb]; rfl
theorem el_nat {a : Int} (ha : isEl a = true) : ∃ n : Nat, a = n ∧ n < 1019 := by
  obtain ⟨h0, h1⟩ := isEl_iff.1 ha
  exact ⟨a.toNat, by omega, by omega⟩
theorem inv_el {a : Int} (ha : isEl a = true) (h : a ≠ 0) : isEl (inv a) = true ∧ inv a ≠ 0 ∧ mul a (inv a) = 1 := by
  obtain ⟨n, rfl, hn⟩ := el_nat ha
  have hp : 0 < n := by omega
  rw [inv_nat hp hn]
  have h1 : mul (n : Int) (pw n 1017 1019 : Nat) = 1 := by
    rw [mul_nat hn (pw_lt _ _ (by decide)), Nat.mul_comm, pw_succ, fermat hp hn]; rfl
  refine ⟨isEl_nat (pw_lt _ _ (by decide)), fun h0 => ?_, h1⟩
  rw [h0, mul_el ha rfl, Int.mul_zero] at h1
  exact absurd h1 (by decide)
end Go.Proofs.YtkhfkccbnhjmjaaDoor.Field
namespace Go.Proofs.YtkhfkccbnhjmjaaDoor.Vec
open Go.Proofs.YtkhfkccbnhjmjaaDoor.Field

abbrev F := Fin 1019
/-- The integer of an element. -/
def em (x : F) : Int := (x.val : Int)
theorem em_in (x : F) : 0 ≤ em x ∧ em x ≤ 1018 := by unfold em; have := x.isLt; omega
theorem em_el (x : F) : isEl (em x) = true := isEl_iff.2 (em_in x)
theorem em_inj {x y : F} (h : em x = em y) : x = y := Fin.ext (by unfold em at h; omega)
theorem em_add (x y : F) : em (x + y) = (em x + em y) % 1019 := by unfold em; rw [Fin.val_add]; omega
theorem em_mul (x y : F) : em (x * y) = em x * em y % 1019 := by unfold em; rw [Fin.val_mul, Int.natCast_emod, Int.natCast_mul]; rfl
theorem em_sub (x y : F) : em (x - y) = (em x - em y) % 1019 := by
  have h : em (x - y + y) = em x := by rw [show x - y + y = x by grind]
  rw [em_add] at h
  have h1 := em_in (x - y)
  have h2 := em_in x
  have h3 := em_in y
  omega
theorem em_0 : em 0 = 0 := rfl
theorem em_mac (x y k : F) : em (x + y * k) = (em x + em y * em k) % 1019 := by
  rw [em_add, em_mul]; omega
theorem of_el {x : Int} (h : isEl x = true) : ∃ y : F, em y = x := by
  obtain ⟨h0, h1⟩ := isEl_iff.1 h
  exact ⟨⟨x.toNat, by omega⟩, by unfold em; simp; omega⟩
theorem add_em (x y : F) : add (em x) (em y) = em (x + y) := by rw [add_el (em_el x) (em_el y), em_add]
theorem mul_em (x y : F) : mul (em x) (em y) = em (x * y) := by rw [mul_el (em_el x) (em_el y), em_mul]
/-- The list of integers of a vector. -/
def ems (xs : List F) : List Int := xs.map em
theorem ems_len (xs : List F) : (ems xs).length = xs.length := by simp [ems]
/-- A valid vector. -/
def isVec (xs : List Int) : Bool := xs.all isEl && decide (xs.length ≤ 40)
theorem isVec_iff {xs : List Int} : isVec xs = true ↔ (∀ x ∈ xs, isEl x = true) ∧ xs.length ≤ 40 := by unfold isVec; simp
theorem isVec_ems {xs : List F} (h : xs.length ≤ 40) : isVec (ems xs) = true := by
  refine isVec_iff.2 ⟨fun x hx => ?_, by rw [ems_len]; exact h⟩
  obtain ⟨y, _, rfl⟩ := List.mem_map.1 hx
  exact em_el y
theorem all_ems {xs : List Int} (h : ∀ x ∈ xs, isEl x = true) : ∃ ys, ems ys = xs := by
  induction xs with
  | nil => exact ⟨[], rfl⟩
  | cons x xs ih =>
    obtain ⟨ys, rfl⟩ := ih fun y hy => h y (by simp [hy])
    obtain ⟨y, rfl⟩ := of_el (h x (by simp))
    exact ⟨y :: ys, rfl⟩
theorem of_vec {xs : List Int} (h : isVec xs = true) : ∃ ys, ems ys = xs ∧ ys.length ≤ 40 := by
  obtain ⟨h1, h2⟩ := isVec_iff.1 h
  obtain ⟨ys, rfl⟩ := all_ems h1
  exact ⟨ys, rfl, by rw [ems_len] at h2; exact h2⟩

/-- What the functions of the layer answer. -/
def mac (xs ys : List Int) (k : Int) : List Int := List.zipWith (fun x y => (x + y * k) % 1019) xs ys
def addScaled (xs ys : List Int) (k : Int) : List Int := bif ((isVec xs && isVec ys) && (xs.length == ys.length)) && isEl k then mac xs ys k else []
def scaled (xs : List Int) (k : Int) : List Int := xs.map fun x => x * k % 1019
def scale (xs : List Int) (k : Int) : List Int := bif isVec xs && isEl k then scaled xs k else []
def leadFrom : Int → List Int → Int
  | _, [] => -1
  | j, x :: xs => bif x == 0 then leadFrom (j + 1) xs else j
def lead (xs : List Int) : Int := leadFrom 0 xs
def units (n : Nat) (i : Int) : List Int := (List.range n).map fun (j : Nat) => bif (j : Int) == i then 1 else 0
def unit (n i : Int) : List Int := bif (decide (0 ≤ n) && decide (n ≤ 40)) && (decide (0 ≤ i) && decide (i ≤ n - 1)) then units n.toNat i else []

/-- .. over the field. -/
def macF (xs ys : List F) (k : F) : List F := List.zipWith (fun x y => x + y * k) xs ys
theorem mac_ems (xs ys : List F) (k : F) : mac (ems xs) (ems ys) (em k) = ems (macF xs ys k) := by
  unfold mac ems macF
  rw [List.zipWith_map, List.map_zipWith]
  congr 1; funext x y; exact (em_mac x y k).symm
theorem macF_len {xs ys : List F} {k : F} (h : xs.length = ys.length) : (macF xs ys k).length = xs.length := by simp [macF, h]
theorem addScaled_ems {xs ys : List F} {k : F} (h : xs.length = ys.length) (h2 : xs.length ≤ 40) : addScaled (ems xs) (ems ys) (em k) = ems (macF xs ys k) := by
  unfold addScaled
  rw [isVec_ems h2, isVec_ems (h ▸ h2), em_el, ems_len, ems_len, h]
  simp [mac_ems]
theorem scale_ems {xs : List F} {k : F} (h2 : xs.length ≤ 40) : scale (ems xs) (em k) = ems (xs.map (· * k)) := by
  unfold scale
  rw [isVec_ems h2, em_el]
  simp only [Bool.and_self, cond_true, scaled, ems, List.map_map]
  refine List.map_congr_left fun x _ => (em_mul x k).symm
/-! What the walks ask. -/
theorem take_more {α : Type} {xs : List α} {j : Nat} {x : α} (hx : xs[j]? = some x) : xs.take (j + 1) = xs.take j ++ [x] := by
  rw [List.take_add_one, hx]; rfl
theorem isVec_no_at {xs : List Int} {j : Nat} {x : Int} (hx : xs[j]? = some x) (h : isEl x = false) : isVec xs = false := by
  unfold isVec
  have : xs.all isEl = false := by
    rw [List.all_eq_false]; exact ⟨x, List.mem_of_getElem? hx, by rw [h]; simp⟩
  rw [this]; rfl
theorem isVec_all {xs : List Int} {n : Nat} (hl : xs.length = n) (h : ∀ x ∈ xs.take n, isEl x = true) : isVec xs = decide ((n : Int) ≤ 40) := by
  unfold isVec
  rw [List.take_of_length_le (Nat.le_of_eq hl)] at h
  have : xs.all isEl = true := List.all_eq_true.2 h
  rw [this, hl, Bool.true_and]; congr 1; simp; omega
theorem all_more {xs : List Int} {j : Nat} {x : Int} (hx : xs[j]? = some x) (h : ∀ y ∈ xs.take j, isEl y = true) (h1 : isEl x = true) : ∀ y ∈ xs.take (j + 1), isEl y = true := by
  rw [take_more hx]
  intro y hy
  rcases List.mem_append.1 hy with hy | hy
  · exact h y hy
  · obtain rfl := List.mem_singleton.1 hy; exact h1
theorem vec_el {xs : List Int} {j : Nat} {x : Int} (hv : isVec xs = true) (hx : xs[j]? = some x) : 0 ≤ x ∧ x ≤ 1018 :=
  isEl_iff.1 ((isVec_iff.1 hv).1 x (List.mem_of_getElem? hx))
theorem mac_get {xs ys : List Int} {k x y : Int} {j : Nat} (hx : xs[j]? = some x) (hy : ys[j]? = some y) : (mac xs ys k)[j]? = some ((x + y * k) % 1019) := by
  unfold mac; rw [List.getElem?_zipWith, hx, hy]
theorem mac_len {xs ys : List Int} (k : Int) (h : xs.length = ys.length) : (mac xs ys k).length = xs.length := by unfold mac; simp [h]
theorem scaled_get {xs : List Int} {k x : Int} {j : Nat} (hx : xs[j]? = some x) : (scaled xs k)[j]? = some (x * k % 1019) := by
  unfold scaled; rw [List.getElem?_map, hx]; rfl
theorem scaled_len (xs : List Int) (k : Int) : (scaled xs k).length = xs.length := by unfold scaled; simp
theorem lead_at {xs : List Int} {j : Nat} {x : Int} (hx : xs[j]? = some x) (h : ∀ y ∈ xs.take j, y = 0) (hne : x ≠ 0) (c : Int) : leadFrom c xs = c + j := by
  induction xs generalizing j c with
  | nil => simp at hx
  | cons a xs ih =>
    cases j with
    | zero =>
      obtain rfl : a = x := by simpa using hx
      have : (a == 0) = false := by simpa using hne
      simp [leadFrom, this]
    | succ j =>
      have ha : a = 0 := h a (by simp)
      rw [show leadFrom c (a :: xs) = leadFrom (c + 1) xs by simp [leadFrom, ha], ih (by simpa using hx) (fun y hy => h y (by simp [hy])) (c + 1)]
      omega
theorem lead_no {xs : List Int} (h : ∀ y ∈ xs, y = 0) (c : Int) : leadFrom c xs = -1 := by
  induction xs generalizing c with
  | nil => rfl
  | cons a xs ih =>
    have ha : a = 0 := h a (by simp)
    rw [show leadFrom c (a :: xs) = leadFrom (c + 1) xs by simp [leadFrom, ha], ih (fun y hy => h y (by simp [hy]))]
theorem zero_more {xs : List Int} {j : Nat} (hx : xs[j]? = some 0) (h : ∀ y ∈ xs.take j, y = 0) : ∀ y ∈ xs.take (j + 1), y = 0 := by
  rw [take_more hx]
  intro y hy
  rcases List.mem_append.1 hy with hy | hy
  · exact h y hy
  · exact List.mem_singleton.1 hy
/-- What Combine answers. -/
def combs (ws : Nat) (xss : List (List Int)) (cs : List Int) : List Int := (List.zip xss cs).foldl (fun acc p => addScaled acc p.1 p.2) (List.replicate ws 0)
def okRows (ws : Nat) (xss : List (List Int)) : Bool := xss.all fun xs => isVec xs && (xs.length == ws)
def combine (xss : List (List Int)) (cs : List Int) : List Int :=
  match xss with
  | [] => []
  | xs :: _ => bif ((xss.length == cs.length) && isVec cs) && okRows xs.length xss then combs xs.length xss cs else []
theorem combs_more {ws : Nat} {xss : List (List Int)} {cs xs : List Int} {c : Int} {j : Nat} (hx : xss[j]? = some xs) (hc : cs[j]? = some c) :
    combs ws (xss.take (j + 1)) (cs.take (j + 1)) = addScaled (combs ws (xss.take j) (cs.take j)) xs c := by
  unfold combs
  rw [take_more hx, take_more hc, List.zip_append (by
    have h1 := (List.getElem?_eq_some_iff.1 hx).1
    have h2 := (List.getElem?_eq_some_iff.1 hc).1
    simp; omega), List.foldl_append]
  rfl
theorem combine_len {xss : List (List Int)} {cs : List Int} (h : xss.length ≠ cs.length) : combine xss cs = [] := by
  cases xss with
  | nil => rfl
  | cons xs r =>
    have : ((xs :: r).length == cs.length) = false := by simpa using h
    unfold combine; simp only [this]; rfl
theorem combine_cs {xss : List (List Int)} {cs : List Int} (h : isVec cs = false) : combine xss cs = [] := by
  cases xss with
  | nil => rfl
  | cons xs r => unfold combine; simp [h]
theorem combine_row {xss : List (List Int)} {cs xs ys : List Int} {j : Nat} (h0 : xss[0]? = some xs) (hj : xss[j]? = some ys) (h : (isVec ys && (ys.length == xs.length)) = false) : combine xss cs = [] := by
  cases xss with
  | nil => rfl
  | cons x r =>
    obtain rfl : x = xs := by simpa using h0
    have : okRows x.length (x :: r) = false := by
      unfold okRows
      rw [List.all_eq_false]; exact ⟨ys, List.mem_of_getElem? hj, by rw [h]; simp⟩
    unfold combine; simp only [this, Bool.and_false]; rfl
theorem combine_ok {xss : List (List Int)} {cs xs : List Int} {n : Nat} (h0 : xss[0]? = some xs) (hn : xss.length = n) (hl : xss.length = cs.length) (hv : isVec cs = true) (h : ∀ ys ∈ xss.take n, (isVec ys && (ys.length == xs.length)) = true) : combine xss cs = combs xs.length (xss.take n) (cs.take n) := by
  rw [List.take_of_length_le (Nat.le_of_eq hn)] at h ⊢
  rw [List.take_of_length_le (by omega)]
  cases xss with
  | nil => simp at h0
  | cons x r =>
    obtain rfl : x = xs := by simpa using h0
    have h1 : okRows x.length (x :: r) = true := List.all_eq_true.2 h
    have h2 : ((x :: r).length == cs.length) = true := by simpa using hl
    unfold combine; simp only [h1, h2, hv]; rfl
theorem rows_more {xss : List (List Int)} {ys : List Int} {j W : Nat} (hx : xss[j]? = some ys) (h : ∀ y ∈ xss.take j, (isVec y && (y.length == W)) = true) (h1 : (isVec ys && (ys.length == W)) = true) : ∀ y ∈ xss.take (j + 1), (isVec y && (y.length == W)) = true := by
  rw [take_more hx]
  intro y hy
  rcases List.mem_append.1 hy with hy | hy
  · exact h y hy
  · obtain rfl := List.mem_singleton.1 hy; exact h1
theorem addScaled_le (xs ys : List Int) (k : Int) : (addScaled xs ys k).length ≤ xs.length := by
  unfold addScaled
  cases (isVec xs && isVec ys && (xs.length == ys.length)) && isEl k
  · exact Nat.zero_le _
  · show (mac xs ys k).length ≤ _
    unfold mac; rw [List.length_zipWith]; omega
end Go.Proofs.YtkhfkccbnhjmjaaDoor.Vec
namespace Go.Proofs.YtkhfkccbnhjmjaaDoor.Vec
open Go.Proofs.YtkhfkccbnhjmjaaDoor.Field

/-- The sum of rows, each times its coefficient, on top of a. -/
def foldC (a : List F) : List (List F) → List F → List F
  | r :: rs, c :: cs => foldC (macF a r c) rs cs
  | _, _ => a
theorem foldC_len {a : List F} {rs : List (List F)} {cs : List F} {W : Nat} (ha : a.length = W) (h : ∀ r ∈ rs, r.length = W) : (foldC a rs cs).length = W := by
  induction rs generalizing a cs with
  | nil => cases cs <;> exact ha
  | cons r rs ih =>
    cases cs with
    | nil => exact ha
    | cons c cs => exact ih ((macF_len (ha.trans (h r (by simp)).symm)).trans ha) fun r' hr => h r' (by simp [hr])
theorem mix (a b r : List F) (c d : F) (h1 : a.length = r.length) (h2 : b.length = r.length) : macF (macF a b 1) r (c + d * 1) = macF (macF a r c) (macF b r d) 1 := by
  induction r generalizing a b with
  | nil =>
    obtain rfl : a = [] := by simpa using h1
    simp [macF]
  | cons x r ih =>
    cases a with
    | nil => simp at h1
    | cons y a =>
      cases b with
      | nil => simp at h2
      | cons z b =>
        have := ih a b (by simpa using h1) (by simpa using h2)
        show (y + z * 1 + x * (c + d * 1)) :: macF (macF a b 1) r (c + d * 1) = (y + x * c + (z + x * d) * 1) :: macF (macF a r c) (macF b r d) 1
        rw [this]; congr 1; grind
theorem foldC_add {a b : List F} {rs : List (List F)} {cs ds : List F} {W : Nat} (ha : a.length = W) (hb : b.length = W) (h : ∀ r ∈ rs, r.length = W) (hl : cs.length = ds.length) :
    foldC (macF a b 1) rs (macF cs ds 1) = macF (foldC a rs cs) (foldC b rs ds) 1 := by
  induction rs generalizing a b cs ds with
  | nil => simp [foldC]
  | cons r rs ih =>
    cases cs with
    | nil =>
      obtain rfl : ds = [] := by simpa using hl.symm
      simp [foldC, macF]
    | cons c cs =>
      cases ds with
      | nil => simp at hl
      | cons d ds =>
        have hr := h r (by simp)
        show foldC (macF (macF a b 1) r (c + d * 1)) rs (macF cs ds 1) = macF (foldC (macF a r c) rs cs) (foldC (macF b r d) rs ds) 1
        rw [mix a b r c d (ha.trans hr.symm) (hb.trans hr.symm)]
        exact ih ((macF_len (ha.trans hr.symm)).trans ha) ((macF_len (hb.trans hr.symm)).trans hb) (fun r' hr' => h r' (by simp [hr'])) (by simpa using hl)
theorem mac_map (a r : List F) (c k : F) : macF (a.map (· * k)) r (c * k) = (macF a r c).map (· * k) := by
  unfold macF
  rw [List.zipWith_map_left, List.map_zipWith]
  congr 1; funext x y; grind
theorem foldC_scale (a : List F) (rs : List (List F)) (cs : List F) (k : F) : foldC (a.map (· * k)) rs (cs.map (· * k)) = (foldC a rs cs).map (· * k) := by
  induction rs generalizing a cs with
  | nil => simp [foldC]
  | cons r rs ih =>
    cases cs with
    | nil => simp [foldC]
    | cons c cs =>
      show foldC (macF (a.map (· * k)) r (c * k)) rs (cs.map (· * k)) = (foldC (macF a r c) rs cs).map (· * k)
      rw [mac_map]; exact ih _ _
theorem mac_0 {a r : List F} (h : a.length = r.length) : macF a r 0 = a := by
  induction r generalizing a with
  | nil =>
    obtain rfl : a = [] := by simpa using h
    rfl
  | cons x r ih =>
    cases a with
    | nil => simp at h
    | cons y a =>
      show (y + x * 0) :: macF a r 0 = y :: a
      rw [ih (by simpa using h)]; congr 1; grind
theorem zeros_mac {r : List F} {W : Nat} (h : r.length = W) : macF (List.replicate W 0) r 1 = r := by
  subst h
  induction r with
  | nil => rfl
  | cons x r ih =>
    show (0 + x * 1) :: macF (List.replicate r.length 0) r 1 = x :: r
    rw [ih]; congr 1; grind
theorem foldC_zeros {a : List F} {rs : List (List F)} {n W : Nat} (ha : a.length = W) (h : ∀ r ∈ rs, r.length = W) : foldC a rs (List.replicate n 0) = a := by
  induction rs generalizing n with
  | nil => simp [foldC]
  | cons r rs ih =>
    cases n with
    | zero => simp [foldC]
    | succ n =>
      show foldC (macF a r 0) rs (List.replicate n 0) = a
      rw [mac_0 (ha.trans (h r (by simp)).symm)]
      exact ih fun r' hr => h r' (by simp [hr])
/-- The rows of integers. -/
def emss (rs : List (List F)) : List (List Int) := rs.map ems
theorem combs_fold (a : List F) (rs : List (List F)) (cs : List F) {W : Nat} (hW : W ≤ 40) (ha : a.length = W) (h : ∀ r ∈ rs, r.length = W) :
    (List.zip (emss rs) (ems cs)).foldl (fun acc p => addScaled acc p.1 p.2) (ems a) = ems (foldC a rs cs) := by
  induction rs generalizing a cs with
  | nil => cases cs <;> rfl
  | cons r rs ih =>
    cases cs with
    | nil => rfl
    | cons c cs =>
      have hr := h r (by simp)
      show (List.zip (emss rs) (ems cs)).foldl (fun acc p => addScaled acc p.1 p.2) (addScaled (ems a) (ems r) (em c)) = ems (foldC (macF a r c) rs cs)
      rw [addScaled_ems (ha.trans hr.symm) (ha ▸ hW)]
      exact ih (macF a r c) cs ((macF_len (ha.trans hr.symm)).trans ha) fun q hq => h q (by simp [hq])
theorem combs_ems (rs : List (List F)) (cs : List F) {W : Nat} (hW : W ≤ 40) (h : ∀ r ∈ rs, r.length = W) : combs W (emss rs) (ems cs) = ems (foldC (List.replicate W 0) rs cs) := by
  have h0 : List.replicate W (0 : Int) = ems (List.replicate W 0) := by simp [ems, em]
  unfold combs
  rw [h0]
  exact combs_fold _ rs cs hW (by simp) h
theorem okRows_ems {W : Nat} {xss : List (List Int)} (h : okRows W xss = true) : ∃ rs : List (List F), emss rs = xss ∧ (∀ r ∈ rs, r.length = W) := by
  induction xss with
  | nil => exact ⟨[], rfl, by simp⟩
  | cons xs xss ih =>
    unfold okRows at h
    rw [List.all_cons, Bool.and_eq_true] at h
    obtain ⟨rs, rfl, hrs⟩ := ih h.2
    obtain ⟨h1, h2⟩ := Bool.and_eq_true _ _ ▸ h.1
    obtain ⟨r, rfl, _⟩ := of_vec h1
    refine ⟨r :: rs, rfl, fun q hq => ?_⟩
    rcases List.mem_cons.1 hq with rfl | hq
    · rw [ems_len] at h2; simpa using h2
    · exact hrs q hq
/-- Combine of rows of one width. -/
theorem combine_ems {rs : List (List F)} {cs : List F} {W : Nat} (h0 : rs ≠ []) (hW : W ≤ 40) (h : ∀ r ∈ rs, r.length = W) (hl : rs.length = cs.length) (hc : cs.length ≤ 40) :
    combine (emss rs) (ems cs) = ems (foldC (List.replicate W 0) rs cs) := by
  cases rs with
  | nil => exact absurd rfl h0
  | cons r rs =>
    have hr := h r (by simp)
    have hok : okRows W (emss (r :: rs)) = true := by
      refine List.all_eq_true.2 fun q hq => ?_
      obtain ⟨p, hp, rfl⟩ := List.mem_map.1 hq
      have := h p hp
      rw [isVec_ems (by omega), ems_len, this]; simp
    have e1 : combine (emss (r :: rs)) (ems cs) = bif (((emss (r :: rs)).length == (ems cs).length) && isVec (ems cs)) && okRows (ems r).length (emss (r :: rs)) then combs (ems r).length (emss (r :: rs)) (ems cs) else [] := rfl
    rw [e1, ems_len, ems_len, hr, hok, isVec_ems hc]
    have e2 : (emss (r :: rs)).length = cs.length := by rw [← hl]; simp [emss]
    rw [e2]
    simp only [BEq.rfl, Bool.and_self, cond_true]
    exact combs_ems _ cs hW h
theorem combine_le40 (xss : List (List Int)) (cs : List Int) : (combine xss cs).length ≤ 40 := by
  by_cases hne : combine xss cs = []
  · rw [hne]; exact Nat.zero_le _
  · cases xss with
    | nil => exact Nat.zero_le _
    | cons x r =>
      have hlen : (x :: r).length = cs.length := Classical.byContradiction fun h => hne (combine_len h)
      have hv : isVec cs = true := by
        cases h : isVec cs
        · exact absurd (combine_cs h) hne
        · rfl
      have hok : okRows x.length (x :: r) = true := by
        cases h : okRows x.length (x :: r)
        · exfalso
          apply hne
          unfold combine; simp only [h, Bool.and_false]; rfl
        · rfl
      obtain ⟨rs, hrs, hw⟩ := okRows_ems hok
      obtain ⟨c, rfl, hc⟩ := of_vec hv
      have hW : x.length ≤ 40 := by
        unfold okRows at hok
        rw [List.all_cons, Bool.and_eq_true, Bool.and_eq_true] at hok
        exact (isVec_iff.1 hok.1.1).2
      rw [← hrs, combine_ems (by rintro rfl; simp [emss] at hrs) hW hw (by rw [← hrs, ems_len] at hlen; simpa [emss] using hlen) hc, ems_len, foldC_len (W := x.length) (by simp) hw]
      exact hW
end Go.Proofs.YtkhfkccbnhjmjaaDoor.Vec
namespace Go.Proofs.YtkhfkccbnhjmjaaDoor.Mat
open Go.Proofs.YtkhfkccbnhjmjaaDoor.Field Go.Proofs.YtkhfkccbnhjmjaaDoor.Vec

def colsOf (m : List (List Int)) : Nat := match m with | [] => 0 | xs :: _ => xs.length
def isMat (m : List (List Int)) : Bool := okRows (colsOf m) m && decide (m.length ≤ 40)
def column (m : List (List Int)) (k : Nat) : List Int := m.map fun xs => xs[k]?.getD 0
theorem colsOf_get {m : List (List Int)} {xs : List Int} (h : m[0]? = some xs) : colsOf m = xs.length := by
  cases m with
  | nil => simp at h
  | cons x r =>
    obtain rfl : x = xs := by simpa using h
    rfl
theorem isMat_row {m : List (List Int)} {xs ys : List Int} {j : Nat} (h0 : m[0]? = some xs) (hj : m[j]? = some ys) (h : (isVec ys && (ys.length == xs.length)) = false) : isMat m = false := by
  have h1 : okRows (colsOf m) m = false := by
    unfold okRows
    rw [List.all_eq_false]; exact ⟨ys, List.mem_of_getElem? hj, by rw [colsOf_get h0, h]; simp⟩
  unfold isMat; rw [h1]; rfl
theorem isMat_all {m : List (List Int)} {n c : Nat} (hl : m.length = n) (hc : colsOf m = c) (h : ∀ y ∈ m.take n, (isVec y && (y.length == c)) = true) : isMat m = decide ((n : Int) ≤ 40) := by
  rw [List.take_of_length_le (Nat.le_of_eq hl)] at h
  have h1 : okRows (colsOf m) m = true := List.all_eq_true.2 (by rw [hc]; exact h)
  unfold isMat
  rw [h1, hl, Bool.true_and]; congr 1; simp; omega
theorem isMat_iff {m : List (List Int)} : isMat m = true ↔ (∀ xs ∈ m, isVec xs = true ∧ xs.length = colsOf m) ∧ m.length ≤ 40 := by
  unfold isMat okRows; simp
theorem colsOf_le {m : List (List Int)} (h : isMat m = true) : colsOf m ≤ 40 := by
  cases m with
  | nil => exact Nat.zero_le _
  | cons x r =>
    have := (isMat_iff.1 h).1 x (List.mem_cons_self)
    rw [← this.2]; exact (isVec_iff.1 this.1).2
end Go.Proofs.YtkhfkccbnhjmjaaDoor.Mat
namespace Go.Proofs.YtkhfkccbnhjmjaaDoor.Uv
open Go.RowKit
open Go.Proofs.YtkhfkccbnhjmjaaDoor.Seq

/-- The varint of a number. -/
def uv (n : Nat) : List Int := if h : n < 128 then [(n : Int)] else ((n % 128 + 128 : Nat) : Int) :: uv (n / 128)
termination_by n
decreasing_by omega
/-- What 'AppendUvarint' answers. -/
def app (xs : List Int) (n : Int) : List Int := if 0 ≤ n ∧ n ≤ 1000000000000 then xs ++ uv n.toNat else xs
end Go.Proofs.YtkhfkccbnhjmjaaDoor.Uv
namespace Go.Proofs.YtkhfkccbnhjmjaaDoor.Rd
open Go.RowKit
open Go.Proofs.YtkhfkccbnhjmjaaDoor.Seq Go.Proofs.YtkhfkccbnhjmjaaDoor.Uv

/-- The rounds that are left, what is gathered, how many bytes are read. -/
def rd (xs : List Int) (p : Nat) : Nat → Int → Nat → Option (Int × Nat)
  | 0, _, _ => none
  | f + 1, acc, k =>
    match xs[p + k]? with
    | none => none
    | some x => if x < 128 then (if (x = 0 ∧ 0 < k) ∨ 1000000000000 < acc + x * 128 ^ k then none else some (acc + x * 128 ^ k, p + k + 1)) else rd xs p f (acc + x % 128 * 128 ^ k) (k + 1)

end Go.Proofs.YtkhfkccbnhjmjaaDoor.Rd
namespace Go.Proofs.YtkhfkccbnhjmjaaDoor.Enc
open Go.RowKit
open Go.Proofs.YtkhfkccbnhjmjaaDoor.Seq Go.Proofs.YtkhfkccbnhjmjaaDoor.Uv Go.Proofs.YtkhfkccbnhjmjaaDoor.Rd

/-- What 'EncodeInts' answers. -/
def enc (vs : List Int) : List Int := vs.foldl app []
end Go.Proofs.YtkhfkccbnhjmjaaDoor.Enc
namespace Go.Proofs.YtkhfkccbnhjmjaaDoor.UvR
open Go.RowKit
open Go.Proofs.YtkhfkccbnhjmjaaDoor.Seq Go.Proofs.YtkhfkccbnhjmjaaDoor.Uv Go.Proofs.YtkhfkccbnhjmjaaDoor.Rd Go.Proofs.YtkhfkccbnhjmjaaDoor.Enc

end Go.Proofs.YtkhfkccbnhjmjaaDoor.UvR
namespace Go.Proofs.YtkhfkccbnhjmjaaDoor.Num
open Go.Lib

/-- The digits of a number, none for 0. -/
def pre (m : Nat) : List UInt8 := if m = 0 then [] else decDigits m

/-- What a row of digits spells. -/
def val : List UInt8 → Nat → Nat
  | [], acc => acc
  | c :: r, acc => val r (10 * acc + (c.toNat - 48))

def isDig (c : UInt8) : Prop := 48 ≤ c.toNat ∧ c.toNat ≤ 57

theorem val_append (a b : List UInt8) (acc : Nat) : val (a ++ b) acc = val b (val a acc) := by
  induction a generalizing acc with
  | nil => rfl
  | cons c r ih => simp only [List.cons_append, val]; exact ih _

theorem ofNat_toNat {n : Nat} (h : n < 256) : (UInt8.ofNat n).toNat = n := by
  simp [Nat.mod_eq_of_lt h]

theorem decDigits_dig (m : Nat) : ∀ c ∈ decDigits m, isDig c := by
  induction m using Nat.strongRecOn with
  | _ m ih =>
    intro c hc
    rw [decDigits] at hc
    by_cases h10 : m < 10
    · rw [dif_pos h10] at hc
      have : c = UInt8.ofNat (48 + m) := by simpa using hc
      subst this
      unfold isDig; rw [ofNat_toNat (by omega)]; omega
    · rw [dif_neg h10] at hc
      rcases List.mem_append.1 hc with h | h
      · exact ih (m / 10) (by omega) c h
      · have : c = UInt8.ofNat (48 + m % 10) := by simpa using h
        subst this
        unfold isDig; rw [ofNat_toNat (by omega)]; omega

theorem val_decDigits (m : Nat) : val (decDigits m) 0 = m := by
  induction m using Nat.strongRecOn with
  | _ m ih =>
    rw [decDigits]
    by_cases h10 : m < 10
    · rw [dif_pos h10]; simp only [val]; rw [ofNat_toNat (by omega)]; omega
    · rw [dif_neg h10, val_append, ih (m / 10) (by omega)]
      simp only [val]; rw [ofNat_toNat (by omega)]; omega

end Go.Proofs.YtkhfkccbnhjmjaaDoor.Num
namespace Go.Proofs.YtkhfkccbnhjmjaaDoor.Txt
open Go.Lib Go.Proofs.YtkhfkccbnhjmjaaDoor.Num

def txt (xs : List Int) : List UInt8 := xs.flatMap fun x => itoa x ++ [44]
theorem txt_nil : txt [] = [] := rfl
theorem txt_cons (x : Int) (xs : List Int) : txt (x :: xs) = (itoa x ++ [44]) ++ txt xs := by simp [txt]
theorem txt_take {xs : List Int} {j : Nat} {x : Int} (h : xs[j]? = some x) : txt (xs.take (j + 1)) = (txt (xs.take j) ++ itoa x) ++ [44] := by
  rw [List.take_add_one, h]; simp [txt]
theorem itoa_char (x : Int) : ∀ c ∈ itoa x, c ≠ 44 := by
  intro c hc e
  subst e
  unfold itoa at hc
  split at hc
  · rcases List.mem_cons.1 hc with h | h
    · exact absurd h (by decide)
    · have := decDigits_dig _ _ h; unfold isDig at this; revert this; decide
  · have := decDigits_dig _ _ hc; unfold isDig at this; revert this; decide
theorem itoa_inj {x y : Int} (h : itoa x = itoa y) : x = y := by
  have hd : ∀ (m : Nat), ¬ (45 : UInt8) ∈ decDigits m := fun m hc => by have := decDigits_dig _ _ hc; unfold isDig at this; revert this; decide
  unfold itoa at h
  split at h <;> split at h
  · have e := congrArg (fun l => val l 0) (List.cons.inj h).2
    simp only [val_decDigits] at e
    omega
  · exact absurd (h ▸ List.mem_cons_self) (hd _)
  · exact absurd (h ▸ List.mem_cons_self) (hd _)
  · have e := congrArg (fun l => val l 0) h
    simp only [val_decDigits] at e
    omega
/-- Up to the first comma. -/
theorem split_comma : ∀ {a b r s : List UInt8}, (∀ c ∈ a, c ≠ 44) → (∀ c ∈ b, c ≠ 44) → a ++ 44 :: r = b ++ 44 :: s → a = b ∧ r = s
  | [], [], _, _, _, _, h => ⟨rfl, (List.cons.inj h).2⟩
  | [], y :: b, _, _, _, hb, h => absurd (List.cons.inj h).1.symm (hb y List.mem_cons_self)
  | x :: a, [], _, _, ha, _, h => absurd (List.cons.inj h).1 (ha x List.mem_cons_self)
  | x :: a, y :: b, _, _, ha, hb, h => by
    obtain ⟨h1, h2⟩ := List.cons.inj h
    obtain ⟨e1, e2⟩ := split_comma (fun c hc => ha c (List.mem_cons_of_mem _ hc)) (fun c hc => hb c (List.mem_cons_of_mem _ hc)) h2
    exact ⟨by rw [h1, e1], e2⟩
theorem txt_inj : ∀ {xs ys : List Int}, txt xs = txt ys → xs = ys
  | [], [], _ => rfl
  | [], y :: ys, h => by rw [txt_cons, txt_nil] at h; simp at h
  | x :: xs, [], h => by rw [txt_cons, txt_nil] at h; simp at h
  | x :: xs, y :: ys, h => by
    rw [txt_cons, txt_cons] at h
    simp only [List.append_assoc, List.singleton_append] at h
    obtain ⟨h1, h2⟩ := split_comma (itoa_char x) (itoa_char y) h
    rw [itoa_inj h1, txt_inj h2]
theorem txt_len : ∀ (xs : List Int), (∀ x ∈ xs, -9223372036854775808 ≤ x ∧ x ≤ 9223372036854775807) → (txt xs).length ≤ 22 * xs.length
  | [], _ => Nat.le_refl _
  | x :: xs, h => by
    have h1 := itoa_length_le x (h x List.mem_cons_self).1 (h x List.mem_cons_self).2
    have h2 := txt_len xs fun y hy => h y (List.mem_cons_of_mem _ hy)
    rw [txt_cons]
    simp only [List.length_append, List.length_cons, List.length_nil]
    omega
/-- As strings. -/
def str (xs : List Int) : ByteArray := ⟨(txt xs).toArray⟩
def num (x : Int) : ByteArray := ⟨(itoa x).toArray⟩
theorem bytes_inj {a b : List UInt8} (h : (⟨a.toArray⟩ : ByteArray) = ⟨b.toArray⟩) : a = b := by
  have := ByteArray.mk.inj h
  simpa using this
theorem str_eq (xs ys : List Int) : (str xs = str ys) ↔ xs = ys := ⟨fun h => txt_inj (bytes_inj h), fun h => by rw [h]⟩
theorem num_eq (x y : Int) : (num x = num y) ↔ x = y := ⟨fun h => itoa_inj (bytes_inj h), fun h => by rw [h]⟩
end Go.Proofs.YtkhfkccbnhjmjaaDoor.Txt
namespace Go.Proofs.YtkhfkccbnhjmjaaDoor.Hash

/-- One value more. -/
def hstep (d v : Int) : Int := (d * 1000003 + v % 2147483647 + 13) % 2147483647
def fold (d : Int) (xs : List Int) : Int := xs.foldl hstep d
def hash (xs : List Int) : Int := fold 11 xs
def khash (k : Int) (xs : List Int) : Int := fold 11 ((k :: xs) ++ [k])

theorem hstep_in (d v : Int) : 0 ≤ hstep d v ∧ hstep d v ≤ 2147483646 := by unfold hstep; omega
theorem fold_snoc (d : Int) (xs : List Int) (x : Int) : fold d (xs ++ [x]) = hstep (fold d xs) x := by simp [fold]
theorem fold_in : ∀ (xs : List Int) {d : Int}, 0 ≤ d → d ≤ 2147483646 → 0 ≤ fold d xs ∧ fold d xs ≤ 2147483646
  | [], _, h0, h1 => ⟨h0, h1⟩
  | x :: xs, d, _, _ => fold_in xs (hstep_in d x).1 (hstep_in d x).2
theorem take_more {xs : List Int} {j : Nat} {x : Int} (hx : xs[j]? = some x) : xs.take (j + 1) = xs.take j ++ [x] := by
  rw [List.take_add_one, hx]; rfl
theorem fold_take {d : Int} {xs : List Int} {j : Nat} {x : Int} (hx : xs[j]? = some x) : fold d (xs.take (j + 1)) = hstep (fold d (xs.take j)) x := by
  rw [take_more hx, fold_snoc]
theorem khash_in (k : Int) (xs : List Int) : 0 ≤ khash k xs ∧ khash k xs ≤ 2147483646 := fold_in _ (by decide) (by decide)

/-- The stream's byte at a place. -/
def pad (k : Int) (i : Nat) : Int := khash k [(i : Int)]
def enc (k : Int) (xs : List Int) : List Int := xs.mapIdx fun i c => (c + pad k i) % 256
end Go.Proofs.YtkhfkccbnhjmjaaDoor.Hash
