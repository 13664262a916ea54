/-
  Decimal numerals as lists of bytes: the numerals of 0 to 10^12 are exactly what both ways of parsing accept. Plain mathematics, no program.
-/
import Derived.Lib.AtoiAllCases
import Derived.Lib.ItoaMem
import Derived.Lib.ItoaLen
namespace Go.Proofs.YtlkonkgfkelojaaDoor.Num
open Go.Lib

/-- The digits of a number, none for 0. -/
def pre (m : Nat) : List UInt8 := if m = 0 then [] else decDigits m

/-- The last digit. -/
def dch (m : Nat) : UInt8 := UInt8.ofNat (48 + m % 10)

theorem pre_zero : pre 0 = [] := rfl
theorem pre_pos {m : Nat} (h : m ≠ 0) : pre m = decDigits m := if_neg h
theorem pre_step {m : Nat} (h : m ≠ 0) : pre m = pre (m / 10) ++ [dch m] := by
  unfold dch
  rw [pre_pos h, decDigits]
  by_cases h10 : m < 10
  · rw [dif_pos h10, show m / 10 = 0 by omega, pre_zero, List.nil_append, Nat.mod_eq_of_lt h10]
  · rw [dif_neg h10, pre_pos (by omega)]

/-- What a row of digits spells. -/
def val : List UInt8 → Nat → Nat
  | [], acc => acc
  | c :: r, acc => val r (10 * acc + (c.toNat - 48))

def isDig (c : UInt8) : Prop := 48 ≤ c.toNat ∧ c.toNat ≤ 57

theorem val_append (a b : List UInt8) (acc : Nat) : val (a ++ b) acc = val b (val a acc) := by
  induction a generalizing acc with
  | nil => rfl
  | cons c r ih => simp only [List.cons_append, val]; exact ih _

theorem ofNat_toNat {n : Nat} (h : n < 256) : (UInt8.ofNat n).toNat = n := by
  simp [Nat.mod_eq_of_lt h]

theorem decDigits_dig (m : Nat) : ∀ c ∈ decDigits m, isDig c := by
  induction m using Nat.strongRecOn with
  | _ m ih =>
    intro c hc
    rw [decDigits] at hc
    by_cases h10 : m < 10
    · rw [dif_pos h10] at hc
      have : c = UInt8.ofNat (48 + m) := by simpa using hc
      subst this
      unfold isDig; rw [ofNat_toNat (by omega)]; omega
    · rw [dif_neg h10] at hc
      rcases List.mem_append.1 hc with h | h
      · exact ih (m / 10) (by omega) c h
      · have : c = UInt8.ofNat (48 + m % 10) := by simpa using h
        subst this
        unfold isDig; rw [ofNat_toNat (by omega)]; omega

theorem val_decDigits (m : Nat) : val (decDigits m) 0 = m := by
  induction m using Nat.strongRecOn with
  | _ m ih =>
    rw [decDigits]
    by_cases h10 : m < 10
    · rw [dif_pos h10]; simp only [val]; rw [ofNat_toNat (by omega)]; omega
    · rw [dif_neg h10, val_append, ih (m / 10) (by omega)]
      simp only [val]; rw [ofNat_toNat (by omega)]; omega

theorem nDigits_le13 {m : Nat} (h : m ≤ 1000000000000) : nDigits m ≤ 13 := by
  rcases Nat.lt_or_ge 13 (nDigits m) with h1 | h1
  · exfalso
    have key : ∀ (k u : Nat), k < nDigits u → 10 ^ k ≤ u ∨ k = 0 := by
      intro k
      induction k with
      | zero => intro u _; exact Or.inr rfl
      | succ k ih =>
        intro u hu
        by_cases hs : u < 10
        · rw [nDigits_small hs] at hu; omega
        · rw [nDigits_big hs] at hu
          rcases ih (u / 10) (by omega) with h | h
          · left; rw [Nat.pow_succ]; omega
          · left; subst h; simp; omega
    rcases key 13 m (by omega) with h2 | h2
    · have : (10 : Nat) ^ 13 = 10000000000000 := by decide
      omega
    · omega
  · exact h1

/-- The number whose numeral a text is, from 0 to 10^12; none if there is none. -/
def canon (l : List UInt8) : Option Nat :=
  if val l 0 ≤ 1000000000000 ∧ decDigits (val l 0) = l then some (val l 0) else none

theorem canon_some {l : List UInt8} {n : Nat} (h : canon l = some n) : n ≤ 1000000000000 ∧ decDigits n = l := by
  unfold canon at h
  split at h
  · rename_i hh; obtain rfl : val l 0 = n := by simpa using h
    exact hh
  · cases h
theorem canon_digits {n : Nat} (h : n ≤ 1000000000000) : canon (decDigits n) = some n := by
  unfold canon; rw [val_decDigits, if_pos ⟨h, rfl⟩]
theorem canon_none {l : List UInt8} (h : canon l = none) (n : Nat) (hn : n ≤ 1000000000000) : decDigits n ≠ l := by
  rintro rfl; rw [canon_digits hn] at h; cases h
theorem canon_len {l : List UInt8} {n : Nat} (h : canon l = some n) : 1 ≤ l.length ∧ l.length ≤ 13 := by
  obtain ⟨h1, rfl⟩ := canon_some h
  rw [decDigits_length]
  exact ⟨nDigits_pos _, nDigits_le13 h1⟩
theorem canon_dig {l : List UInt8} {n : Nat} (h : canon l = some n) : ∀ c ∈ l, isDig c := by
  obtain ⟨h1, rfl⟩ := canon_some h
  exact decDigits_dig _

/-- Atoi at the numeral of a number below 2^63. -/
theorem parseUint10_digits (l : List UInt8) (acc : Nat) (hd : ∀ c ∈ l, isDig c) (hb : val l acc < 1844674407370955162) : parseUint10 acc l = .ok (val l acc) := by
  have grow : ∀ (l : List UInt8) (acc : Nat), acc ≤ val l acc := by
    intro l
    induction l with
    | nil => intro acc; exact Nat.le_refl _
    | cons c r ih => intro acc; simp only [val]; exact Nat.le_trans (by omega) (ih _)
  induction l generalizing acc with
  | nil => rfl
  | cons c r ih =>
    have hc := hd c (by simp)
    have hg := grow r (10 * acc + (c.toNat - 48))
    simp only [val] at hb ⊢
    unfold isDig at hc
    simp only [parseUint10]
    rw [if_pos hc, if_neg (by omega), if_neg (by omega), show acc * 10 + (c.toNat - 48) = 10 * acc + (c.toNat - 48) by omega]
    exact ih _ (fun c h => hd c (by simp [h])) hb

theorem atoi_digits {n : Nat} (h : n ≤ 1000000000000) : atoiAll (decDigits n) = .ok (n : Int) := by
  have hd := decDigits_dig n
  have hv := val_decDigits n
  have hl : (decDigits n).length = nDigits n := decDigits_length n
  have hp := nDigits_pos n
  generalize decDigits n = l at hd hv hl
  cases l with
  | nil => simp at hl; omega
  | cons c r =>
    have hc := hd c (by simp)
    unfold isDig at hc
    rw [atoiAll_plain c r (by omega) (by omega)]
    unfold parseMag
    rw [if_neg (by simp), parseUint10_digits _ _ hd (by omega), hv]
    simp only [signless]
    rw [if_neg (by omega)]

/-- What impl.ParseInt tests, in the words of Atoi. -/
theorem atoi_canon {l : List UInt8} {v : Int} (h : atoiAll l = .ok v) (h0 : 0 ≤ v) (h1 : v ≤ 1000000000000) (he : itoa v = l) : canon l = some v.toNat := by
  obtain ⟨u, rfl⟩ : ∃ u : Nat, v = u := ⟨v.toNat, by omega⟩
  rw [itoa_nonneg] at he
  subst he
  exact canon_digits (by omega)
theorem atoi_other {l : List UInt8} (h : ∀ n : Nat, n ≤ 1000000000000 → atoiAll l = .ok (n : Int) → itoa (n : Int) ≠ l) : canon l = none := by
  cases hc : canon l with
  | none => rfl
  | some n =>
    obtain ⟨h1, h2⟩ := canon_some hc
    subst h2
    exact absurd (itoa_nonneg n) (h n h1 (atoi_digits h1))

/-- What spec.ParseInt tests. -/
theorem canon_of_val {l : List UInt8} (h : canon l = none) (hv : val l 0 ≤ 1000000000000) : itoa (val l 0 : Int) ≠ l := by
  rw [itoa_nonneg]; exact canon_none h _ hv
theorem canon_val {l : List UInt8} {n : Nat} (h : canon l = some n) : val l 0 = n ∧ itoa (n : Int) = l := by
  obtain ⟨h1, rfl⟩ := canon_some h
  exact ⟨val_decDigits n, itoa_nonneg n⟩
theorem val_lt (l : List UInt8) (hd : ∀ c ∈ l, isDig c) (acc : Nat) : val l acc < (acc + 1) * 10 ^ l.length := by
  induction l generalizing acc with
  | nil => simp [val]
  | cons c r ih =>
    have hc := hd c (by simp)
    unfold isDig at hc
    simp only [val, List.length_cons]
    refine Nat.lt_of_lt_of_le (ih (fun c h => hd c (by simp [h])) _) ?_
    rw [Nat.pow_succ, Nat.mul_comm (10 ^ r.length) 10, ← Nat.mul_assoc]
    exact Nat.mul_le_mul_right _ (by omega)
end Go.Proofs.YtlkonkgfkelojaaDoor.Num
