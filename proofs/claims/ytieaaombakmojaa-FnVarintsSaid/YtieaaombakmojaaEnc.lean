/-
  Byte strings and lists of integers, encoded and decoded, as functions of lists. No program.
-/
import Derived.Test.YtieaaombakmojaaRd
namespace Go.Proofs.Ytieaaombakmojaa.Enc
open Go.RowKit
open Go.Proofs.Ytieaaombakmojaa.Seq Go.Proofs.Ytieaaombakmojaa.Uv Go.Proofs.Ytieaaombakmojaa.Rd

theorem rd_ok {xs : List Int} {p : Nat} (hf : ∀ x ∈ xs, Fits .u8 x) : ∀ (f : Nat) (acc : Int) (k : Nat) (n : Int) (q : Nat), 0 ≤ acc → rd xs p f acc k = some (n, q) → 0 ≤ n ∧ n ≤ 1000000000000 ∧ p < q ∧ q ≤ xs.length := by
  intro f
  induction f with
  | zero => intro acc k n q _ h; cases h
  | succ f ih =>
    intro acc k n q h0 h
    cases hx : xs[p + k]? with
    | none => rw [rd_none hx] at h; cases h
    | some x =>
      have hl := (List.getElem?_eq_some_iff.1 hx).1
      have hm : x ∈ xs := List.mem_of_getElem? hx
      have hb := fits_u8.1 (hf x hm)
      have hp : (0 : Int) < 128 ^ k := Int.pow_pos (by decide)
      by_cases h128 : x < 128
      · by_cases h1 : (x = 0 ∧ 0 < k) ∨ 1000000000000 < acc + x * 128 ^ k
        · rw [rd_bad hx h128 h1] at h; cases h
        · rw [rd_last hx h128 h1] at h
          have e := Option.some.inj h
          have e1 : acc + x * 128 ^ k = n := congrArg Prod.fst e
          have e2 : p + k + 1 = q := congrArg Prod.snd e
          have := Int.mul_nonneg hb.1 (Int.le_of_lt hp)
          refine ⟨by omega, by omega, by omega, by omega⟩
      · rw [rd_more hx h128] at h
        exact ih _ _ n q (Int.add_nonneg h0 (Int.mul_nonneg (by omega) (Int.le_of_lt hp))) h

theorem read_ok {xs : List Int} {i m q : Int} (hf : ∀ x ∈ xs, Fits .u8 x) (h : rdv xs i = (m, q, true)) : ∃ p m' q' : Nat, i = p ∧ m = m' ∧ q = q' ∧ m' ≤ 1000000000000 ∧ p < q' ∧ q' ≤ xs.length := by
  unfold rdv at h
  by_cases h0 : i < 0
  · rw [if_pos h0] at h; cases h
  · rw [if_neg h0] at h
    cases hr : rd xs i.toNat 6 0 0 with
    | none => rw [hr] at h; cases h
    | some r =>
      obtain ⟨a, b⟩ := r
      rw [hr] at h
      have e1 : a = m := congrArg Prod.fst h
      have e2 : (b : Int) = q := congrArg (fun z => z.2.1) h
      obtain ⟨g1, g2, g3, g4⟩ := rd_ok hf 6 0 0 a b (by omega) hr
      exact ⟨i.toNat, m.toNat, b, by omega, by omega, e2.symm, by omega, g3, g4⟩
theorem read_no {xs : List Int} {i m q : Int} (h : rdv xs i = (m, q, false)) : m = 0 ∧ q = 0 := by
  unfold rdv at h
  by_cases h0 : i < 0
  · rw [if_pos h0] at h
    exact ⟨(congrArg Prod.fst h).symm, (congrArg (fun z => z.2.1) h).symm⟩
  · rw [if_neg h0] at h
    cases hr : rd xs i.toNat 6 0 0 with
    | none =>
      rw [hr] at h
      exact ⟨(congrArg Prod.fst h).symm, (congrArg (fun z => z.2.1) h).symm⟩
    | some r => obtain ⟨a, b⟩ := r; rw [hr] at h; have := congrArg (fun z => z.2.2) h; cases this

/-- What 'AppendBytes' answers. -/
def apb (xs ys : List Int) : List Int := app xs (ys.length : Int) ++ ys
theorem apb_len (xs ys : List Int) : (apb xs ys).length ≤ xs.length + 6 + ys.length := by
  have := app_len xs ys.length
  unfold apb; rw [List.length_append]; omega

/-- What 'ReadBytes' answers. -/
def rdb (xs : List Int) (i most : Int) : List Int × Int × Bool :=
  match rdv xs i with
  | (m, q, true) => if m ≤ most ∧ m ≤ (xs.length : Int) - q then ((xs.drop q.toNat).take m.toNat, q + m, true) else ([], 0, false)
  | (_, _, false) => ([], 0, false)
theorem rdb_no {xs : List Int} {i most m q : Int} (h : rdv xs i = (m, q, false)) : rdb xs i most = ([], 0, false) := by rw [rdb, h]
theorem rdb_big {xs : List Int} {i most m q : Int} (h : rdv xs i = (m, q, true)) (h1 : ¬ (m ≤ most ∧ m ≤ (xs.length : Int) - q)) : rdb xs i most = ([], 0, false) := by rw [rdb, h]; simp only [if_neg h1]
theorem rdb_yes {xs : List Int} {i most : Int} {m q : Nat} (h : rdv xs i = ((m : Int), (q : Int), true)) (h1 : (m : Int) ≤ most) (h2 : (m : Int) ≤ (xs.length : Int) - q) : rdb xs i most = ((xs.drop q).take m, (q : Int) + m, true) := by
  rw [rdb, h]; simp only [if_pos (And.intro h1 h2), Int.toNat_natCast]
theorem rdb_len (xs : List Int) (i most : Int) : (rdb xs i most).1.length ≤ xs.length := by
  unfold rdb
  split
  · split
    · simp only [List.length_take, List.length_drop]; omega
    · simp
  · simp

/-- What 'EncodeInts' answers. -/
def enc (vs : List Int) : List Int := vs.foldl app []
theorem enc_snoc (vs : List Int) (v : Int) : enc (vs ++ [v]) = app (enc vs) v := by simp [enc]
theorem enc_len : ∀ vs : List Int, (enc vs).length ≤ 6 * vs.length := by
  intro vs
  have h : ∀ (us : List Int) (acc : List Int), (us.foldl app acc).length ≤ acc.length + 6 * us.length := by
    intro us
    induction us with
    | nil => intro acc; simp
    | cons u us ih =>
      intro acc
      have := ih (app acc u)
      have := app_len acc u
      simp only [List.foldl_cons, List.length_cons]; omega
  have := h vs []
  simp only [List.length_nil] at this
  unfold enc; omega
theorem take_snoc {xs : List Int} {k : Nat} {x : Int} (h : xs[k]? = some x) : xs.take (k + 1) = xs.take k ++ [x] := by
  obtain ⟨hl, rfl⟩ := List.getElem?_eq_some_iff.1 h
  exact List.take_succ_eq_append_getElem hl

/-- What 'DecodeInts' answers: so many more, from there on, behind what is rdv. -/
def decGo (xs : List Int) : Nat → Int → List Int → List Int × Int × Bool
  | 0, i, acc => (acc, i, true)
  | f + 1, i, acc => match rdv xs i with
    | (m, q, true) => decGo xs f q (acc ++ [m])
    | (_, _, false) => ([], 0, false)
def dec (xs : List Int) (i c : Int) : List Int × Int × Bool := if (0 ≤ c ∧ c ≤ 100) ∧ (0 ≤ i ∧ i ≤ xs.length) then decGo xs c.toNat i [] else ([], 0, false)
theorem decGo_yes {xs : List Int} {f : Nat} {i m q : Int} {acc : List Int} (h : rdv xs i = (m, q, true)) : decGo xs (f + 1) i acc = decGo xs f q (acc ++ [m]) := by rw [decGo, h]
theorem decGo_no {xs : List Int} {f : Nat} {i m q : Int} {acc : List Int} (h : rdv xs i = (m, q, false)) : decGo xs (f + 1) i acc = ([], 0, false) := by rw [decGo, h]
theorem dec_out {xs : List Int} {i c : Int} (h : ¬ ((0 ≤ c ∧ c ≤ 100) ∧ (0 ≤ i ∧ i ≤ xs.length))) : dec xs i c = ([], 0, false) := by rw [dec, if_neg h]
theorem dec_in {xs : List Int} {i c : Nat} (h1 : c ≤ 100) (h2 : i ≤ xs.length) : dec xs i c = decGo xs c i [] := by
  rw [dec, if_pos ⟨⟨by omega, by omega⟩, by omega, by omega⟩, Int.toNat_natCast]
theorem decGo_len (xs : List Int) : ∀ (f : Nat) (i : Int) (acc : List Int), (decGo xs f i acc).1.length ≤ acc.length + f := by
  intro f
  induction f with
  | zero => intro i acc; simp [decGo]
  | succ f ih =>
    intro i acc
    obtain ⟨⟨m, q, b⟩, h⟩ : ∃ r : Int × Int × Bool, r = rdv xs i := ⟨_, rfl⟩
    cases b
    · rw [decGo_no h.symm]; simp
    · rw [decGo_yes h.symm]
      have := ih q (acc ++ [m])
      rw [List.length_append] at this
      simp at this; omega
theorem dec_len (xs : List Int) (i c : Int) : (dec xs i c).1.length ≤ 100 := by
  unfold dec
  split
  · have := decGo_len xs c.toNat i []
    simp at this; omega
  · simp
end Go.Proofs.Ytieaaombakmojaa.Enc
