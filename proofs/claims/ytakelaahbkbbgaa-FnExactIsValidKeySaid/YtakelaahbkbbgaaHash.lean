/-
  The hash as a fold over a list; ciphers as maps over a list with its places. No program.
-/
import Derived.WalkKit
namespace Go.Proofs.Ytakelaahbkbbgaa.Hash

/-- One value more. -/
def hstep (d v : Int) : Int := (d * 1000003 + v % 2147483647 + 13) % 2147483647
def fold (d : Int) (xs : List Int) : Int := xs.foldl hstep d
def hash (xs : List Int) : Int := fold 11 xs
def khash (k : Int) (xs : List Int) : Int := fold 11 ((k :: xs) ++ [k])

theorem hstep_in (d v : Int) : 0 ≤ hstep d v ∧ hstep d v ≤ 2147483646 := by unfold hstep; omega
theorem fold_nil (d : Int) : fold d [] = d := rfl
theorem fold_cons (d x : Int) (xs : List Int) : fold d (x :: xs) = fold (hstep d x) xs := rfl
theorem fold_app (d : Int) (xs ys : List Int) : fold d (xs ++ ys) = fold (fold d xs) ys := by simp [fold]
theorem fold_snoc (d : Int) (xs : List Int) (x : Int) : fold d (xs ++ [x]) = hstep (fold d xs) x := by simp [fold]
theorem fold_in : ∀ (xs : List Int) {d : Int}, 0 ≤ d → d ≤ 2147483646 → 0 ≤ fold d xs ∧ fold d xs ≤ 2147483646
  | [], _, h0, h1 => ⟨h0, h1⟩
  | x :: xs, d, _, _ => fold_in xs (hstep_in d x).1 (hstep_in d x).2
theorem take_more {xs : List Int} {j : Nat} {x : Int} (hx : xs[j]? = some x) : xs.take (j + 1) = xs.take j ++ [x] := by
  rw [List.take_add_one, hx]; rfl
theorem fold_take {d : Int} {xs : List Int} {j : Nat} {x : Int} (hx : xs[j]? = some x) : fold d (xs.take (j + 1)) = hstep (fold d (xs.take j)) x := by
  rw [take_more hx, fold_snoc]
theorem hash_in (xs : List Int) : 0 ≤ hash xs ∧ hash xs ≤ 2147483646 := fold_in xs (by decide) (by decide)
theorem khash_in (k : Int) (xs : List Int) : 0 ≤ khash k xs ∧ khash k xs ≤ 2147483646 := fold_in _ (by decide) (by decide)

/-- The hash tells values apart. -/
theorem cop {a b : Nat} (h : Nat.Coprime a b) {x : Int} (hx : (x * (b : Int)) % (a : Int) = 0) (hl : x.natAbs < a) : x = 0 := by
  have h1 : (a : Int) ∣ x * (b : Int) := Int.dvd_of_emod_eq_zero hx
  have h2 := Int.natAbs_dvd_natAbs.2 h1
  rw [Int.natAbs_mul, Int.natAbs_natCast, Int.natAbs_natCast] at h2
  exact Int.natAbs_eq_zero.1 (Nat.eq_zero_of_dvd_of_lt (h.dvd_of_dvd_mul_right h2) hl)
theorem coprime : Nat.Coprime 2147483647 1000003 := by decide +kernel
theorem tell {d d' : Int} (u : Int) (h0 : 0 ≤ d) (h1 : d ≤ 2147483646) (h0' : 0 ≤ d') (h1' : d' ≤ 2147483646) (h : d ≠ d') : (d * 1000003 + u + 13) % 2147483647 ≠ (d' * 1000003 + u + 13) % 2147483647 := by
  intro he
  have h2 : ((d * 1000003 + u + 13) - (d' * 1000003 + u + 13)) % 2147483647 = 0 := Int.emod_eq_emod_iff_emod_sub_eq_zero.1 he
  have h3 : (d * 1000003 + u + 13) - (d' * 1000003 + u + 13) = (d - d') * 1000003 := by rw [Int.sub_mul]; omega
  rw [h3] at h2
  have h4 := cop coprime h2 (by clear h2 h3 he; omega)
  clear h2 h3 he
  omega
theorem tell' (e : Int) {u u' : Int} (h0 : 0 ≤ u) (h1 : u < 2147483647) (h0' : 0 ≤ u') (h1' : u' < 2147483647) (h : u ≠ u') : (e + u + 13) % 2147483647 ≠ (e + u' + 13) % 2147483647 := by
  intro he
  have h2 : ((e + u + 13) - (e + u' + 13)) % 2147483647 = 0 := Int.emod_eq_emod_iff_emod_sub_eq_zero.1 he
  omega
theorem hstep_ne {d d' : Int} (h0 : 0 ≤ d) (h1 : d ≤ 2147483646) (h0' : 0 ≤ d') (h1' : d' ≤ 2147483646) (h : d ≠ d') (v : Int) : hstep d v ≠ hstep d' v := tell _ h0 h1 h0' h1' h
theorem hstep_ne' (d : Int) {v v' : Int} (h : v % 2147483647 ≠ v' % 2147483647) : hstep d v ≠ hstep d v' :=
  tell' _ (Int.emod_nonneg _ (by decide)) (Int.emod_lt_of_pos _ (by decide)) (Int.emod_nonneg _ (by decide)) (Int.emod_lt_of_pos _ (by decide)) h
theorem fold_ne : ∀ (xs : List Int) {d d' : Int}, 0 ≤ d → d ≤ 2147483646 → 0 ≤ d' → d' ≤ 2147483646 → d ≠ d' → fold d xs ≠ fold d' xs
  | [], _, _, _, _, _, _, h => h
  | x :: xs, d, d', h0, h1, h0', h1', h => fold_ne xs (hstep_in d x).1 (hstep_in d x).2 (hstep_in d' x).1 (hstep_in d' x).2 (hstep_ne h0 h1 h0' h1' h x)
theorem fold_set : ∀ (xs : List Int) (d : Int) {i : Nat} {v y : Int}, xs[i]? = some v → y % 2147483647 ≠ v % 2147483647 → fold d (xs.set i y) ≠ fold d xs
  | [], _, _, _, _, h, _ => by simp at h
  | x :: xs, d, 0, v, y, h, hn => by
    obtain rfl : x = v := by simpa using h
    exact fold_ne xs (hstep_in d y).1 (hstep_in d y).2 (hstep_in d x).1 (hstep_in d x).2 (hstep_ne' d hn)
  | x :: xs, d, i + 1, v, y, h, hn => fold_set xs (hstep d x) (i := i) (by simpa using h) hn
theorem khash_set {k : Int} {xs : List Int} {i : Nat} {v y : Int} (h : xs[i]? = some v) (hn : y % 2147483647 ≠ v % 2147483647) : khash k (xs.set i y) ≠ khash k xs := by
  unfold khash
  rw [fold_app, fold_app]
  have e1 := fold_in (k :: xs.set i y) (d := 11) (by decide) (by decide)
  have e2 := fold_in (k :: xs) (d := 11) (by decide) (by decide)
  exact fold_ne [k] e1.1 e1.2 e2.1 e2.2 (fold_set xs (hstep 11 k) h hn)

/-- The stream's byte at a place. -/
def pad (k : Int) (i : Nat) : Int := khash k [(i : Int)]
theorem pad_in (k : Int) (i : Nat) : 0 ≤ pad k i ∧ pad k i ≤ 2147483646 := khash_in _ _
def enc (k : Int) (xs : List Int) : List Int := xs.mapIdx fun i c => (c + pad k i) % 256
def dec (k : Int) (xs : List Int) : List Int := xs.mapIdx fun i c => (c - pad k i) % 256
theorem enc_len (k : Int) (xs : List Int) : (enc k xs).length = xs.length := List.length_mapIdx
theorem dec_len (k : Int) (xs : List Int) : (dec k xs).length = xs.length := List.length_mapIdx
theorem enc_get {k : Int} {xs : List Int} {i : Nat} {c : Int} (h : xs[i]? = some c) : (enc k xs)[i]? = some ((c + pad k i) % 256) := by
  unfold enc; rw [List.getElem?_mapIdx, h]; rfl
theorem dec_get {k : Int} {xs : List Int} {i : Nat} {c : Int} (h : xs[i]? = some c) : (dec k xs)[i]? = some ((c - pad k i) % 256) := by
  unfold dec; rw [List.getElem?_mapIdx, h]; rfl
theorem dec_enc (k : Int) {xs : List Int} (h : ∀ x ∈ xs, 0 ≤ x ∧ x ≤ 255) : dec k (enc k xs) = xs := by
  apply List.ext_getElem?
  intro i
  cases hx : xs[i]? with
  | none =>
    rw [List.getElem?_eq_none_iff] at hx ⊢
    rw [dec_len, enc_len]; exact hx
  | some c =>
    rw [dec_get (enc_get hx)]
    have := h c (List.mem_of_getElem? hx)
    congr 1; omega
theorem enc_dec (k : Int) {xs : List Int} (h : ∀ x ∈ xs, 0 ≤ x ∧ x ≤ 255) : enc k (dec k xs) = xs := by
  apply List.ext_getElem?
  intro i
  cases hx : xs[i]? with
  | none =>
    rw [List.getElem?_eq_none_iff] at hx ⊢
    rw [enc_len, dec_len]; exact hx
  | some c =>
    rw [enc_get (dec_get hx)]
    have := h c (List.mem_of_getElem? hx)
    congr 1; omega
theorem get_take {ys : List Int} {j : Nat} {y : Int} (h : ys[j]? = some y) : ys.take j ++ [y] = ys.take (j + 1) := (take_more h).symm

/-- A key made of a text. -/
def derive (k : Int) (cs : List Int) : Int := if khash k ((cs.length : Int) :: cs) = 0 then 1 else khash k ((cs.length : Int) :: cs)
end Go.Proofs.Ytakelaahbkbbgaa.Hash
