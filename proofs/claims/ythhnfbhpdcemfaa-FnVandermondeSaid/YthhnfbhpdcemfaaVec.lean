/-
  Vectors over the field of 1019 elements, as lists: over Fin 1019, and the lists of integers that stand for them. No program.
-/
import Derived.Test.YthhnfbhpdcemfaaField
namespace Go.Proofs.Ythhnfbhpdcemfaa.Vec
open Go.Proofs.Ythhnfbhpdcemfaa.Field

abbrev F := Fin 1019
/-- The integer of an element. -/
def em (x : F) : Int := (x.val : Int)
theorem em_in (x : F) : 0 ≤ em x ∧ em x ≤ 1018 := by unfold em; have := x.isLt; omega
theorem em_el (x : F) : isEl (em x) = true := isEl_iff.2 (em_in x)
theorem em_inj {x y : F} (h : em x = em y) : x = y := Fin.ext (by unfold em at h; omega)
theorem em_add (x y : F) : em (x + y) = (em x + em y) % 1019 := by unfold em; rw [Fin.val_add]; omega
theorem em_mul (x y : F) : em (x * y) = em x * em y % 1019 := by unfold em; rw [Fin.val_mul, Int.natCast_emod, Int.natCast_mul]; rfl
theorem em_sub (x y : F) : em (x - y) = (em x - em y) % 1019 := by
  have h : em (x - y + y) = em x := by rw [show x - y + y = x by grind]
  rw [em_add] at h
  have h1 := em_in (x - y)
  have h2 := em_in x
  have h3 := em_in y
  omega
theorem em_0 : em 0 = 0 := rfl
theorem em_1 : em 1 = 1 := rfl
theorem em_mac (x y k : F) : em (x + y * k) = (em x + em y * em k) % 1019 := by
  rw [em_add, em_mul]; omega
theorem of_el {x : Int} (h : isEl x = true) : ∃ y : F, em y = x := by
  obtain ⟨h0, h1⟩ := isEl_iff.1 h
  exact ⟨⟨x.toNat, by omega⟩, by unfold em; simp; omega⟩
theorem add_em (x y : F) : add (em x) (em y) = em (x + y) := by rw [add_el (em_el x) (em_el y), em_add]
theorem mul_em (x y : F) : mul (em x) (em y) = em (x * y) := by rw [mul_el (em_el x) (em_el y), em_mul]
theorem sub_em (x y : F) : sub (em x) (em y) = em (x - y) := by rw [sub_el (em_el x) (em_el y), em_sub]

/-- The list of integers of a vector. -/
def ems (xs : List F) : List Int := xs.map em
theorem ems_len (xs : List F) : (ems xs).length = xs.length := by simp [ems]
theorem ems_inj {xs ys : List F} (h : ems xs = ems ys) : xs = ys := (List.map_inj_right (fun _ _ => em_inj)).1 h

/-- A valid vector. -/
def isVec (xs : List Int) : Bool := xs.all isEl && decide (xs.length ≤ 40)
theorem isVec_iff {xs : List Int} : isVec xs = true ↔ (∀ x ∈ xs, isEl x = true) ∧ xs.length ≤ 40 := by unfold isVec; simp
theorem isVec_ems {xs : List F} (h : xs.length ≤ 40) : isVec (ems xs) = true := by
  refine isVec_iff.2 ⟨fun x hx => ?_, by rw [ems_len]; exact h⟩
  obtain ⟨y, _, rfl⟩ := List.mem_map.1 hx
  exact em_el y
theorem all_ems {xs : List Int} (h : ∀ x ∈ xs, isEl x = true) : ∃ ys, ems ys = xs := by
  induction xs with
  | nil => exact ⟨[], rfl⟩
  | cons x xs ih =>
    obtain ⟨ys, rfl⟩ := ih fun y hy => h y (by simp [hy])
    obtain ⟨y, rfl⟩ := of_el (h x (by simp))
    exact ⟨y :: ys, rfl⟩
theorem of_vec {xs : List Int} (h : isVec xs = true) : ∃ ys, ems ys = xs ∧ ys.length ≤ 40 := by
  obtain ⟨h1, h2⟩ := isVec_iff.1 h
  obtain ⟨ys, rfl⟩ := all_ems h1
  exact ⟨ys, rfl, by rw [ems_len] at h2; exact h2⟩

/-- What the functions of the layer answer. -/
def mac (xs ys : List Int) (k : Int) : List Int := List.zipWith (fun x y => (x + y * k) % 1019) xs ys
def addScaled (xs ys : List Int) (k : Int) : List Int := bif ((isVec xs && isVec ys) && (xs.length == ys.length)) && isEl k then mac xs ys k else []
def scaled (xs : List Int) (k : Int) : List Int := xs.map fun x => x * k % 1019
def scale (xs : List Int) (k : Int) : List Int := bif isVec xs && isEl k then scaled xs k else []
def dotF (a b : List F) : F := (List.zipWith (· * ·) a b).foldl (· + ·) 0
def dots (xs ys : List Int) : Int := (List.zipWith (fun x y => x * y) xs ys).foldl (fun s p => (s + p) % 1019) 0
def dot (xs ys : List Int) : Int := bif (isVec xs && isVec ys) && (xs.length == ys.length) then dots xs ys else 0
def leadFrom : Int → List Int → Int
  | _, [] => -1
  | j, x :: xs => bif x == 0 then leadFrom (j + 1) xs else j
def lead (xs : List Int) : Int := leadFrom 0 xs
def units (n : Nat) (i : Int) : List Int := (List.range n).map fun (j : Nat) => bif (j : Int) == i then 1 else 0
def unit (n i : Int) : List Int := bif (decide (0 ≤ n) && decide (n ≤ 40)) && (decide (0 ≤ i) && decide (i ≤ n - 1)) then units n.toNat i else []

/-- .. over the field. -/
def macF (xs ys : List F) (k : F) : List F := List.zipWith (fun x y => x + y * k) xs ys
theorem mac_ems (xs ys : List F) (k : F) : mac (ems xs) (ems ys) (em k) = ems (macF xs ys k) := by
  unfold mac ems macF
  rw [List.zipWith_map, List.map_zipWith]
  congr 1; funext x y; exact (em_mac x y k).symm
theorem macF_len {xs ys : List F} {k : F} (h : xs.length = ys.length) : (macF xs ys k).length = xs.length := by simp [macF, h]
theorem addScaled_ems {xs ys : List F} {k : F} (h : xs.length = ys.length) (h2 : xs.length ≤ 40) : addScaled (ems xs) (ems ys) (em k) = ems (macF xs ys k) := by
  unfold addScaled
  rw [isVec_ems h2, isVec_ems (h ▸ h2), em_el, ems_len, ems_len, h]
  simp [mac_ems]
theorem scale_ems {xs : List F} {k : F} (h2 : xs.length ≤ 40) : scale (ems xs) (em k) = ems (xs.map (· * k)) := by
  unfold scale
  rw [isVec_ems h2, em_el]
  simp only [Bool.and_self, cond_true, scaled, ems, List.map_map]
  refine List.map_congr_left fun x _ => (em_mul x k).symm
theorem fold_em (l : List F) (c : F) (L : List Int) (h : L.map (· % 1019) = ems l) : L.foldl (fun s p => (s + p) % 1019) (em c) = em (l.foldl (· + ·) c) := by
  induction L generalizing l c with
  | nil =>
    obtain rfl : l = [] := by cases l with | nil => rfl | cons a b => simp [ems] at h
    rfl
  | cons p L ih =>
    cases l with
    | nil => simp [ems] at h
    | cons x l =>
      simp only [ems, List.map_cons, List.cons.injEq] at h
      rw [List.foldl_cons, List.foldl_cons, ← ih l (c + x) h.2]
      congr 1
      rw [em_add, ← h.1]; omega
theorem dot_ems {xs ys : List F} (h : xs.length = ys.length) (h2 : xs.length ≤ 40) : dot (ems xs) (ems ys) = em (dotF xs ys) := by
  unfold dot dots dotF
  rw [isVec_ems h2, isVec_ems (h ▸ h2), ems_len, ems_len, h]
  simp only [Bool.and_self, BEq.rfl, cond_true]
  refine fold_em _ 0 _ ?_
  unfold ems
  rw [List.zipWith_map, List.map_zipWith, List.map_zipWith]
  congr 1

theorem foldl_add (l : List F) (c : F) : l.foldl (· + ·) c = c + l.foldl (· + ·) 0 := by
  induction l generalizing c with
  | nil => simp
  | cons x l ih => simp only [List.foldl_cons]; rw [ih (c + x), ih (0 + x)]; grind
theorem dot_nil (b : List F) : dotF [] b = 0 := by simp [dotF]
theorem dot_cons (x y : F) (a b : List F) : dotF (x :: a) (y :: b) = x * y + dotF a b := by
  unfold dotF
  simp only [List.zipWith_cons_cons, List.foldl_cons]
  rw [foldl_add]; grind
theorem dot_mac {a b v : List F} (k : F) (h : a.length = b.length) (h2 : v.length = a.length) : dotF (macF a b k) v = dotF a v + k * dotF b v := by
  induction a generalizing b v with
  | nil =>
    obtain rfl : b = [] := by simpa using h.symm
    simp only [macF, List.zipWith_nil_left, dot_nil]; grind
  | cons x a ih =>
    cases b with
    | nil => simp at h
    | cons y b =>
      cases v with
      | nil => simp at h2
      | cons z v =>
        have := ih (b := b) (v := v) (by simpa using h) (by simpa using h2)
        rw [show macF (x :: a) (y :: b) k = (x + y * k) :: macF a b k from rfl, dot_cons, dot_cons, dot_cons, this]; grind
theorem dot_comm (a b : List F) : dotF a b = dotF b a := by
  unfold dotF
  rw [List.zipWith_comm]
  congr 2; funext x y; exact Fin.mul_comm _ _

theorem mac_scale (a b : List F) (k : F) : macF a (b.map (· * k)) 1 = macF a b k := by
  unfold macF
  rw [List.zipWith_map_right]
  congr 1; funext x y; grind
theorem mac_back {a b : List F} (k : F) (h : a.length = b.length) : macF (macF a b k) b (0 - k) = a := by
  induction a generalizing b with
  | nil => simp [macF]
  | cons x a ih =>
    cases b with
    | nil => simp at h
    | cons y b =>
      rw [show macF (macF (x :: a) (y :: b) k) (y :: b) (0 - k) = (x + y * k + y * (0 - k)) :: macF (macF a b k) b (0 - k) from rfl, ih (by simpa using h)]
      congr 1; grind
theorem mac_none (a : List F) : macF a a 1018 = a.map fun _ => 0 := by
  unfold macF
  rw [List.zipWith_self]
  congr 1; funext x; grind
theorem lead_zero (a : List F) (j : Int) : leadFrom j (ems (a.map fun _ => 0)) = -1 := by
  induction a generalizing j with
  | nil => rfl
  | cons x a ih => exact ih (j + 1)

/-! What the walks ask. -/
theorem take_more {α : Type} {xs : List α} {j : Nat} {x : α} (hx : xs[j]? = some x) : xs.take (j + 1) = xs.take j ++ [x] := by
  rw [List.take_add_one, hx]; rfl
theorem isVec_no_at {xs : List Int} {j : Nat} {x : Int} (hx : xs[j]? = some x) (h : isEl x = false) : isVec xs = false := by
  unfold isVec
  have : xs.all isEl = false := by
    rw [List.all_eq_false]; exact ⟨x, List.mem_of_getElem? hx, by rw [h]; simp⟩
  rw [this]; rfl
theorem isVec_all {xs : List Int} {n : Nat} (hl : xs.length = n) (h : ∀ x ∈ xs.take n, isEl x = true) : isVec xs = decide ((n : Int) ≤ 40) := by
  unfold isVec
  rw [List.take_of_length_le (Nat.le_of_eq hl)] at h
  have : xs.all isEl = true := List.all_eq_true.2 h
  rw [this, hl, Bool.true_and]; congr 1; simp; omega
theorem all_more {xs : List Int} {j : Nat} {x : Int} (hx : xs[j]? = some x) (h : ∀ y ∈ xs.take j, isEl y = true) (h1 : isEl x = true) : ∀ y ∈ xs.take (j + 1), isEl y = true := by
  rw [take_more hx]
  intro y hy
  rcases List.mem_append.1 hy with hy | hy
  · exact h y hy
  · obtain rfl := List.mem_singleton.1 hy; exact h1
theorem vec_el {xs : List Int} {j : Nat} {x : Int} (hv : isVec xs = true) (hx : xs[j]? = some x) : 0 ≤ x ∧ x ≤ 1018 :=
  isEl_iff.1 ((isVec_iff.1 hv).1 x (List.mem_of_getElem? hx))
theorem mac_get {xs ys : List Int} {k x y : Int} {j : Nat} (hx : xs[j]? = some x) (hy : ys[j]? = some y) : (mac xs ys k)[j]? = some ((x + y * k) % 1019) := by
  unfold mac; rw [List.getElem?_zipWith, hx, hy]
theorem mac_len {xs ys : List Int} (k : Int) (h : xs.length = ys.length) : (mac xs ys k).length = xs.length := by unfold mac; simp [h]
theorem scaled_get {xs : List Int} {k x : Int} {j : Nat} (hx : xs[j]? = some x) : (scaled xs k)[j]? = some (x * k % 1019) := by
  unfold scaled; rw [List.getElem?_map, hx]; rfl
theorem scaled_len (xs : List Int) (k : Int) : (scaled xs k).length = xs.length := by unfold scaled; simp
theorem dots_more {xs ys : List Int} {x y : Int} {j : Nat} (hx : xs[j]? = some x) (hy : ys[j]? = some y) : dots (xs.take (j + 1)) (ys.take (j + 1)) = (dots (xs.take j) (ys.take j) + x * y) % 1019 := by
  unfold dots
  rw [take_more hx, take_more hy, List.zipWith_append (by
    have h1 := (List.getElem?_eq_some_iff.1 hx).1
    have h2 := (List.getElem?_eq_some_iff.1 hy).1
    simp; omega), List.foldl_append]
  rfl
theorem fold_in (L : List Int) (c : Int) (h0 : 0 ≤ c) (h1 : c ≤ 1018) : 0 ≤ L.foldl (fun s p => (s + p) % 1019) c ∧ L.foldl (fun s p => (s + p) % 1019) c ≤ 1018 := by
  induction L generalizing c with
  | nil => exact ⟨h0, h1⟩
  | cons p L ih => rw [List.foldl_cons]; exact ih _ (by omega) (by omega)
theorem dots_in (xs ys : List Int) : 0 ≤ dots xs ys ∧ dots xs ys ≤ 1018 := fold_in _ 0 (by omega) (by omega)
theorem dots_full {xs ys : List Int} {n : Nat} (h1 : xs.length = n) (h2 : ys.length = n) : dots (xs.take n) (ys.take n) = dots xs ys := by
  rw [List.take_of_length_le (Nat.le_of_eq h1), List.take_of_length_le (Nat.le_of_eq h2)]
theorem lead_at {xs : List Int} {j : Nat} {x : Int} (hx : xs[j]? = some x) (h : ∀ y ∈ xs.take j, y = 0) (hne : x ≠ 0) (c : Int) : leadFrom c xs = c + j := by
  induction xs generalizing j c with
  | nil => simp at hx
  | cons a xs ih =>
    cases j with
    | zero =>
      obtain rfl : a = x := by simpa using hx
      have : (a == 0) = false := by simpa using hne
      simp [leadFrom, this]
    | succ j =>
      have ha : a = 0 := h a (by simp)
      rw [show leadFrom c (a :: xs) = leadFrom (c + 1) xs by simp [leadFrom, ha], ih (by simpa using hx) (fun y hy => h y (by simp [hy])) (c + 1)]
      omega
theorem lead_no {xs : List Int} (h : ∀ y ∈ xs, y = 0) (c : Int) : leadFrom c xs = -1 := by
  induction xs generalizing c with
  | nil => rfl
  | cons a xs ih =>
    have ha : a = 0 := h a (by simp)
    rw [show leadFrom c (a :: xs) = leadFrom (c + 1) xs by simp [leadFrom, ha], ih (fun y hy => h y (by simp [hy]))]
theorem zero_more {xs : List Int} {j : Nat} (hx : xs[j]? = some 0) (h : ∀ y ∈ xs.take j, y = 0) : ∀ y ∈ xs.take (j + 1), y = 0 := by
  rw [take_more hx]
  intro y hy
  rcases List.mem_append.1 hy with hy | hy
  · exact h y hy
  · exact List.mem_singleton.1 hy
theorem units_get {n j : Nat} {i : Int} (hj : j < n) : (units n i)[j]? = some (bif (j : Int) == i then 1 else 0) := by simp [units, hj]
theorem units_len (n : Nat) (i : Int) : (units n i).length = n := by simp [units]

/-- What Combine answers. -/
def combs (ws : Nat) (xss : List (List Int)) (cs : List Int) : List Int := (List.zip xss cs).foldl (fun acc p => addScaled acc p.1 p.2) (List.replicate ws 0)
def okRows (ws : Nat) (xss : List (List Int)) : Bool := xss.all fun xs => isVec xs && (xs.length == ws)
def combine (xss : List (List Int)) (cs : List Int) : List Int :=
  match xss with
  | [] => []
  | xs :: _ => bif ((xss.length == cs.length) && isVec cs) && okRows xs.length xss then combs xs.length xss cs else []
theorem combs_more {ws : Nat} {xss : List (List Int)} {cs xs : List Int} {c : Int} {j : Nat} (hx : xss[j]? = some xs) (hc : cs[j]? = some c) :
    combs ws (xss.take (j + 1)) (cs.take (j + 1)) = addScaled (combs ws (xss.take j) (cs.take j)) xs c := by
  unfold combs
  rw [take_more hx, take_more hc, List.zip_append (by
    have h1 := (List.getElem?_eq_some_iff.1 hx).1
    have h2 := (List.getElem?_eq_some_iff.1 hc).1
    simp; omega), List.foldl_append]
  rfl
theorem addScaled_len {xs ys : List Int} {k : Int} {ws : Nat} (h1 : isVec xs = true) (h2 : isVec ys = true) (h3 : isEl k = true) (h4 : xs.length = ws) (h5 : ys.length = ws) :
    addScaled xs ys k = mac xs ys k ∧ isVec (addScaled xs ys k) = true ∧ (addScaled xs ys k).length = ws := by
  obtain ⟨a, rfl, ha⟩ := of_vec h1
  obtain ⟨b, rfl, hb⟩ := of_vec h2
  obtain ⟨c, rfl⟩ := of_el h3
  rw [ems_len] at h4 h5
  rw [addScaled_ems (h4.trans h5.symm) ha, mac_ems]
  have hl := macF_len (k := c) (h4.trans h5.symm)
  exact ⟨rfl, isVec_ems (by omega), by rw [ems_len]; omega⟩

theorem combine_len {xss : List (List Int)} {cs : List Int} (h : xss.length ≠ cs.length) : combine xss cs = [] := by
  cases xss with
  | nil => rfl
  | cons xs r =>
    have : ((xs :: r).length == cs.length) = false := by simpa using h
    unfold combine; simp only [this]; rfl
theorem combine_cs {xss : List (List Int)} {cs : List Int} (h : isVec cs = false) : combine xss cs = [] := by
  cases xss with
  | nil => rfl
  | cons xs r => unfold combine; simp [h]
theorem combine_row {xss : List (List Int)} {cs xs ys : List Int} {j : Nat} (h0 : xss[0]? = some xs) (hj : xss[j]? = some ys) (h : (isVec ys && (ys.length == xs.length)) = false) : combine xss cs = [] := by
  cases xss with
  | nil => rfl
  | cons x r =>
    obtain rfl : x = xs := by simpa using h0
    have : okRows x.length (x :: r) = false := by
      unfold okRows
      rw [List.all_eq_false]; exact ⟨ys, List.mem_of_getElem? hj, by rw [h]; simp⟩
    unfold combine; simp only [this, Bool.and_false]; rfl
theorem combine_ok {xss : List (List Int)} {cs xs : List Int} {n : Nat} (h0 : xss[0]? = some xs) (hn : xss.length = n) (hl : xss.length = cs.length) (hv : isVec cs = true) (h : ∀ ys ∈ xss.take n, (isVec ys && (ys.length == xs.length)) = true) : combine xss cs = combs xs.length (xss.take n) (cs.take n) := by
  rw [List.take_of_length_le (Nat.le_of_eq hn)] at h ⊢
  rw [List.take_of_length_le (by omega)]
  cases xss with
  | nil => simp at h0
  | cons x r =>
    obtain rfl : x = xs := by simpa using h0
    have h1 : okRows x.length (x :: r) = true := List.all_eq_true.2 h
    have h2 : ((x :: r).length == cs.length) = true := by simpa using hl
    unfold combine; simp only [h1, h2, hv]; rfl
theorem rows_more {xss : List (List Int)} {ys : List Int} {j W : Nat} (hx : xss[j]? = some ys) (h : ∀ y ∈ xss.take j, (isVec y && (y.length == W)) = true) (h1 : (isVec ys && (ys.length == W)) = true) : ∀ y ∈ xss.take (j + 1), (isVec y && (y.length == W)) = true := by
  rw [take_more hx]
  intro y hy
  rcases List.mem_append.1 hy with hy | hy
  · exact h y hy
  · obtain rfl := List.mem_singleton.1 hy; exact h1
theorem scale_le (xs : List Int) (k : Int) : (scale xs k).length ≤ xs.length := by
  unfold scale
  cases isVec xs && isEl k
  · exact Nat.zero_le _
  · exact Nat.le_of_eq (scaled_len xs k)
theorem addScaled_le (xs ys : List Int) (k : Int) : (addScaled xs ys k).length ≤ xs.length := by
  unfold addScaled
  cases (isVec xs && isVec ys && (xs.length == ys.length)) && isEl k
  · exact Nat.zero_le _
  · show (mac xs ys k).length ≤ _
    unfold mac; rw [List.length_zipWith]; omega
theorem units_le (n i : Int) : (unit n i).length ≤ 40 := by
  unfold unit
  cases h : ((decide (0 ≤ n) && decide (n ≤ 40)) && (decide (0 ≤ i) && decide (i ≤ n - 1)))
  · exact Nat.zero_le _
  · have : 0 ≤ n ∧ n ≤ 40 := by simp at h; omega
    show (units n.toNat i).length ≤ _
    rw [units_len]; omega
end Go.Proofs.Ythhnfbhpdcemfaa.Vec
