/-
  Matrices as functions of their row and column: what transposing twice, the identity and products give. No program.
-/
import Derived.Test.YthhnfbhpdcemfaaMat
import Derived.Test.YthhnfbhpdcemfaaLin
namespace Go.Proofs.Ythhnfbhpdcemfaa.MatP
open Go.Proofs.Ythhnfbhpdcemfaa.Field Go.Proofs.Ythhnfbhpdcemfaa.Vec Go.Proofs.Ythhnfbhpdcemfaa.Mat Go.Proofs.Ythhnfbhpdcemfaa.Lin

def vec (n : Nat) (f : Nat → F) : List Int := (List.range n).map fun i => em (f i)
def mk (r c : Nat) (f : Nat → Nat → F) : List (List Int) := (List.range r).map fun i => vec c (f i)
def toF (x : Int) : F := Fin.ofNat 1019 x.toNat
theorem em_toF {x : Int} (h : isEl x = true) : em (toF x) = x := by
  obtain ⟨h0, h1⟩ := isEl_iff.1 h
  unfold em toF
  rw [Fin.val_ofNat, Nat.mod_eq_of_lt (by omega)]; omega
theorem vec_len (n : Nat) (f : Nat → F) : (vec n f).length = n := by simp [vec]
theorem vec_ems (n : Nat) (f : Nat → F) : vec n f = ems ((List.range n).map f) := by simp [vec, ems]
theorem vec_congr {n : Nat} {f g : Nat → F} (h : ∀ i, i < n → f i = g i) : vec n f = vec n g :=
  List.map_congr_left fun i hi => by rw [h i (List.mem_range.1 hi)]
theorem mk_congr {r c : Nat} {f g : Nat → Nat → F} (h : ∀ i j, i < r → j < c → f i j = g i j) : mk r c f = mk r c g :=
  List.map_congr_left fun i hi => vec_congr fun j hj => h i j (List.mem_range.1 hi) hj
theorem isVec_vec {n : Nat} (f : Nat → F) (h : n ≤ 40) : isVec (vec n f) = true := by
  rw [vec_ems]; exact isVec_ems (by simpa using h)
theorem of_isVec {xs : List Int} (h : isVec xs = true) : xs = vec xs.length fun j => toF (xs[j]?.getD 0) := by
  apply List.ext_getElem?
  intro j
  unfold vec
  by_cases hj : j < xs.length
  · rw [List.getElem?_map, List.getElem?_range hj, List.getElem?_eq_getElem hj]
    simp only [Option.map_some]
    rw [List.getElem?_eq_getElem hj, Option.getD_some, em_toF ((isVec_iff.1 h).1 _ (List.getElem_mem hj))]
  · rw [List.getElem?_eq_none (by omega), List.getElem?_eq_none (by simp; omega)]
theorem mk_len (r c : Nat) (f : Nat → Nat → F) : (mk r c f).length = r := by simp [mk]
theorem mk_cols {r c : Nat} (f : Nat → Nat → F) (h : 0 < r) : colsOf (mk r c f) = c := by
  rw [colsOf_get (xs := vec c (f 0)) (by simp [mk, h]), vec_len]
theorem isMat_mk {r c : Nat} (f : Nat → Nat → F) (h : r ≤ 40) (hc : c ≤ 40) : isMat (mk r c f) = true := by
  refine isMat_iff.2 ⟨fun xs hx => ?_, by rw [mk_len]; exact h⟩
  obtain ⟨i, hi, rfl⟩ := List.mem_map.1 hx
  have := List.mem_range.1 hi
  exact ⟨isVec_vec _ hc, by rw [vec_len, mk_cols f (by omega)]⟩
theorem of_isMat {m : List (List Int)} (h : isMat m = true) : ∃ f, m = mk m.length (colsOf m) f := by
  refine ⟨fun i j => toF ((m[i]?.getD [])[j]?.getD 0), ?_⟩
  apply List.ext_getElem?
  intro i
  unfold mk
  by_cases hi : i < m.length
  · rw [List.getElem?_map, List.getElem?_range hi, List.getElem?_eq_getElem hi]
    obtain ⟨h1, h2⟩ := (isMat_iff.1 h).1 _ (List.getElem_mem hi)
    simp only [Option.map_some]
    rw [← h2, List.getElem?_eq_getElem hi, Option.getD_some, ← of_isVec h1]
  · rw [List.getElem?_eq_none (by omega), List.getElem?_eq_none (by simp; omega)]

theorem dotF_range (n : Nat) (f g : Nat → F) : dotF ((List.range n).map f) ((List.range n).map g) = sum n fun i => f i * g i := by
  induction n with
  | zero => rfl
  | succ n ih =>
    rw [List.range_succ, List.map_append, List.map_append]
    unfold dotF at ih ⊢
    rw [List.zipWith_append (by simp), List.foldl_append, ih]
    rfl
theorem dot_vec {n : Nat} (f g : Nat → F) (h : n ≤ 40) : dot (vec n f) (vec n g) = em (sum n fun i => f i * g i) := by
  rw [vec_ems, vec_ems, dot_ems (by simp) (by simpa using h), dotF_range]
theorem adds_vec {c : Nat} (f g : Nat → F) (k : F) (h : c ≤ 40) : addScaled (vec c f) (vec c g) (em k) = vec c fun j => f j + g j * k := by
  rw [vec_ems, vec_ems, addScaled_ems (by simp) (by simpa using h), vec_ems]
  congr 1
  unfold macF
  rw [List.zipWith_map, List.zipWith_self]
theorem combs_mk {n c : Nat} (g : Nat → Nat → F) (f : Nat → F) (h : c ≤ 40) : combs c (mk n c g) (vec n f) = vec c fun j => sum n fun i => f i * g i j := by
  induction n with
  | zero =>
    show List.replicate c 0 = _
    apply List.ext_getElem?
    intro i
    unfold vec
    by_cases hi : i < c
    · simp [hi]; rfl
    · rw [List.getElem?_eq_none (by simp; omega), List.getElem?_eq_none (by simp; omega)]
  | succ n ih =>
    have e : combs c (mk (n + 1) c g) (vec (n + 1) f) = addScaled (combs c (mk n c g) (vec n f)) (vec c (g n)) (em (f n)) := by
      unfold combs mk
      rw [show vec (n + 1) f = vec n f ++ [em (f n)] by simp [vec, List.range_succ], List.range_succ, List.map_append, List.zip_append (by simp [vec]), List.foldl_append]
      rfl
    rw [e, ih, adds_vec _ _ _ h]
    exact vec_congr fun j _ => by show _ = sum n _ + f n * g n j; grind
theorem rowMul_mk {n c : Nat} (g : Nat → Nat → F) (f : Nat → F) (hn : 0 < n) (h : c ≤ 40) : rowMul (vec n f) (mk n c g) = vec c fun j => sum n fun i => f i * g i j := by
  unfold rowMul; rw [mk_cols g hn, combs_mk g f h]
theorem mulMat_mk {r n c : Nat} (f g : Nat → Nat → F) (hr : 0 < r) (hn : 0 < n) (hr4 : r ≤ 40) (hn4 : n ≤ 40) (hc4 : c ≤ 40) :
    mulMat (mk r n f) (mk n c g) = mk r c fun i j => sum n fun k => f i k * g k j := by
  rw [mulMat_ok (by rw [isMat_mk f hr4 hn4, isMat_mk g hn4 hc4, mk_cols f hr, mk_len]; simp)]
  show (mk r n f).map _ = (List.range r).map _
  unfold mk
  rw [List.map_map]
  exact List.map_congr_left fun i _ => rowMul_mk g (f i) hn hc4
theorem transpose_mk {r c : Nat} (f : Nat → Nat → F) (hr : 0 < r) (hr4 : r ≤ 40) (hc4 : c ≤ 40) : transpose (mk r c f) = mk c r fun i j => f j i := by
  rw [transpose_ok (isMat_mk f hr4 hc4), mk_cols f hr]
  refine List.map_congr_left fun j hj => ?_
  have hj := List.mem_range.1 hj
  unfold column mk vec
  rw [List.map_map]
  refine List.map_congr_left fun i _ => ?_
  simp [hj]
theorem identity_mk {n : Nat} (h : n ≤ 40) : identity n = mk n n fun i j => if j = i then 1 else 0 := by
  obtain ⟨k, hk, he, hkn⟩ := identity_is n
  obtain rfl : k = n := by omega
  rw [he]
  refine List.map_congr_left fun i hi => ?_
  have hi := List.mem_range.1 hi
  unfold unit units vec
  have h1 : (decide ((0 : Int) ≤ k) && decide ((k : Int) ≤ 40) && (decide ((0 : Int) ≤ i) && decide ((i : Int) ≤ k - 1))) = true := by simp; omega
  rw [h1, cond_true, Int.toNat_natCast]
  refine List.map_congr_left fun j _ => ?_
  by_cases hji : j = i
  · subst hji; simp [em_1]
  · have : ((j : Int) == (i : Int)) = false := by simp; omega
    simp only [this, cond_false, if_neg hji]; rfl
theorem mulVec_mk {r n : Nat} (f : Nat → Nat → F) (v : Nat → F) (hr : 0 < r) (hr4 : r ≤ 40) (hn4 : n ≤ 40) : mulVec (mk r n f) (vec n v) = vec r fun i => sum n fun k => f i k * v k := by
  rw [mulVec_ok (by rw [isMat_mk f hr4 hn4, isVec_vec v hn4, mk_cols f hr, vec_len]; simp)]
  unfold mk
  rw [List.map_map]
  exact List.map_congr_left fun i _ => dot_vec (f i) v hn4

/-- Transposing twice restores a matrix. -/
theorem transpose_twice {m : List (List Int)} (h : isMat m = true) (h0 : 0 < m.length) (hc : 0 < colsOf m) : transpose (transpose m) = m := by
  obtain ⟨f, hf⟩ := of_isMat h
  have h4 := (isMat_iff.1 h).2
  have c4 := colsOf_le h
  rw [hf, transpose_mk f h0 h4 c4, transpose_mk _ hc c4 h4]
theorem mul_one {m : List (List Int)} (h : isMat m = true) (h0 : 0 < m.length) (hc : 0 < colsOf m) : mulMat m (identity (colsOf m)) = m := by
  obtain ⟨f, hf⟩ := of_isMat h
  have h4 := (isMat_iff.1 h).2
  have c4 := colsOf_le h
  rw [identity_mk c4]
  generalize m.length = r at *
  generalize colsOf m = c at *
  subst hf
  rw [mulMat_mk f _ h0 hc h4 c4 c4]
  refine mk_congr fun i j _ hj => ?_
  rw [sum_one hj (fun k _ hk => by rw [if_neg (fun e => hk e.symm)]; grind), if_pos rfl]; grind
theorem one_mul {m : List (List Int)} (h : isMat m = true) (h0 : 0 < m.length) : mulMat (identity m.length) m = m := by
  obtain ⟨f, hf⟩ := of_isMat h
  have h4 := (isMat_iff.1 h).2
  have c4 := colsOf_le h
  rw [identity_mk h4]
  generalize m.length = r at *
  generalize colsOf m = c at *
  subst hf
  rw [mulMat_mk _ f h0 h0 h4 h4 c4]
  refine mk_congr fun i j hi _ => ?_
  rw [sum_one hi (fun k _ hk => by rw [if_neg hk]; grind), if_pos rfl]; grind
/-- A product of matrices, times a vector. -/
theorem mul_vec {a b : List (List Int)} {v : List Int} (ha : isMat a = true) (hb : isMat b = true) (hv : isVec v = true) (hab : colsOf a = b.length) (hbv : v.length = colsOf b) (h0 : 0 < a.length) (hb0 : 0 < b.length) :
    mulVec (mulMat a b) v = mulVec a (mulVec b v) := by
  obtain ⟨f, hf⟩ := of_isMat ha
  obtain ⟨g, hg⟩ := of_isMat hb
  have hx := of_isVec hv
  have a4 := (isMat_iff.1 ha).2
  have b4 := (isMat_iff.1 hb).2
  have c4 := colsOf_le hb
  rw [hab] at hf
  rw [hbv] at hx
  generalize a.length = r at *
  generalize b.length = n at *
  generalize colsOf b = c at *
  generalize (fun j : Nat => toF (v[j]?.getD 0)) = y at *
  subst hf hg hx
  rw [mulMat_mk f g h0 hb0 a4 b4 c4, mulVec_mk _ y h0 a4 c4, mulVec_mk g y hb0 b4 c4, mulVec_mk f _ h0 a4 b4]
  refine vec_congr fun i _ => ?_
  have e1 : (sum c fun k => (sum n fun k2 => f i k2 * g k2 k) * y k) = sum c fun k => sum n fun k2 => f i k2 * g k2 k * y k := sum_congr fun k _ => by
    have := sum_mul n (y k) (fun k2 => f i k2 * g k2 k)
    rw [show (sum n fun k2 => f i k2 * g k2 k * y k) = sum n fun k2 => y k * (f i k2 * g k2 k) from sum_congr fun _ _ => by grind, this]; grind
  rw [e1, sum_comm]
  refine sum_congr fun k _ => ?_
  rw [← sum_mul]
  exact sum_congr fun _ _ => by grind
/-- A product, transposed. -/
theorem transpose_mul {a b : List (List Int)} (ha : isMat a = true) (hb : isMat b = true) (hab : colsOf a = b.length) (h0 : 0 < a.length) (hb0 : 0 < b.length) (hc : 0 < colsOf b) :
    transpose (mulMat a b) = mulMat (transpose b) (transpose a) := by
  obtain ⟨f, hf⟩ := of_isMat ha
  obtain ⟨g, hg⟩ := of_isMat hb
  have a4 := (isMat_iff.1 ha).2
  have b4 := (isMat_iff.1 hb).2
  have c4 := colsOf_le hb
  rw [hab] at hf
  generalize a.length = r at *
  generalize b.length = n at *
  generalize colsOf b = c at *
  subst hf hg
  rw [mulMat_mk f g h0 hb0 a4 b4 c4, transpose_mk _ h0 a4 c4, transpose_mk g hb0 b4 c4, transpose_mk f h0 a4 b4, mulMat_mk _ _ hc hb0 c4 b4 a4]
  exact mk_congr fun i j _ _ => sum_congr fun k _ => by grind
end Go.Proofs.Ythhnfbhpdcemfaa.MatP
