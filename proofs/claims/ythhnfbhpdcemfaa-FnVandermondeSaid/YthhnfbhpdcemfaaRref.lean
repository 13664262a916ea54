/-
  The reduced rows of a matrix: there are such rows, and one list alone. No program.
-/
import Derived.Test.YthhnfbhpdcemfaaMatP
namespace Go.Proofs.Ythhnfbhpdcemfaa.Rref
open Go.Proofs.Ythhnfbhpdcemfaa.Field Go.Proofs.Ythhnfbhpdcemfaa.Vec Go.Proofs.Ythhnfbhpdcemfaa.Mat Go.Proofs.Ythhnfbhpdcemfaa.MatP Go.Proofs.Ythhnfbhpdcemfaa.Lin

/-- The entries of a matrix; 0 outside. -/
def ent (m : List (List Int)) : Nat → V := fun i j => toF ((m[i]?.getD [])[j]?.getD 0)
theorem toF_0 : toF 0 = 0 := rfl
theorem toF_em (x : F) : toF (em x) = x := em_inj (em_toF (em_el x))
theorem mk_ent {m : List (List Int)} (h : isMat m = true) : mk m.length (colsOf m) (ent m) = m := by
  apply List.ext_getElem?
  intro i
  unfold mk ent
  by_cases hi : i < m.length
  · rw [List.getElem?_map, List.getElem?_range hi, List.getElem?_eq_getElem hi]
    obtain ⟨h1, h2⟩ := (isMat_iff.1 h).1 _ (List.getElem_mem hi)
    simp only [Option.map_some]
    rw [← h2, List.getElem?_eq_getElem hi, Option.getD_some, ← of_isVec h1]
  · rw [List.getElem?_eq_none (by simp; omega), List.getElem?_eq_none (by omega)]
theorem ent_mk {r c : Nat} (f : Nat → Nat → F) {i j : Nat} (hi : i < r) (hj : j < c) : ent (mk r c f) i j = f i j := by
  unfold ent mk vec
  rw [List.getElem?_map, List.getElem?_range hi]
  simp only [Option.map_some, Option.getD_some]
  rw [List.getElem?_map, List.getElem?_range hj]
  simp only [Option.map_some, Option.getD_some]
  exact toF_em _
theorem ent_supp {m : List (List Int)} (h : isMat m = true) (l : Nat) : Supp (colsOf m) (ent m l) := by
  intro j hj
  unfold ent
  by_cases hl : l < m.length
  · have e : m[l]?.getD [] = m[l] := by simp [hl]
    have h2 := ((isMat_iff.1 h).1 _ (List.getElem_mem hl)).2
    rw [e, List.getElem?_eq_none (by omega)]; rfl
  · have e : m[l]? = none := List.getElem?_eq_none (by omega)
    rw [e]; rfl
/-- r are the reduced rows of the rows M (m of them, of w numbers). -/
def IsRed (m w : Nat) (M : Nat → V) (r : List (List Int)) : Prop :=
  ∃ (n : Nat) (R : Nat → V) (p : Nat → Nat), r = mk n w R ∧ Red n w R p ∧ n ≤ m ∧ (∀ i, i < n → Span m M (R i)) ∧ ∀ l, l < m → Span n R (M l)
section
variable (inv : F → F) (hinv : ∀ x : F, x ≠ 0 → x * inv x = 1)
include hinv
theorem IsRed.exists_ {m w : Nat} {M : Nat → V} (hM : ∀ l, l < m → Supp w (M l)) : ∃ r, IsRed m w M r := by
  obtain ⟨n, R, p, h1, h2, h3, h4⟩ := exists_red inv hinv hM
  exact ⟨mk n w R, n, R, p, rfl, h1, h2, h3, h4⟩
theorem IsRed.uniq {m w : Nat} {M : Nat → V} {r r' : List (List Int)} (h : IsRed m w M r) (h' : IsRed m w M r') : r = r' := by
  obtain ⟨n, R, p, rfl, h1, _, h3, h4⟩ := h
  obtain ⟨n', R', p', rfl, k1, _, k3, k4⟩ := h'
  obtain ⟨rfl, _, hR⟩ := Red.uniq inv hinv h1 k1 (fun i hi => span_trans k4 (h3 i hi)) (fun i hi => span_trans h4 (k3 i hi))
  exact mk_congr fun i j hi _ => by rw [hR i hi]
end
open Classical in
/-- The reduced rows of a matrix; none of what is no matrix. -/
noncomputable def rref (m : List (List Int)) : List (List Int) :=
  if h : isMat m = true ∧ ∃ r, IsRed m.length (colsOf m) (ent m) r then Classical.choose h.2 else []
theorem rref_no {m : List (List Int)} (h : isMat m = false) : rref m = [] := by
  unfold rref
  rw [dif_neg (by rw [h]; simp)]
theorem rref_is (inv : F → F) (hinv : ∀ x : F, x ≠ 0 → x * inv x = 1) {m r : List (List Int)} (h : isMat m = true) (hr : IsRed m.length (colsOf m) (ent m) r) : rref m = r := by
  unfold rref
  have hx : isMat m = true ∧ ∃ r, IsRed m.length (colsOf m) (ent m) r := ⟨h, r, hr⟩
  rw [dif_pos hx]
  exact IsRed.uniq inv hinv (Classical.choose_spec hx.2) hr
theorem rref_red (inv : F → F) (hinv : ∀ x : F, x ≠ 0 → x * inv x = 1) {m : List (List Int)} (h : isMat m = true) : IsRed m.length (colsOf m) (ent m) (rref m) := by
  obtain ⟨r, hr⟩ := IsRed.exists_ inv hinv (m := m.length) (w := colsOf m) (M := ent m) fun l _ => ent_supp h l
  rw [rref_is inv hinv h hr]; exact hr
/-- The field's inverse, as a function of its numbers. -/
def invF (x : F) : F := toF (Field.inv (em x))
theorem invF_ok (x : F) (h : x ≠ 0) : x * invF x = 1 := by
  have hne : em x ≠ 0 := fun e => h (em_inj e)
  obtain ⟨h1, _, h3⟩ := inv_el (em_el x) hne
  obtain ⟨y, hy⟩ := of_el h1
  rw [← hy, mul_em] at h3
  unfold invF
  rw [← hy, toF_em]
  exact em_inj h3
theorem em_invF (x : F) (h : x ≠ 0) : em (invF x) = Field.inv (em x) := em_toF (inv_el (em_el x) fun e => h (em_inj e)).1
end Go.Proofs.Ythhnfbhpdcemfaa.Rref
