/-
  The rank of a Vandermonde matrix of distinct points. No program.
-/
import Derived.Test.YthhnfbhpdcemfaaRref
namespace Go.Proofs.Ythhnfbhpdcemfaa.VanderP
open Go.Proofs.Ythhnfbhpdcemfaa.Field Go.Proofs.Ythhnfbhpdcemfaa.Vec Go.Proofs.Ythhnfbhpdcemfaa.Mat Go.Proofs.Ythhnfbhpdcemfaa.MatP Go.Proofs.Ythhnfbhpdcemfaa.Lin Go.Proofs.Ythhnfbhpdcemfaa.Rref

theorem toF_val {x : Int} (hx : isEl x = true) : (toF x).val = x.toNat := by
  obtain ⟨h0, h1⟩ := isEl_iff.1 hx
  unfold toF
  rw [Fin.val_ofNat, Nat.mod_eq_of_lt (by omega)]
theorem pow_val {x : Int} (hx : isEl x = true) (k : Nat) : (toF x ^ k).val = pw x.toNat k 1019 := by
  induction k with
  | zero => rw [pw_zero _ _ (by omega), show toF x ^ 0 = 1 by grind]; rfl
  | succ k ih => rw [pow_s, Fin.val_mul, ih, toF_val hx, Nat.mul_comm, pw_succ]
theorem em_pow {x : Int} (hx : isEl x = true) (k : Nat) (hk : k ≤ 40) : Field.pow x k = em (toF x ^ k) := by
  rw [pow_el hx (by omega)]
  unfold em
  rw [pow_val hx]
theorem vander_mk {ps : List Int} {c : Nat} (hv : isVec ps = true) (hc : c ≤ 40) : Mat.vander ps c = mk ps.length c fun i j => toF (ps[i]?.getD 0) ^ j := by
  rw [vander_ok (by rw [hv]; simp; omega), Int.toNat_natCast]
  apply List.ext_getElem?
  intro i
  unfold mk vec
  by_cases hi : i < ps.length
  · rw [List.getElem?_map, List.getElem?_map, List.getElem?_range hi, List.getElem?_eq_getElem hi]
    simp only [Option.map_some]
    congr 1
    exact List.map_congr_left fun k hk => by
      rw [List.getElem?_eq_getElem hi, Option.getD_some]
      exact em_pow ((isVec_iff.1 hv).1 _ (List.getElem_mem hi)) k (by have := List.mem_range.1 hk; omega)
  · rw [List.getElem?_eq_none (by simp; omega), List.getElem?_eq_none (by simp; omega)]
/-- Distinct points: as many independent rows as there is room for. -/
theorem rank_vander {ps : List Int} {c : Nat} (hv : isVec ps = true) (hd : ps.Nodup) (hc : c ≤ 40) : (rref (Mat.vander ps c)).length = min ps.length c := by
  have hm := vander_mk hv hc
  have hl4 := (isVec_iff.1 hv).2
  have hM : isMat (Mat.vander ps c) = true := by rw [hm]; exact isMat_mk _ hl4 hc
  have hlen : (Mat.vander ps c).length = ps.length := by rw [hm, mk_len]
  obtain ⟨n, R, p, hr, hR, hnm, _, hs2⟩ := rref_red invF invF_ok hM
  rw [hr, mk_len]
  rw [hlen] at hnm hs2
  rcases Nat.eq_zero_or_pos ps.length with h0 | h0
  · omega
  have hcol : colsOf (Mat.vander ps c) = c := by rw [hm]; exact mk_cols _ h0
  rw [hcol] at hR
  have hn := hR.le
  have hrow : ∀ l, l < ps.length → ent (Mat.vander ps c) l = prow c (toF (ps[l]?.getD 0)) := fun l hl => by
    funext j
    unfold prow
    by_cases hj : j < c
    · rw [if_pos hj, hm, ent_mk _ hl hj]
    · rw [if_neg hj]
      exact ent_supp hM l j (by rw [hcol]; omega)
  have hI : Indep (min ps.length c) (fun i => prow c (toF (ps[i]?.getD 0))) := Lin.vander invF_ok (Nat.min_le_right _ _) (fun i => toF (ps[i]?.getD 0)) fun i k hi hk he => by
    have hi' : i < ps.length := by omega
    have hk' : k < ps.length := by omega
    simp only [List.getElem?_eq_getElem hi', List.getElem?_eq_getElem hk', Option.getD_some] at he
    have h1 := em_toF ((isVec_iff.1 hv).1 _ (List.getElem_mem hi'))
    have h2 := em_toF ((isVec_iff.1 hv).1 _ (List.getElem_mem hk'))
    rw [he, h2] at h1
    exact (List.getElem_inj hd).1 h1.symm
  have := exchange invF invF_ok n _ R _ hI fun i hi => by
    have hi' : i < ps.length := by omega
    rw [← hrow i hi']
    exact hs2 i hi'
  omega
end Go.Proofs.Ythhnfbhpdcemfaa.VanderP
