/-
  Combinations of vectors over the field: they are linear in the coefficients, and a unit vector picks a row. No program.
-/
import Derived.Test.YthhnfbhpdcemfaaVec
namespace Go.Proofs.Ythhnfbhpdcemfaa.Vec
open Go.Proofs.Ythhnfbhpdcemfaa.Field

/-- The sum of rows, each times its coefficient, on top of a. -/
def foldC (a : List F) : List (List F) → List F → List F
  | r :: rs, c :: cs => foldC (macF a r c) rs cs
  | _, _ => a
theorem foldC_zip (a : List F) (rs : List (List F)) (cs : List F) : (List.zip rs cs).foldl (fun acc p => macF acc p.1 p.2) a = foldC a rs cs := by
  induction rs generalizing a cs with
  | nil => cases cs <;> rfl
  | cons r rs ih =>
    cases cs with
    | nil => rfl
    | cons c cs => exact ih _ _
theorem foldC_len {a : List F} {rs : List (List F)} {cs : List F} {W : Nat} (ha : a.length = W) (h : ∀ r ∈ rs, r.length = W) : (foldC a rs cs).length = W := by
  induction rs generalizing a cs with
  | nil => cases cs <;> exact ha
  | cons r rs ih =>
    cases cs with
    | nil => exact ha
    | cons c cs => exact ih ((macF_len (ha.trans (h r (by simp)).symm)).trans ha) fun r' hr => h r' (by simp [hr])
theorem mix (a b r : List F) (c d : F) (h1 : a.length = r.length) (h2 : b.length = r.length) : macF (macF a b 1) r (c + d * 1) = macF (macF a r c) (macF b r d) 1 := by
  induction r generalizing a b with
  | nil =>
    obtain rfl : a = [] := by simpa using h1
    simp [macF]
  | cons x r ih =>
    cases a with
    | nil => simp at h1
    | cons y a =>
      cases b with
      | nil => simp at h2
      | cons z b =>
        have := ih a b (by simpa using h1) (by simpa using h2)
        show (y + z * 1 + x * (c + d * 1)) :: macF (macF a b 1) r (c + d * 1) = (y + x * c + (z + x * d) * 1) :: macF (macF a r c) (macF b r d) 1
        rw [this]; congr 1; grind
theorem foldC_add {a b : List F} {rs : List (List F)} {cs ds : List F} {W : Nat} (ha : a.length = W) (hb : b.length = W) (h : ∀ r ∈ rs, r.length = W) (hl : cs.length = ds.length) :
    foldC (macF a b 1) rs (macF cs ds 1) = macF (foldC a rs cs) (foldC b rs ds) 1 := by
  induction rs generalizing a b cs ds with
  | nil => simp [foldC]
  | cons r rs ih =>
    cases cs with
    | nil =>
      obtain rfl : ds = [] := by simpa using hl.symm
      simp [foldC, macF]
    | cons c cs =>
      cases ds with
      | nil => simp at hl
      | cons d ds =>
        have hr := h r (by simp)
        show foldC (macF (macF a b 1) r (c + d * 1)) rs (macF cs ds 1) = macF (foldC (macF a r c) rs cs) (foldC (macF b r d) rs ds) 1
        rw [mix a b r c d (ha.trans hr.symm) (hb.trans hr.symm)]
        exact ih ((macF_len (ha.trans hr.symm)).trans ha) ((macF_len (hb.trans hr.symm)).trans hb) (fun r' hr' => h r' (by simp [hr'])) (by simpa using hl)
theorem mac_map (a r : List F) (c k : F) : macF (a.map (· * k)) r (c * k) = (macF a r c).map (· * k) := by
  unfold macF
  rw [List.zipWith_map_left, List.map_zipWith]
  congr 1; funext x y; grind
theorem foldC_scale (a : List F) (rs : List (List F)) (cs : List F) (k : F) : foldC (a.map (· * k)) rs (cs.map (· * k)) = (foldC a rs cs).map (· * k) := by
  induction rs generalizing a cs with
  | nil => simp [foldC]
  | cons r rs ih =>
    cases cs with
    | nil => simp [foldC]
    | cons c cs =>
      show foldC (macF (a.map (· * k)) r (c * k)) rs (cs.map (· * k)) = (foldC (macF a r c) rs cs).map (· * k)
      rw [mac_map]; exact ih _ _
theorem mac_0 {a r : List F} (h : a.length = r.length) : macF a r 0 = a := by
  induction r generalizing a with
  | nil =>
    obtain rfl : a = [] := by simpa using h
    rfl
  | cons x r ih =>
    cases a with
    | nil => simp at h
    | cons y a =>
      show (y + x * 0) :: macF a r 0 = y :: a
      rw [ih (by simpa using h)]; congr 1; grind
theorem zeros_mac {r : List F} {W : Nat} (h : r.length = W) : macF (List.replicate W 0) r 1 = r := by
  subst h
  induction r with
  | nil => rfl
  | cons x r ih =>
    show (0 + x * 1) :: macF (List.replicate r.length 0) r 1 = x :: r
    rw [ih]; congr 1; grind
def unitsF (n i : Nat) : List F := (List.range n).map fun j => bif j == i then 1 else 0
theorem unitsF_zero (n : Nat) : unitsF (n + 1) 0 = 1 :: List.replicate n 0 := by
  unfold unitsF
  rw [List.range_succ_eq_map, List.map_cons, List.map_map]
  congr 1
  rw [List.eq_replicate_iff]
  refine ⟨by simp, fun x hx => ?_⟩
  obtain ⟨j, _, rfl⟩ := List.mem_map.1 hx
  rfl
theorem unitsF_succ (n i : Nat) : unitsF (n + 1) (i + 1) = 0 :: unitsF n i := by
  unfold unitsF
  rw [List.range_succ_eq_map, List.map_cons, List.map_map]
  congr 1
  refine List.map_congr_left fun j _ => ?_
  simp
theorem foldC_zeros {a : List F} {rs : List (List F)} {n W : Nat} (ha : a.length = W) (h : ∀ r ∈ rs, r.length = W) : foldC a rs (List.replicate n 0) = a := by
  induction rs generalizing n with
  | nil => simp [foldC]
  | cons r rs ih =>
    cases n with
    | zero => simp [foldC]
    | succ n =>
      show foldC (macF a r 0) rs (List.replicate n 0) = a
      rw [mac_0 (ha.trans (h r (by simp)).symm)]
      exact ih fun r' hr => h r' (by simp [hr])
theorem foldC_unit {a r : List F} {rs : List (List F)} {i W : Nat} (ha : a.length = W) (h : ∀ r ∈ rs, r.length = W) (hi : rs[i]? = some r) : foldC a rs (unitsF rs.length i) = macF a r 1 := by
  induction rs generalizing i with
  | nil => simp at hi
  | cons r' rs ih =>
    have hr := h r' (by simp)
    cases i with
    | zero =>
      obtain rfl : r' = r := by simpa using hi
      rw [List.length_cons, unitsF_zero]
      exact foldC_zeros ((macF_len (ha.trans hr.symm)).trans ha) fun q hq => h q (by simp [hq])
    | succ i =>
      rw [List.length_cons, unitsF_succ]
      show foldC (macF a r' 0) rs (unitsF rs.length i) = _
      rw [mac_0 (ha.trans hr.symm)]
      exact ih (fun q hq => h q (by simp [hq])) (by simpa using hi)

/-- The rows of integers. -/
def emss (rs : List (List F)) : List (List Int) := rs.map ems
theorem units_ems (n i : Nat) : units n i = ems (unitsF n i) := by
  unfold units ems unitsF
  rw [List.map_map]
  refine List.map_congr_left fun j _ => ?_
  have e : ((j : Int) == (i : Int)) = (j == i) := by rw [Bool.eq_iff_iff]; simp; omega
  rw [e]; cases h : (j == i) <;> simp [Function.comp, h, em]
theorem combs_fold (a : List F) (rs : List (List F)) (cs : List F) {W : Nat} (hW : W ≤ 40) (ha : a.length = W) (h : ∀ r ∈ rs, r.length = W) :
    (List.zip (emss rs) (ems cs)).foldl (fun acc p => addScaled acc p.1 p.2) (ems a) = ems (foldC a rs cs) := by
  induction rs generalizing a cs with
  | nil => cases cs <;> rfl
  | cons r rs ih =>
    cases cs with
    | nil => rfl
    | cons c cs =>
      have hr := h r (by simp)
      show (List.zip (emss rs) (ems cs)).foldl (fun acc p => addScaled acc p.1 p.2) (addScaled (ems a) (ems r) (em c)) = ems (foldC (macF a r c) rs cs)
      rw [addScaled_ems (ha.trans hr.symm) (ha ▸ hW)]
      exact ih (macF a r c) cs ((macF_len (ha.trans hr.symm)).trans ha) fun q hq => h q (by simp [hq])
theorem combs_ems (rs : List (List F)) (cs : List F) {W : Nat} (hW : W ≤ 40) (h : ∀ r ∈ rs, r.length = W) : combs W (emss rs) (ems cs) = ems (foldC (List.replicate W 0) rs cs) := by
  have h0 : List.replicate W (0 : Int) = ems (List.replicate W 0) := by simp [ems, em]
  unfold combs
  rw [h0]
  exact combs_fold _ rs cs hW (by simp) h
theorem okRows_ems {W : Nat} {xss : List (List Int)} (h : okRows W xss = true) : ∃ rs : List (List F), emss rs = xss ∧ (∀ r ∈ rs, r.length = W) := by
  induction xss with
  | nil => exact ⟨[], rfl, by simp⟩
  | cons xs xss ih =>
    unfold okRows at h
    rw [List.all_cons, Bool.and_eq_true] at h
    obtain ⟨rs, rfl, hrs⟩ := ih h.2
    obtain ⟨h1, h2⟩ := Bool.and_eq_true _ _ ▸ h.1
    obtain ⟨r, rfl, _⟩ := of_vec h1
    refine ⟨r :: rs, rfl, fun q hq => ?_⟩
    rcases List.mem_cons.1 hq with rfl | hq
    · rw [ems_len] at h2; simpa using h2
    · exact hrs q hq
/-- Combine of rows of one width. -/
theorem combine_ems {rs : List (List F)} {cs : List F} {W : Nat} (h0 : rs ≠ []) (hW : W ≤ 40) (h : ∀ r ∈ rs, r.length = W) (hl : rs.length = cs.length) (hc : cs.length ≤ 40) :
    combine (emss rs) (ems cs) = ems (foldC (List.replicate W 0) rs cs) := by
  cases rs with
  | nil => exact absurd rfl h0
  | cons r rs =>
    have hr := h r (by simp)
    have hok : okRows W (emss (r :: rs)) = true := by
      refine List.all_eq_true.2 fun q hq => ?_
      obtain ⟨p, hp, rfl⟩ := List.mem_map.1 hq
      have := h p hp
      rw [isVec_ems (by omega), ems_len, this]; simp
    have e1 : combine (emss (r :: rs)) (ems cs) = bif (((emss (r :: rs)).length == (ems cs).length) && isVec (ems cs)) && okRows (ems r).length (emss (r :: rs)) then combs (ems r).length (emss (r :: rs)) (ems cs) else [] := rfl
    rw [e1, ems_len, ems_len, hr, hok, isVec_ems hc]
    have e2 : (emss (r :: rs)).length = cs.length := by rw [← hl]; simp [emss]
    rw [e2]
    simp only [BEq.rfl, Bool.and_self, cond_true]
    exact combs_ems _ cs hW h
/-- What the law on combinations asks: where the combination is not empty. -/
theorem comb_facts {xss : List (List Int)} {cs ds : List Int} (hne : combine xss cs ≠ []) (hd : ∀ y ∈ ds, isEl y = true) (hl : ds.length = cs.length) :
    (∀ (k : Nat) (xs : List Int), xss[k]? = some xs → combine xss (unit xss.length k) = xs) ∧ addScaled (combine xss cs) (combine xss ds) 1 = combine xss (addScaled cs ds 1) ∧ scale (combine xss cs) 7 = combine xss (scale cs 7) := by
  have hlen : xss.length = cs.length := Classical.byContradiction fun h => hne (combine_len h)
  have hv : isVec cs = true := by
    cases h : isVec cs
    · exact absurd (combine_cs h) hne
    · rfl
  cases xss with
  | nil => exact absurd rfl hne
  | cons x0 r0 =>
    have hok : okRows x0.length (x0 :: r0) = true := by
      cases h : okRows x0.length (x0 :: r0)
      · exfalso
        apply hne
        unfold combine; simp only [h, Bool.and_false]; rfl
      · rfl
    have hW : x0.length ≤ 40 := by
      unfold okRows at hok
      rw [List.all_cons, Bool.and_eq_true, Bool.and_eq_true] at hok
      exact (isVec_iff.1 hok.1.1).2
    obtain ⟨rs, hrs, hw⟩ := okRows_ems hok
    obtain ⟨c, rfl, hc⟩ := of_vec hv
    obtain ⟨d, rfl⟩ := all_ems hd
    generalize x0.length = W at *
    rw [← hrs] at hlen ⊢
    have hrs0 : rs ≠ [] := by rintro rfl; simp [emss] at hrs
    have hrl : rs.length = c.length := by rw [ems_len] at hlen; simpa [emss] using hlen
    rw [ems_len, ems_len] at hl
    have hel : (emss rs).length = rs.length := by simp [emss]
    refine ⟨fun k xs hk => ?_, ?_, ?_⟩
    · have hk1 : k < rs.length := by rw [← hel]; exact (List.getElem?_eq_some_iff.1 hk).1
      obtain ⟨q, hq, rfl⟩ : ∃ q, rs[k]? = some q ∧ ems q = xs := by
        unfold emss at hk; rw [List.getElem?_map] at hk
        exact Option.map_eq_some_iff.1 hk
      have hu : unit (emss rs).length k = ems (unitsF rs.length k) := by
        unfold unit
        have h1 : ((decide ((0 : Int) ≤ ((emss rs).length : Nat)) && decide ((((emss rs).length : Nat) : Int) ≤ 40)) && (decide ((0 : Int) ≤ (k : Int)) && decide ((k : Int) ≤ (((emss rs).length : Nat) : Int) - 1))) = true := by simp; omega
        rw [h1, hel, Int.toNat_natCast, units_ems]; rfl
      have hqW := hw q (List.mem_of_getElem? hq)
      rw [hu, combine_ems hrs0 hW hw (by simp [unitsF]) (by simp [unitsF]; omega), foldC_unit (by simp) hw hq, zeros_mac hqW]
    · rw [show (1 : Int) = em 1 from rfl, addScaled_ems hl.symm hc, combine_ems hrs0 hW hw hrl hc, combine_ems hrs0 hW hw (hrl.trans hl.symm) (by omega),
        addScaled_ems (by rw [foldC_len (W := W) (by simp) hw, foldC_len (W := W) (by simp) hw]) (by rw [foldC_len (W := W) (by simp) hw]; exact hW),
        combine_ems hrs0 hW hw (hrl.trans (macF_len hl.symm).symm) (by rw [macF_len hl.symm]; exact hc), ← foldC_add (W := W) (by simp) (by simp) hw hl.symm]
      rw [zeros_mac (by simp)]
    · rw [show (7 : Int) = em 7 from rfl, scale_ems hc, combine_ems hrs0 hW hw hrl hc, combine_ems hrs0 hW hw (by simpa using hrl) (by simpa using hc), scale_ems (by rw [foldC_len (W := W) (by simp) hw]; exact hW), ← foldC_scale]
      congr 2
      rw [List.map_replicate]; congr 1
theorem combine_le40 (xss : List (List Int)) (cs : List Int) : (combine xss cs).length ≤ 40 := by
  by_cases hne : combine xss cs = []
  · rw [hne]; exact Nat.zero_le _
  · cases xss with
    | nil => exact Nat.zero_le _
    | cons x r =>
      have hlen : (x :: r).length = cs.length := Classical.byContradiction fun h => hne (combine_len h)
      have hv : isVec cs = true := by
        cases h : isVec cs
        · exact absurd (combine_cs h) hne
        · rfl
      have hok : okRows x.length (x :: r) = true := by
        cases h : okRows x.length (x :: r)
        · exfalso
          apply hne
          unfold combine; simp only [h, Bool.and_false]; rfl
        · rfl
      obtain ⟨rs, hrs, hw⟩ := okRows_ems hok
      obtain ⟨c, rfl, hc⟩ := of_vec hv
      have hW : x.length ≤ 40 := by
        unfold okRows at hok
        rw [List.all_cons, Bool.and_eq_true, Bool.and_eq_true] at hok
        exact (isVec_iff.1 hok.1.1).2
      rw [← hrs, combine_ems (by rintro rfl; simp [emss] at hrs) hW hw (by rw [← hrs, ems_len] at hlen; simpa [emss] using hlen) hc, ems_len, foldC_len (W := x.length) (by simp) hw]
      exact hW
end Go.Proofs.Ythhnfbhpdcemfaa.Vec
