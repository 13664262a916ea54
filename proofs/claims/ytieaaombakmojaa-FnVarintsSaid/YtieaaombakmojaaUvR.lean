/-
  What is encoded is decoded, and what is decoded is an encoding: on lists. No program.
-/
import Derived.Test.YtieaaombakmojaaEnc
namespace Go.Proofs.Ytieaaombakmojaa.UvR
open Go.RowKit
open Go.Proofs.Ytieaaombakmojaa.Seq Go.Proofs.Ytieaaombakmojaa.Uv Go.Proofs.Ytieaaombakmojaa.Rd Go.Proofs.Ytieaaombakmojaa.Enc

theorem get_drop {xs ys : List Int} {p : Nat} {x : Int} (h : xs.drop p = x :: ys) : xs[p]? = some x ∧ xs.drop (p + 1) = ys := by
  constructor
  · have := congrArg (fun l => l[0]?) h
    simpa using this
  · rw [← List.drop_drop, h]; rfl

/-- A varint that lies there is read. -/
theorem rd_uv (ys rest : List Int) (p : Nat) : ∀ (m : Nat) (f k : Nat) (acc : Int), 0 ≤ acc → (0 < k → 0 < m) → acc + m * 128 ^ k ≤ 1000000000000 → (uv m).length ≤ f → ys.drop (p + k) = uv m ++ rest → rd ys p f acc k = some (acc + m * 128 ^ k, p + k + (uv m).length) := by
  intro m
  induction m using Nat.strongRecOn with
  | _ m ih =>
    intro f k acc h0 hk hmax hf hd
    have hu := uv_pos m
    obtain ⟨f, rfl⟩ : ∃ g, f = g + 1 := ⟨f - 1, by omega⟩
    by_cases h : m < 128
    · rw [uv_small h] at hd ⊢
      obtain ⟨g1, _⟩ := get_drop hd
      rw [rd_last g1 (by omega) (by
        rintro (⟨h1, h2⟩ | h1)
        · have := hk h2; omega
        · omega)]
      rfl
    · rw [uv_big h] at hd hf ⊢
      obtain ⟨g1, g2⟩ := get_drop hd
      rw [List.length_cons] at hf
      have hp : (128 : Int) ^ (k + 1) = 128 ^ k * 128 := Int.pow_succ ..
      have hm : (m : Int) = 128 * ((m / 128 : Nat) : Int) + ((m % 128 : Nat) : Int) := by omega
      have he : acc + ((m % 128 + 128 : Nat) : Int) % 128 * 128 ^ k + ((m / 128 : Nat) : Int) * 128 ^ (k + 1) = acc + m * 128 ^ k := by
        have e1 : ((m % 128 + 128 : Nat) : Int) % 128 = ((m % 128 : Nat) : Int) := by omega
        rw [e1, hp]
        conv => rhs; rw [hm]
        rw [Int.add_mul, Int.mul_comm (128 ^ k) 128, ← Int.mul_assoc, Int.mul_comm ((m / 128 : Nat) : Int) 128]
        omega
      have hp0 : (0 : Int) ≤ 128 ^ k := Int.le_of_lt (Int.pow_pos (by decide))
      have h1 := Int.mul_nonneg (show (0 : Int) ≤ ((m % 128 + 128 : Nat) : Int) % 128 by omega) hp0
      rw [rd_more g1 (by omega), ih (m / 128) (by omega) f (k + 1) _ (by omega) (by omega) (by omega) (by omega) (by rw [← Nat.add_assoc]; exact g2)]
      rw [he, List.length_cons]
      congr 2
      omega

theorem rdv_uv {ys rest : List Int} {p m : Nat} (hm : m ≤ 1000000000000) (hd : ys.drop p = uv m ++ rest) : rdv ys p = ((m : Int), ((p + (uv m).length : Nat) : Int), true) := by
  have h := rd_uv ys rest p m 6 0 0 (by omega) (by omega) (by omega) (uv_len6 hm) (by simpa using hd)
  have e : (0 : Int) + m * 128 ^ 0 = m := by omega
  rw [e, Nat.add_zero] at h
  exact read_some h

/-- What is read is the varint that lies there. -/
theorem uv_rd {ys : List Int} {p : Nat} (hf : ∀ x ∈ ys, Fits .u8 x) : ∀ (f k : Nat) (acc n : Int) (q : Nat), rd ys p f acc k = some (n, q) →
    ∃ m : Nat, n = acc + m * 128 ^ k ∧ (0 < k → 0 < m) ∧ p + k + (uv m).length = q ∧ ((ys.drop (p + k)).take (uv m).length = uv m) := by
  intro f
  induction f with
  | zero => intro k acc n q h; cases h
  | succ f ih =>
    intro k acc n q h
    cases hx : ys[p + k]? with
    | none => rw [rd_none hx] at h; cases h
    | some x =>
      have hb := fits_u8.1 (hf x (List.mem_of_getElem? hx))
      obtain ⟨hl, hxe⟩ := List.getElem?_eq_some_iff.1 hx
      have hd : ys.drop (p + k) = x :: ys.drop (p + k + 1) := by rw [List.drop_eq_getElem_cons hl, hxe]
      by_cases h128 : x < 128
      · by_cases h1 : (x = 0 ∧ 0 < k) ∨ 1000000000000 < acc + x * 128 ^ k
        · rw [rd_bad hx h128 h1] at h; cases h
        · rw [rd_last hx h128 h1] at h
          have e := Option.some.inj h
          have e1 : acc + x * 128 ^ k = n := congrArg Prod.fst e
          have e2 : p + k + 1 = q := congrArg Prod.snd e
          refine ⟨x.toNat, ?_, fun hk => ?_, ?_, ?_⟩
          · rw [← e1, Int.toNat_of_nonneg hb.1]
          · have : ¬ x = 0 := fun h => h1 (.inl ⟨h, hk⟩)
            omega
          · rw [uv_small (by omega)]; exact e2
          · rw [uv_small (by omega), hd]
            simp only [List.length_singleton, List.take_succ_cons, List.take_zero]
            congr 1
            omega
      · rw [rd_more hx h128] at h
        obtain ⟨m, g1, g2, g3, g4⟩ := ih (k + 1) _ n q h
        have hm := g2 (by omega)
        have hM : ¬ (x - 128).toNat + 128 * m < 128 := by omega
        have e1 : ((x - 128).toNat + 128 * m) % 128 = (x - 128).toNat := by omega
        have e2 : ((x - 128).toNat + 128 * m) / 128 = m := by omega
        refine ⟨(x - 128).toNat + 128 * m, ?_, fun _ => by omega, ?_, ?_⟩
        · rw [g1, show x % 128 = x - 128 by omega, Int.pow_succ, Int.natCast_add, Int.toNat_of_nonneg (by omega), Int.add_mul, Int.natCast_mul, Int.mul_comm (128 ^ k) 128, ← Int.mul_assoc, Int.mul_comm (m : Int) 128]
          have : ((128 : Nat) : Int) = 128 := rfl
          rw [this]; omega
        · rw [uv_big hM, e2, List.length_cons]; omega
        · rw [uv_big hM, e1, e2, hd, List.length_cons, List.take_succ_cons]
          rw [← Nat.add_assoc] at g4
          rw [g4]
          congr 1
          omega
theorem uv_rdv {ys : List Int} {i m q : Int} (hf : ∀ x ∈ ys, Fits .u8 x) (h : rdv ys i = (m, q, true)) :
    ∃ p m' q' : Nat, i = p ∧ m = m' ∧ q = q' ∧ m' ≤ 1000000000000 ∧ p < q' ∧ q' ≤ ys.length ∧ (ys.drop p).take (q' - p) = uv m' := by
  obtain ⟨p, m', q', rfl, rfl, rfl, g1, g2, g3⟩ := read_ok hf h
  unfold rdv at h
  rw [if_neg (by omega), Int.toNat_natCast] at h
  cases hr : rd ys p 6 0 0 with
  | none => rw [hr] at h; have := congrArg (fun z => z.2.2) h; cases this
  | some r =>
    obtain ⟨a, b⟩ := r
    rw [hr] at h
    have e1 : a = (m' : Int) := congrArg Prod.fst h
    have e2 : (b : Int) = q' := congrArg (fun z => z.2.1) h
    obtain ⟨u, k1, _, k3, k4⟩ := uv_rd hf 6 0 0 a b hr
    have e3 : a = (u : Int) := by rw [k1]; omega
    have e4 : u = m' := by omega
    subst e4
    refine ⟨p, u, q', rfl, rfl, rfl, g1, g2, g3, ?_⟩
    rw [Nat.add_zero] at k3 k4
    rw [show q' - p = (uv u).length by omega]
    exact k4
theorem rdv_end {ys : List Int} {p : Nat} (h : ys.length ≤ p) : rdv ys p = (0, 0, false) := read_none (rd_none (List.getElem?_eq_none (by omega)))

/-- Byte strings: what was appended is read. -/
theorem rdb_apb {xs ys : List Int} (hl : ys.length ≤ 1000000000000) (most : Int) (hm : (ys.length : Int) ≤ most) : rdb (apb xs ys) xs.length most = (ys, ((apb xs ys).length : Int), true) := by
  have e : apb xs ys = xs ++ (uv ys.length ++ ys) := by rw [apb, app_in hl, List.append_assoc]
  have hd : (apb xs ys).drop xs.length = uv ys.length ++ ys := by rw [e, List.drop_left]
  have hr := rdv_uv hl hd
  have hn : (apb xs ys).length = xs.length + (uv ys.length).length + ys.length := by rw [e]; simp only [List.length_append]; omega
  rw [rdb_yes hr hm (by rw [hn]; omega), hn]
  congr 1
  rw [← List.drop_drop, hd, List.drop_left, List.take_of_length_le (Nat.le_refl _)]
theorem rdb_short {xs ys : List Int} (hl : ys.length ≤ 1000000000000) (most : Int) (hm : ¬ (ys.length : Int) ≤ most) : rdb (apb xs ys) xs.length most = ([], 0, false) := by
  have e : apb xs ys = xs ++ (uv ys.length ++ ys) := by rw [apb, app_in hl, List.append_assoc]
  have hd : (apb xs ys).drop xs.length = uv ys.length ++ ys := by rw [e, List.drop_left]
  exact rdb_big (rdv_uv hl hd) (fun h => hm h.1)

/-- Lists of integers: what was encoded is decoded. -/
def uvs (vs : List Int) : List Int := (vs.map fun v => uv v.toNat).flatten
theorem enc_uvs {vs : List Int} (h : ∀ v ∈ vs, 0 ≤ v ∧ v ≤ 1000000000000) : enc vs = uvs vs := by
  have key : ∀ (us acc : List Int), (∀ v ∈ us, 0 ≤ v ∧ v ≤ 1000000000000) → us.foldl app acc = acc ++ uvs us := by
    intro us
    induction us with
    | nil => intro acc _; simp [uvs]
    | cons u us ih =>
      intro acc h
      rw [List.foldl_cons, ih _ (fun v hv => h v (by simp [hv])), app, if_pos (h u (by simp)), List.append_assoc]
      simp [uvs]
  have := key vs [] h
  simpa [enc] using this
theorem decGo_uvs (xs : List Int) : ∀ (vs : List Int) (f p : Nat) (acc rest : List Int), (∀ v ∈ vs, 0 ≤ v ∧ v ≤ 1000000000000) → xs.drop p = uvs vs ++ rest → decGo xs (vs.length + f) p acc = decGo xs f ((p + (uvs vs).length : Nat) : Int) (acc ++ vs) := by
  intro vs
  induction vs with
  | nil => intro f p acc rest _ _; simp [uvs]
  | cons v vs ih =>
    intro f p acc rest h hd
    obtain ⟨h0, h1⟩ := h v (by simp)
    obtain ⟨u, rfl⟩ : ∃ u : Nat, v = u := ⟨v.toNat, by omega⟩
    have e : uvs ((u : Int) :: vs) = uv u ++ uvs vs := by simp [uvs]
    rw [e, List.append_assoc] at hd
    have hr := rdv_uv (by omega) hd
    rw [List.length_cons, show vs.length + 1 + f = (vs.length + f) + 1 by omega, decGo_yes hr, ih f _ _ rest (fun w hw => h w (by simp [hw])) (by rw [← List.drop_drop, hd, List.drop_left]), e, List.length_append, Nat.add_assoc]
    simp
theorem dec_enc {vs : List Int} (h : ∀ v ∈ vs, 0 ≤ v ∧ v ≤ 1000000000000) (hl : vs.length ≤ 100) : dec (enc vs) 0 vs.length = (vs, ((enc vs).length : Int), true) := by
  have e := enc_uvs h
  have := dec_in (xs := enc vs) (i := 0) (c := vs.length) hl (Nat.zero_le _)
  rw [show ((0 : Nat) : Int) = 0 from rfl] at this
  rw [this]
  have hg := decGo_uvs (enc vs) vs 0 0 [] [] h (by rw [List.drop_zero, List.append_nil]; exact e)
  rw [Nat.add_zero, show ((0 : Nat) : Int) = 0 from rfl] at hg
  rw [hg, decGo, e, Nat.zero_add, List.nil_append]
theorem dec_more {vs : List Int} (h : ∀ v ∈ vs, 0 ≤ v ∧ v ≤ 1000000000000) (hl : vs.length + 1 ≤ 100) : dec (enc vs) 0 ((vs.length : Int) + 1) = ([], 0, false) := by
  have e := enc_uvs h
  have := dec_in (xs := enc vs) (i := 0) (c := vs.length + 1) hl (Nat.zero_le _)
  rw [show ((0 : Nat) : Int) = 0 from rfl, Int.natCast_add, show ((1 : Nat) : Int) = 1 from rfl] at this
  rw [this]
  have hg := decGo_uvs (enc vs) vs 1 0 [] [] h (by rw [List.drop_zero, List.append_nil]; exact e)
  rw [show ((0 : Nat) : Int) = 0 from rfl] at hg
  rw [hg, decGo_no (rdv_end (by rw [e]; omega))]
theorem app_nil {m : Nat} (h : m ≤ 1000000000000) : app [] m = uv m := by rw [app_in h, List.nil_append]
end Go.Proofs.Ytieaaombakmojaa.UvR
