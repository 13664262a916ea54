/-
  Bases: a width and reduced rows; what reducing, containing and inserting a vector mean. No program.
  What FnBases asks of a basis and a vector. No program.
  Values of the laws' types, by what they read as: read (I), or the call's own and apart (O); and the laws' helpers over them: a copy, a comparison, marking, asking for the stamps, measuring.
  Bases, of the model: new ones, valid ones, copies, comparisons.
  Bases, of the model: what fits, dimensions, equality, copies.
  Bases, of the model: reducing a vector, what a basis contains.
  Bases, of the model: inserting a vector.
  Bases, of the model: free columns.
  Bases, of the model: subspaces.
  What the laws of chapter 8 ask of the program's functions.
  Inserting a row into a basis: the place of its pivot, the scaled row, the cleared column; and what the program asks of a valid basis. No program.
  The contracts of chapter 8 as the exact laws take them.
  A row put into a list of rows: what append of zero values, append without room and copy do to slices of one-cell values. No program.
-/
import Derived.Test.YtefcfeikooknmaaGreatGF
import Derived.Handy
import Derived.Test.YtefcfeikooknmaaGreatGE
import Derived.Test.YtefcfeikooknmaaGreatGA
import Derived.Lib.AppendZerosOnto
import Derived.Laws.IdiomCopy
namespace Go.Proofs.YtefcfeikooknmaaGreat.Bas
open Go.Proofs.YtefcfeikooknmaaGreat.Field Go.Proofs.YtefcfeikooknmaaGreat.Vec Go.Proofs.YtefcfeikooknmaaGreat.Mat Go.Proofs.YtefcfeikooknmaaGreat.MatP Go.Proofs.YtefcfeikooknmaaGreat.Lin Go.Proofs.YtefcfeikooknmaaGreat.Rref Go.Proofs.YtefcfeikooknmaaGreat.SolP Go.Proofs.YtefcfeikooknmaaGreat.RedW Go.Proofs.YtefcfeikooknmaaGreat.RedP

def inW (W : Int) : Bool := decide (0 ≤ W) && decide (W ≤ 40)
/-- A valid basis. -/
noncomputable def isBas (W : Int) (rows : List (List Int)) : Bool := rows.all (fun r => (r.length : Int) == W) && (inW W && isRed rows)
/-- A valid basis and a vector of its width. -/
noncomputable def fits (W : Int) (rows : List (List Int)) (v : List Int) : Bool := (isBas W rows && isVec v) && ((v.length : Int) == W)
def step (out row : List Int) : List Int := addScaled out row (sub 0 (out[(lead row).toNat]?.getD 0))
/-- A vector, reduced by rows one after another. -/
def redv (rows : List (List Int)) (v : List Int) : List Int := rows.foldl step v
noncomputable def reduceV (W : Int) (rows : List (List Int)) (v : List Int) : List Int := bif fits W rows v then redv rows v else []
noncomputable def contains (W : Int) (rows : List (List Int)) (v : List Int) : Bool := fits W rows v && decide (lead (reduceV W rows v) < 0)
noncomputable def inserted (W : Int) (rows : List (List Int)) (v : List Int) : Bool := fits W rows v && !contains W rows v
noncomputable def insertV (W : Int) (rows : List (List Int)) (v : List Int) : List (List Int) := bif inserted W rows v then rref (rows ++ [v]) else rows
noncomputable def dimOf (W : Int) (rows : List (List Int)) : Int := bif isBas W rows then rows.length else 0
def isFreeCol (rows : List (List Int)) (k : Nat) : Bool := rows.all fun r => !(lead r == (k : Int))
noncomputable def freeOf (W : Int) (rows : List (List Int)) : List Int := bif isBas W rows then ((List.range W.toNat).filter (isFreeCol rows)).map (fun (k : Nat) => (k : Int)) else []
def sameB (W : Int) (rows : List (List Int)) (W' : Int) (rows' : List (List Int)) : Bool := (W == W') && MatW.sameM rows rows'

/-- A basis over the field. -/
structure Form (W : Int) (rows : List (List Int)) (w n : Nat) (R : Nat → V) (p : Nat → Nat) : Prop where
  width : W = w
  small : w ≤ 40
  rows : rows = mk n w R
  red : Red n w R p
  supp : ∀ i, i < n → Supp w (R i)
variable {W : Int} {rows : List (List Int)} {w n : Nat} {R : Nat → V} {p : Nat → Nat}
theorem inW_iff : inW W = true ↔ 0 ≤ W ∧ W ≤ 40 := by unfold inW; simp
theorem isBas_iff : isBas W rows = true ↔ (∀ r ∈ rows, (r.length : Int) = W) ∧ (0 ≤ W ∧ W ≤ 40) ∧ isMat rows = true ∧ rref rows = rows := by
  unfold isBas
  rw [Bool.and_eq_true, Bool.and_eq_true, List.all_eq_true, inW_iff]
  unfold isRed MatW.sameM
  simp
theorem bas_form (h : isBas W rows = true) : ∃ w n R p, Form W rows w n R p := by
  obtain ⟨h1, h2, hm, hr⟩ := isBas_iff.1 h
  obtain ⟨n, R, p, hd⟩ := dec_exists hm
  have he := hd.rref hm
  rw [hr] at he
  obtain ⟨w, rfl⟩ : ∃ w : Nat, W = w := ⟨W.toNat, by omega⟩
  rcases Nat.eq_zero_or_pos n with h0 | h0
  · subst h0
    exact ⟨w, 0, R, p, rfl, by omega, he, ⟨fun _ h => by omega, fun _ _ _ h => by omega, fun _ h => by omega, fun _ _ h => by omega, fun _ _ h => by omega⟩, fun _ h => by omega⟩
  · have hc : colsOf rows = w := by
      have h3 : rows[0]? = some (vec (colsOf rows) (R 0)) := (congrArg (fun L : List (List Int) => L[0]?) he).trans (mk_get R h0)
      have h4 := h1 _ (List.mem_of_getElem? h3)
      rw [vec_len] at h4
      omega
    have hs : ∀ i, i < n → Supp (colsOf rows) (R i) := fun i hi => hd.supp hm hi
    have hred := hd.red
    rw [hc] at he hs hred
    exact ⟨w, n, R, p, rfl, by omega, he, hred, hs⟩
theorem Form.len (h : Form W rows w n R p) : rows.length = n := by rw [h.rows, mk_len]
theorem Form.isMat (h : Form W rows w n R p) : isMat rows = true := by rw [h.rows]; exact isMat_mk R (by have := h.red.le; have := h.small; omega) h.small
theorem Form.cols (h : Form W rows w n R p) (h0 : 0 < n) : colsOf rows = w := by rw [h.rows, mk_cols R h0]
theorem Form.get (h : Form W rows w n R p) {i : Nat} (hi : i < n) : rows[i]? = some (vec w (R i)) := by rw [h.rows]; exact mk_get R hi
theorem Form.lead (h : Form W rows w n R p) {i : Nat} (hi : i < n) : Vec.lead (vec w (R i)) = p i := lead_red h.red hi
theorem Form.ent (h : Form W rows w n R p) {i : Nat} (hi : i < n) : ent rows i = R i := by rw [h.rows]; exact ent_red hi (h.supp i hi)
theorem Form.dec (h : Form W rows w n R p) (h0 : 0 < n) : Dec rows n R p := by
  refine ⟨by rw [h.cols h0]; exact h.red, fun i hi => ?_, fun l hl => ?_⟩
  · rw [h.len, ← h.ent hi]; exact span_mem hi
  · rw [h.len] at hl
    rw [h.ent hl]; exact span_mem hl
theorem Form.bas (h : Form W rows w n R p) : isBas W rows = true := by
  refine isBas_iff.2 ⟨fun r hr => ?_, by have := h.width; have := h.small; omega, h.isMat, ?_⟩
  · rw [h.rows] at hr
    obtain ⟨i, _, rfl⟩ := List.mem_map.1 hr
    rw [vec_len, h.width]
  · rcases Nat.eq_zero_or_pos n with h0 | h0
    · have : rows = [] := List.eq_nil_of_length_eq_zero (by rw [h.len, h0])
      subst this
      exact rref_is invF invF_ok rfl ⟨0, R, p, rfl, ⟨fun _ h => by omega, fun _ _ _ h => by omega, fun _ h => by omega, fun _ _ h => by omega, fun _ _ h => by omega⟩, Nat.zero_le _, fun _ h => by omega, fun l hl => by simp at hl⟩
    · rw [(h.dec h0).rref h.isMat, h.cols h0]; exact h.rows.symm
/-- What is left of a vector. -/
def rdc (n : Nat) (R : Nat → V) (p : Nat → Nat) (x : V) : V := fun j => x j + (0 - 1) * lin n R (fun i => x (p i)) j
theorem rdc_s (n : Nat) (R : Nat → V) (p : Nat → Nat) (x : V) (j : Nat) : rdc (n + 1) R p x j = rdc n R p x j + R n j * (0 - x (p n)) := by
  unfold rdc
  show x j + (0 - 1) * (lin n R (fun i => x (p i)) j + x (p n) * R n j) = _
  grind
theorem rdc_ahead (h : Red n w R p) (x : V) {t : Nat} (ht : t < n) : rdc t R p x (p t) = x (p t) := by
  unfold rdc
  have : lin t R (fun i => x (p i)) (p t) = 0 := sum_zero fun i hi => by rw [h.zero i t (by omega) ht (by omega)]; grind
  rw [this]; grind
theorem redv_mk (h : Red n w R p) (hw : w ≤ 40) (x : V) : redv (mk n w R) (vec w x) = vec w (rdc n R p x) := by
  have key : ∀ t, t ≤ n → redv (mk t w R) (vec w x) = vec w (rdc t R p x) := fun t => by
    induction t with
    | zero => intro _; exact vec_congr fun j _ => by show x j = x j + (0 - 1) * 0; grind
    | succ t ih =>
      intro ht
      have e : mk (t + 1) w R = mk t w R ++ [vec w (R t)] := by unfold mk; rw [List.range_succ, List.map_append]; rfl
      unfold redv at ih ⊢
      rw [e, List.foldl_append, ih (by omega)]
      show step (vec w (rdc t R p x)) (vec w (R t)) = _
      unfold step
      rw [lead_red h (by omega), Int.toNat_natCast, vec_get _ (h.lt t (by omega)), Option.getD_some, rdc_ahead h x (by omega)]
      have hs : sub 0 (em (x (p t))) = em (0 - x (p t)) := RedW.sub_em _
      rw [hs, adds_vec _ _ _ hw]
      exact vec_congr fun j _ => (rdc_s t R p x j).symm
  exact key n (Nat.le_refl _)
theorem rdc_piv (h : Red n w R p) (x : V) {i : Nat} (hi : i < n) : rdc n R p x (p i) = 0 := by
  unfold rdc
  rw [h.at_ _ hi]; grind
theorem rdc_again (h : Red n w R p) (x : V) : rdc n R p (rdc n R p x) = rdc n R p x := by
  funext j
  have : lin n R (fun i => rdc n R p x (p i)) j = 0 := sum_zero fun i hi => by
    dsimp only
    rw [rdc_piv h x hi]; grind
  show rdc n R p x j + (0 - 1) * lin n R (fun i => rdc n R p x (p i)) j = _
  rw [this]; grind
theorem lead_neg {x : V} : Vec.lead (vec w x) < 0 ↔ ∀ j, j < w → x j = 0 := by
  rcases lead_cases (vec w x) with ⟨h1, h2⟩ | ⟨j, y, h1, h2, _, h4⟩
  · refine ⟨fun _ j hj => em_inj ((h2 _ (List.mem_of_getElem? (vec_get x hj))).trans em_0.symm), fun _ => by omega⟩
  · refine ⟨fun h => by omega, fun h => ?_⟩
    have hj : j < w := by have := (List.getElem?_eq_some_iff.1 h1).1; rwa [vec_len] at this
    rw [vec_get x hj, h j hj] at h1
    exact absurd ((Option.some.inj h1).symm.trans em_0) h2
/-- The rest is 0 just where the vector is a combination of the rows. -/
theorem rdc_zero (h : Form W rows w n R p) {x : V} (hx : Supp w x) : (∀ j, j < w → rdc n R p x j = 0) ↔ Span n R x := by
  constructor
  · intro h0
    refine ⟨fun i => x (p i), ?_⟩
    funext j
    by_cases hj : j < w
    · have := h0 j hj
      unfold rdc at this
      grind
    · rw [hx j (by omega)]
      exact (sum_zero fun i hi => by rw [h.supp i hi j (by omega)]; grind).symm
  · intro hs j _
    have := congrFun (h.red.coeffs hs) j
    unfold rdc
    rw [← this]; grind
def toV (v : List Int) : V := fun j => toF (v[j]?.getD 0)
theorem toV_supp (v : List Int) : Supp v.length (toV v) := fun j hj => by unfold toV; rw [List.getElem?_eq_none hj]; rfl
theorem toV_vec {v : List Int} (h : isVec v = true) : vec v.length (toV v) = v := (of_isVec h).symm
theorem fits_iff {v : List Int} : fits W rows v = true ↔ isBas W rows = true ∧ isVec v = true ∧ (v.length : Int) = W := by unfold fits; simp [and_assoc]
theorem fits_form {v : List Int} (h : fits W rows v = true) : ∃ w n R p, Form W rows w n R p ∧ v = vec w (toV v) ∧ Supp w (toV v) := by
  obtain ⟨hb, hv, hl⟩ := fits_iff.1 h
  obtain ⟨w, n, R, p, hf⟩ := bas_form hb
  have hw : v.length = w := by have := hf.width; omega
  have h1 := toV_vec hv
  have h2 := toV_supp v
  rw [hw] at h1 h2
  exact ⟨w, n, R, p, hf, h1.symm, h2⟩
theorem reduceV_no {v : List Int} (h : fits W rows v = false) : reduceV W rows v = [] := by unfold reduceV; rw [h]; rfl
theorem reduceV_form {v : List Int} (h : fits W rows v = true) (hf : Form W rows w n R p) (hv : v = vec w (toV v)) : reduceV W rows v = vec w (rdc n R p (toV v)) := by
  unfold reduceV
  rw [h]
  show redv rows v = _
  conv => lhs; rw [hf.rows, hv]
  exact redv_mk hf.red hf.small _
theorem contains_iff {v : List Int} (h : fits W rows v = true) (hf : Form W rows w n R p) (hv : v = vec w (toV v)) (hs : Supp w (toV v)) : contains W rows v = true ↔ Span n R (toV v) := by
  unfold contains
  rw [h, Bool.true_and, decide_eq_true_iff, reduceV_form h hf hv, lead_neg, rdc_zero hf hs]
theorem contains_no {v : List Int} (h : fits W rows v = false) : contains W rows v = false := by unfold contains; rw [h]; rfl
theorem redv_len (v : List Int) (rows : List (List Int)) : (redv rows v).length ≤ v.length := by
  unfold redv
  induction rows generalizing v with
  | nil => exact Nat.le_refl _
  | cons r rows ih => exact Nat.le_trans (ih (step v r)) (addScaled_le _ _ _)
theorem reduceV_le (v : List Int) : (reduceV W rows v).length ≤ v.length := by
  unfold reduceV
  cases fits W rows v
  · exact Nat.zero_le _
  · exact redv_len v rows

/-! inserting -/
theorem indep_more (h : Form W rows w n R p) {x : V} (hx : ¬ Span n R x) : Indep (n + 1) (fun l => if l < n then R l else x) := by
  intro c hc
  have key : ∀ j, lin n R c j + c n * x j = 0 := fun j => by
    have := hc j
    have e : lin (n + 1) (fun l => if l < n then R l else x) c j = lin n R c j + c n * x j := by
      show sum n (fun i => c i * (if i < n then R i else x) j) + c n * (if n < n then R n else x) j = _
      rw [if_neg (Nat.lt_irrefl n)]
      congr 1
      exact sum_congr fun i hi => by rw [if_pos hi]
    rwa [e] at this
  have hn0 : c n = 0 := Classical.byContradiction fun hne => hx ⟨fun i => (0 - invF (c n)) * c i, by
    funext j
    rw [lin_mul]
    have h1 := key j
    have h2 := invF_ok _ hne
    have : invF (c n) * (lin n R c j + c n * x j) = 0 := by rw [h1]; grind
    grind⟩
  intro i hi
  rcases Nat.lt_or_eq_of_le (Nat.le_of_lt_succ hi) with h1 | rfl
  · exact h.red.indep c (fun j => by have := key j; rw [hn0] at this; grind) i h1
  · exact hn0
theorem more_mk (h : Form W rows w n R p) {v : List Int} (hv : v = vec w (toV v)) : rows ++ [v] = mk (n + 1) w (fun l => if l < n then R l else toV v) := by
  rw [h.rows]
  conv => lhs; rw [hv]
  unfold mk
  rw [List.range_succ, List.map_append]
  congr 1
  · exact List.map_congr_left fun i hi => by
      dsimp only
      rw [if_pos (List.mem_range.1 hi)]
  · simp
/-- The basis with an innovative vector: one row more. -/
theorem insert_form (h : Form W rows w n R p) {v : List Int} (hv : v = vec w (toV v)) (hs : Supp w (toV v)) (hx : ¬ Span n R (toV v)) : n < w ∧ ∃ R' p', Form W (rref (rows ++ [v])) w (n + 1) R' p' ∧ (∀ i, i < n → Span (n + 1) R' (R i)) ∧ Span (n + 1) R' (toV v) := by
  have hI := indep_more h hx
  have hsup : ∀ l, l < n + 1 → Supp w ((fun l => if l < n then R l else toV v) l) := fun l hl => by
    dsimp only
    by_cases h1 : l < n
    · rw [if_pos h1]; exact h.supp l h1
    · rw [if_neg h1]; exact hs
  have hnw : n < w := by
    have := exchange invF invF_ok w (n + 1) (fun k => ind k) _ hI fun i hi => ⟨fun k => (if i < n then R i else toV v) k, by
      funext j
      by_cases hj : j < w
      · show _ = sum w fun k => _ * ind k j
        rw [sum_one hj fun k hk hne => by rw [ind_ne (fun e => hne e.symm)]; grind, ind_same]; grind
      · have h0 := hsup i hi j (by omega)
        dsimp only at h0
        rw [h0]
        exact (sum_zero fun k hk => by
          dsimp only
          rw [ind_ne (show j ≠ k by omega)]; grind).symm⟩
    omega
  have hw4 := h.small
  refine ⟨hnw, ?_⟩
  rw [more_mk h hv]
  have hm : Mat.isMat (mk (n + 1) w (fun l => if l < n then R l else toV v)) = true := isMat_mk _ (by omega) hw4
  obtain ⟨n', R', p', hd⟩ := dec_exists hm
  have hc : colsOf (mk (n + 1) w (fun l => if l < n then R l else toV v)) = w := mk_cols _ (by omega)
  have hent : ∀ l, l < n + 1 → Rref.ent (mk (n + 1) w (fun l => if l < n then R l else toV v)) l = if l < n then R l else toV v := fun l hl => ent_red hl (hsup l hl)
  have h1 := hd.le
  rw [mk_len] at h1
  have hout : ∀ l, l < n + 1 → Span n' R' (if l < n then R l else toV v) := fun l hl => by
    have := hd.out l (by rw [mk_len]; exact hl)
    rwa [hent l hl] at this
  have h2 := exchange invF invF_ok n' (n + 1) R' _ hI hout
  obtain rfl : n' = n + 1 := by omega
  have hred := hd.red
  have hsu := fun i hi => hd.supp hm (i := i) hi
  have hr := hd.rref hm
  rw [hc] at hred hsu hr
  rw [hr]
  refine ⟨R', p', ⟨h.width, hw4, rfl, hred, hsu⟩, fun i hi => ?_, ?_⟩
  · have := hout i (by omega)
    rwa [if_pos hi] at this
  · have := hout n (by omega)
    rwa [if_neg (Nat.lt_irrefl n)] at this
theorem inserted_iff {v : List Int} : inserted W rows v = true ↔ fits W rows v = true ∧ contains W rows v = false := by unfold inserted; simp
theorem insertV_yes {v : List Int} (h : inserted W rows v = true) : insertV W rows v = rref (rows ++ [v]) := by unfold insertV; rw [h]; rfl
theorem insertV_no {v : List Int} (h : inserted W rows v = false) : insertV W rows v = rows := by unfold insertV; rw [h]; rfl

/-! free columns -/
theorem free_piv (h : Form W rows w n R p) (k : Nat) : isFreeCol rows k = !isPiv n p k := by
  have hL : ∀ r ∈ rows, ∃ i, i < n ∧ Vec.lead r = p i := fun r hr => by
    rw [h.rows] at hr
    obtain ⟨i, hi, rfl⟩ := List.mem_map.1 hr
    exact ⟨i, List.mem_range.1 hi, h.lead (List.mem_range.1 hi)⟩
  unfold isFreeCol
  cases hp : isPiv n p k
  · rw [Bool.not_false, List.all_eq_true]
    intro r hr
    obtain ⟨i, hi, e⟩ := hL r hr
    have := isPiv_no hp hi
    rw [e]
    simp; omega
  · rw [Bool.not_true, List.all_eq_false]
    obtain ⟨i, hi, e⟩ := isPiv_iff.1 hp
    refine ⟨_, List.mem_of_getElem? (h.get hi), ?_⟩
    rw [h.lead hi]
    simp; omega
theorem freeOf_len (h : Form W rows w n R p) : (freeOf W rows).length = w - n := by
  unfold freeOf
  rw [h.bas]
  show (((List.range W.toNat).filter (isFreeCol rows)).map _).length = _
  rw [List.length_map, h.width, Int.toNat_natCast, show isFreeCol rows = fun j => !isPiv n p j from funext (free_piv h), filter_cnt, h.red.count_free]
theorem freeOf_le (W : Int) (rows : List (List Int)) : (freeOf W rows).length ≤ 40 := by
  cases hb : isBas W rows
  · unfold freeOf; rw [hb]; exact Nat.zero_le _
  · obtain ⟨w, n, R, p, hf⟩ := bas_form hb
    rw [freeOf_len hf]; have := hf.small; omega
end Go.Proofs.YtefcfeikooknmaaGreat.Bas
namespace Go.Proofs.YtefcfeikooknmaaGreat.Bas
open Go.Proofs.YtefcfeikooknmaaGreat.Field Go.Proofs.YtefcfeikooknmaaGreat.Vec Go.Proofs.YtefcfeikooknmaaGreat.Mat Go.Proofs.YtefcfeikooknmaaGreat.MatP Go.Proofs.YtefcfeikooknmaaGreat.Lin Go.Proofs.YtefcfeikooknmaaGreat.Rref Go.Proofs.YtefcfeikooknmaaGreat.SolP Go.Proofs.YtefcfeikooknmaaGreat.RedW Go.Proofs.YtefcfeikooknmaaGreat.RedP

/-- Both valid, of one width, each row contained. -/
noncomputable def isSub (W : Int) (rows : List (List Int)) (W' : Int) (rows' : List (List Int)) : Bool := ((isBas W rows && isBas W' rows') && (W == W')) && rows.all (fun r => contains W' rows' r)
variable {W : Int} {rows : List (List Int)} {w n : Nat} {R : Nat → V} {p : Nat → Nat}
theorem Form.fits (h : Form W rows w n R p) {x : V} : Bas.fits W rows (vec w x) = true := fits_iff.2 ⟨h.bas, isVec_vec _ h.small, by rw [vec_len, h.width]⟩
theorem toV_of {x : V} (hx : Supp w x) : toV (vec w x) = x := by
  funext j
  unfold toV
  by_cases hj : j < w
  · rw [vec_get x hj, Option.getD_some, toF_em]
  · rw [List.getElem?_eq_none (by rw [vec_len]; omega), hx j (by omega)]; rfl
theorem Form.has (h : Form W rows w n R p) {x : V} (hx : Supp w x) : contains W rows (vec w x) = true ↔ Span n R x := by
  have := contains_iff (W := W) (rows := rows) (v := vec w x) h.fits h (by rw [toV_of hx]) (by rw [toV_of hx]; exact hx)
  rwa [toV_of hx] at this
/-- The basis behind the insertion of a vector of its width. -/
theorem after {v : List Int} (h : fits W rows v = true) (hf : Form W rows w n R p) (hv : v = vec w (toV v)) (hs : Supp w (toV v)) :
    ∃ n' R' p', Form W (insertV W rows v) w n' R' p' ∧ n' = (if inserted W rows v then n + 1 else n) ∧ (∀ i, i < n → Span n' R' (R i)) ∧ Span n' R' (toV v) := by
  cases hi : inserted W rows v
  · have hc : contains W rows v = true := by
      cases e : contains W rows v
      · rw [inserted_iff.2 ⟨h, e⟩] at hi; cases hi
      · rfl
    rw [insertV_no hi]
    exact ⟨n, R, p, hf, rfl, fun i hi => span_mem hi, (contains_iff h hf hv hs).1 hc⟩
  · rw [insertV_yes hi]
    have hc := (inserted_iff.1 hi).2
    obtain ⟨_, R', p', h1, h2, h3⟩ := insert_form hf hv hs fun e => by
      rw [(contains_iff h hf hv hs).2 e] at hc; cases hc
    exact ⟨n + 1, R', p', h1, rfl, h2, h3⟩
theorem law {v : List Int} (h : fits W rows v = true) : contains W (insertV W rows v) v = true ∧ isBas W (insertV W rows v) = true ∧ (reduceV W rows v).length = v.length ∧
    dimOf W (insertV W rows v) = dimOf W rows + (if inserted W rows v then 1 else 0) ∧ ((freeOf W (insertV W rows v)).length : Int) = W - (dimOf W rows + (if inserted W rows v then 1 else 0)) ∧
    decide (lead (reduceV W rows v) < 0) = !inserted W rows v ∧ reduceV W rows (reduceV W rows v) = reduceV W rows v ∧ isSub W rows W (insertV W rows v) = true ∧ inserted W rows v = !contains W rows v := by
  obtain ⟨w, n, R, p, hf, hv, hs⟩ := fits_form h
  obtain ⟨n', R', p', hf', hn', hR, hx⟩ := after h hf hv hs
  have hlv : v.length = w := by have := hf.width; have := (fits_iff.1 h).2.2; omega
  have hin : inserted W rows v = !contains W rows v := by unfold inserted; rw [h]; rfl
  have hrd := reduceV_form h hf hv
  have hrs : Supp w (rdc n R p (toV v)) := fun j hj => by
    unfold rdc
    rw [hs j hj]
    have : lin n R (fun i => toV v (p i)) j = 0 := sum_zero fun i hi => by rw [hf.supp i hi j hj]; grind
    rw [this]; grind
  refine ⟨?_, hf'.bas, by rw [hrd, vec_len, hlv], ?_, ?_, ?_, ?_, ?_, hin⟩
  · have := (hf'.has hs).2 hx
    rwa [← hv] at this
  · unfold dimOf
    rw [hf'.bas, hf.bas]
    show ((insertV W rows v).length : Int) = (rows.length : Int) + _
    rw [hf'.len, hf.len, hn']
    split <;> omega
  · rw [freeOf_len hf']
    have h1 := hf'.red.le
    have h2 := hf.width
    unfold dimOf
    rw [hf.bas]
    show _ = W - ((rows.length : Int) + _)
    rw [hf.len]
    rw [hn'] at h1 ⊢
    cases hi : inserted W rows v
    · rw [hi, if_neg (by simp)] at h1
      rw [if_neg (by simp), if_neg (by simp)]
      omega
    · rw [hi, if_pos rfl] at h1
      rw [if_pos rfl, if_pos rfl]
      omega
  · rw [hin, Bool.not_not]
    unfold contains
    rw [h, Bool.true_and]
  · rw [hrd]
    have h2 := reduceV_form (v := vec w (rdc n R p (toV v))) (W := W) (rows := rows) hf.fits hf (by rw [toV_of hrs])
    rw [h2, toV_of hrs, rdc_again hf.red]
  · unfold isSub
    rw [hf.bas, hf'.bas]
    simp only [Bool.and_self, beq_self_eq_true, Bool.true_and]
    rw [List.all_eq_true]
    intro r hr
    rw [hf.rows] at hr
    obtain ⟨i, hi, rfl⟩ := List.mem_map.1 hr
    have hi := List.mem_range.1 hi
    exact (hf'.has (hf.supp i hi)).2 (hR i hi)
theorem form_nil {w : Nat} (h : w ≤ 40) : Form w [] w 0 (fun _ => ind 0) (fun _ => 0) :=
  ⟨rfl, h, rfl, ⟨fun _ h => by omega, fun _ _ _ h => by omega, fun _ h => by omega, fun _ _ h => by omega, fun _ _ h => by omega⟩, fun _ h => by omega⟩
theorem law_no {v : List Int} (h : fits W rows v = false) : inserted W rows v = false ∧ insertV W rows v = rows ∧ contains W rows v = false := by
  have h1 : inserted W rows v = false := by unfold inserted; rw [h]; rfl
  exact ⟨h1, insertV_no h1, contains_no h⟩
end Go.Proofs.YtefcfeikooknmaaGreat.Bas
namespace Go.Proofs.YtefcfeikooknmaaGreat.Shape
open Go.ChangeShapes Go.WideShapes Go.ChangeAt Go.RowKit
open Go.Proofs.YtefcfeikooknmaaGreat.Seq Go.Proofs.YtefcfeikooknmaaGreat.Help

/-- An answer in new memory; one with a truth value. -/
def Ret (P : World → Nat → Nat → Value → Prop) (w : World) (e : Ending) (w' : World) : Prop := ∃ u, e = .returned u ∧ P w' w.heap.size w'.heap.size u ∧ Below w.heap.size w w'
def RetB (P : World → Nat → Nat → Value → Prop) (b : Bool) (w : World) (e : Ending) (w' : World) : Prop := ∃ u, e = .returned (.tuple #[u, .bool b]) ∧ P w' w.heap.size w'.heap.size u ∧ Below w.heap.size w w'
/-- A comparison, a mark, a look, a measure. -/
def Says (v : Value) (w : World) (e : Ending) (w' : World) : Prop := e = .returned v ∧ Below w.heap.size w w'
def Marks (k : Int) (P : World → Prop) (l h : Nat) (w : World) (e : Ending) (w' : World) : Prop := e = .returned (.int .i64 k) ∧ P w' ∧ Mv w w' l h
def Sizes (F : Prop) (w : World) (e : Ending) (w' : World) : Prop := ∃ r : Int, e = .returned (.int .i64 r) ∧ -1 ≤ r ∧ r ≤ 1048576 ∧ (0 ≤ r → F) ∧ Below w.heap.size w w'

section
variable {w w' : World} {l h l' h' B : Nat} {v : Value}
/-! slices of integers -/
def IntSI (w : World) (l h : Nat) (v : Value) (xs : List Int) : Prop := ∃ ad n cap, v = .slice ad n cap ∧ Sl w l h .i64 ad n cap xs
def IntSO (w : World) (l h : Nat) (v : Value) (xs : List Int) : Prop := OwnTail w l h 3 v xs
def IntSF (xs : List Int) : Prop := xs.length ≤ 1048576
theorem IntSO_is {xs : List Int} (s : IntSO w l h v xs) : IntSI w l h v xs := OwnTail.ints s
theorem IntSI_mv {xs : List Int} (s : IntSI w l h v xs) (m : Mv w w' l' h') (hd : h ≤ l' ∨ h' ≤ l) : IntSI w' l h v xs := by obtain ⟨_, _, _, rfl, s⟩ := s; exact ⟨_, _, _, rfl, s.mv m hd⟩
theorem IntSI_below {xs : List Int} (s : IntSI w l h v xs) (m : Below B w w') (hB : h ≤ B ∨ w.heap.size ≤ B) : IntSI w' l h v xs := by obtain ⟨_, _, _, rfl, s⟩ := s; exact ⟨_, _, _, rfl, s.below m hB⟩
theorem IntSO_mv {xs : List Int} (s : IntSO w l h v xs) (m : Mv w w' l' h') (hd : h ≤ l' ∨ h' ≤ l) : IntSO w' l h v xs := OwnTail.mv s m hd
theorem IntSO_below {xs : List Int} (s : IntSO w l h v xs) (m : Below B w w') (hB : h ≤ B ∨ w.heap.size ≤ B) : IntSO w' l h v xs := OwnTail.below s m hB
/-! slices of slices of integers -/
def IntSSI (w : World) (l h : Nat) (v : Value) (xss : List (List Int)) : Prop := ∃ ad n cap, v = .slice ad n cap ∧ Sls w l h ad n cap xss
def IntSSO (w : World) (l h : Nat) (v : Value) (xss : List (List Int)) : Prop := ∃ ad n cap us, v = .slice ad n cap ∧ Net w l h 3 ad n cap us xss
theorem IntSSO_is {x : List (List Int)} (s : IntSSO w l h v x) : IntSSI w l h v x := by obtain ⟨_, _, _, _, rfl, s⟩ := s; exact ⟨_, _, _, rfl, s.sls⟩
theorem IntSSI_mv {x : List (List Int)} (s : IntSSI w l h v x) (m : Mv w w' l' h') (hd : h ≤ l' ∨ h' ≤ l) : IntSSI w' l h v x := by obtain ⟨_, _, _, rfl, s⟩ := s; exact ⟨_, _, _, rfl, s.mv m hd⟩
theorem IntSSI_below {x : List (List Int)} (s : IntSSI w l h v x) (m : Below B w w') (hB : h ≤ B ∨ w.heap.size ≤ B) : IntSSI w' l h v x := by obtain ⟨_, _, _, rfl, s⟩ := s; exact ⟨_, _, _, rfl, s.below m hB⟩
theorem IntSSO_mv {x : List (List Int)} (s : IntSSO w l h v x) (m : Mv w w' l' h') (hd : h ≤ l' ∨ h' ≤ l) : IntSSO w' l h v x := by obtain ⟨_, _, _, _, rfl, s⟩ := s; exact ⟨_, _, _, _, rfl, s.mv m hd⟩
theorem IntSSO_below {x : List (List Int)} (s : IntSSO w l h v x) (m : Below B w w') (hB : h ≤ B ∨ w.heap.size ≤ B) : IntSSO w' l h v x := by obtain ⟨_, _, _, _, rfl, s⟩ := s; exact ⟨_, _, _, _, rfl, s.below m hB⟩
abbrev IntSSF := Small
/-! bases: a width and rows -/
abbrev Bs := Int × List (List Int)
def BasisI (w : World) (l h : Nat) (v : Value) (b : Bs) : Prop := ∃ u, v = .agg #[.int .i64 b.1, u] ∧ (-9223372036854775808 ≤ b.1 ∧ b.1 ≤ 9223372036854775807) ∧ IntSSI w l h u b.2
def BasisO (w : World) (l h : Nat) (v : Value) (b : Bs) : Prop := ∃ u, v = .agg #[.int .i64 b.1, u] ∧ (-9223372036854775808 ≤ b.1 ∧ b.1 ≤ 9223372036854775807) ∧ IntSSO w l h u b.2
def BasisF (b : Bs) : Prop := Small b.2
theorem BasisO_is {x : Bs} (s : BasisO w l h v x) : BasisI w l h v x := by obtain ⟨_, rfl, hw, s⟩ := s; exact ⟨_, rfl, hw, IntSSO_is s⟩
theorem BasisI_mv {x : Bs} (s : BasisI w l h v x) (m : Mv w w' l' h') (hd : h ≤ l' ∨ h' ≤ l) : BasisI w' l h v x := by obtain ⟨_, rfl, hw, s⟩ := s; exact ⟨_, rfl, hw, IntSSI_mv s m hd⟩
theorem BasisI_below {x : Bs} (s : BasisI w l h v x) (m : Below B w w') (hB : h ≤ B ∨ w.heap.size ≤ B) : BasisI w' l h v x := by obtain ⟨_, rfl, hw, s⟩ := s; exact ⟨_, rfl, hw, IntSSI_below s m hB⟩
theorem BasisO_mv {x : Bs} (s : BasisO w l h v x) (m : Mv w w' l' h') (hd : h ≤ l' ∨ h' ≤ l) : BasisO w' l h v x := by obtain ⟨_, rfl, hw, s⟩ := s; exact ⟨_, rfl, hw, IntSSO_mv s m hd⟩
theorem BasisO_below {x : Bs} (s : BasisO w l h v x) (m : Below B w w') (hB : h ≤ B ∨ w.heap.size ≤ B) : BasisO w' l h v x := by obtain ⟨_, rfl, hw, s⟩ := s; exact ⟨_, rfl, hw, IntSSO_below s m hB⟩
end

/-! the helpers -/
def IntSC (xs : List Int) : Nat := xs.length
def IntST (m : Int) (xs : List Int) : List Int := stamps .i64 m xs.length
def IntSSC (x : List (List Int)) : Nat := sumLen x
def IntSST (m : Int) (x : List (List Int)) : List (List Int) := stampss m x
def BasisC (b : Bs) : Nat := sumLen b.2
def BasisT (m : Int) (b : Bs) : Bs := (b.1, stampss m b.2)
theorem IntSC_le {xs : List Int} (h : IntSF xs) : IntSC xs ≤ 1099511627776 := by unfold IntSF at h; unfold IntSC; omega
theorem IntSSC_le {x : List (List Int)} (h : IntSSF x) : IntSSC x ≤ 1099511627776 := h.sum
theorem BasisC_le {b : Bs} (h : BasisF b) : BasisC b ≤ 1099511627776 := Small.sum h
section
variable {w : World} {l h l2 h2 : Nat} {v v2 : Value}
theorem toIntS {x : List Int} (s : IntSI w l h v x) (hf : IntSF x) : Calls Tryz.prog 70 #[v] w (Ret (fun w l h u => IntSO w l h u x) w) := by
  obtain ⟨ad, n, cap, rfl, s⟩ := s
  refine (toI w s (by have := s.len; unfold IntSF at hf; omega)).mono ?_
  rintro e w' ⟨ad2, n2, cap2, rfl, r, b⟩
  exact ⟨_, rfl, (OwnInts.of r).tail, b⟩
theorem eqIntS {x y : List Int} (s : IntSI w l h v x) (s2 : IntSI w l2 h2 v2 y) (hf : IntSF x) (he : x = y) : Calls Tryz.prog 78 #[v, v2] w (Says (.bool true) w) := by
  obtain ⟨ad, n, cap, rfl, s⟩ := s
  obtain ⟨ad2, n2, cap2, rfl, s2⟩ := s2
  exact eqI w s s2 (by have := s.len; unfold IntSF at hf; omega) he
theorem markIntS {x : List Int} (r : IntSO w l h v x) (hf : IntSF x) (m : Int) (hm0 : 0 ≤ m) (hm1 : m ≤ 100000000000000000) : Calls Tryz.prog 79 #[v, .int .i64 m] w (Marks (m + IntSC x) (fun w' => IntSO w' l h v (IntST m x)) l h w) := by
  obtain ⟨ad, n, cap, rfl, h1, h2, h3, ⟨rfl, rfl⟩ | ⟨hn, g, C, pre, rfl, b1, b2, r⟩⟩ := r
  · refine (markI0 w ad cap m).mono ?_
    rintro e w' ⟨rfl, rfl⟩
    exact ⟨by simp [IntSC], ⟨ad, 0, cap, rfl, h1, h2, h3, .inl ⟨rfl, rfl⟩⟩, Mv.refl _ _ _⟩
  · have hl : x.length = n := by have := r.len; rw [List.length_append] at this; omega
    refine (markT w r h1 h2 (by unfold IntSF at hf; omega) m hm0 (by omega)).mono ?_
    rintro e w' ⟨rfl, r', mv⟩
    refine ⟨by unfold IntSC; rw [hl], ⟨_, n, cap, rfl, h1, h2, h3, .inr ⟨hn, g, C, pre, rfl, b1, b2, ?_⟩⟩, mv.mono b1 b2⟩
    unfold IntST
    rw [hl]; exact r'
theorem heldIntS {x : List Int} (m : Int) (s : IntSI w l h v (IntST m x)) (hf : IntSF x) (hm0 : 0 ≤ m) (hm1 : m ≤ 100000000000000000) : Calls Tryz.prog 80 #[v, .int .i64 m] w (Says (.int .i64 (m + IntSC x)) w) := by
  obtain ⟨ad, n, cap, rfl, s⟩ := s
  have hl : n = x.length := by rw [← s.len]; unfold IntST; rw [stamps_len]
  subst hl
  exact heldI w m s (by unfold IntSF at hf; omega) hm0 (by omega)
theorem toIntSS {x : List (List Int)} (s : IntSSI w l h v x) (hf : IntSSF x) : Calls Tryz.prog 41 #[v] w (Ret (fun w l h u => IntSSO w l h u x) w) := by
  obtain ⟨ad, n, cap, rfl, s⟩ := s
  refine (toSS w s (by have := s.len; have := hf.len; omega) hf.rows).mono ?_
  rintro e w' ⟨ad2, n2, cap2, us2, rfl, r, b⟩
  exact ⟨_, rfl, ⟨_, _, _, _, rfl, r.net⟩, b⟩
theorem eqIntSS {x y : List (List Int)} (s : IntSSI w l h v x) (s2 : IntSSI w l2 h2 v2 y) (hf : IntSSF x) (he : x = y) : Calls Tryz.prog 45 #[v, v2] w (Says (.bool true) w) := by
  obtain ⟨ad, n, cap, rfl, s⟩ := s
  obtain ⟨ad2, n2, cap2, rfl, s2⟩ := s2
  exact eqSS w s s2 (by have := s.len; have := hf.len; omega) hf.rows he
theorem markIntSS {x : List (List Int)} (r : IntSSO w l h v x) (hf : IntSSF x) (m : Int) (hm0 : 0 ≤ m) (hm1 : m ≤ 100000000000000000) : Calls Tryz.prog 46 #[v, .int .i64 m] w (Marks (m + IntSSC x) (fun w' => IntSSO w' l h v (IntSST m x)) l h w) := by
  obtain ⟨ad, n, cap, us, rfl, r⟩ := r
  refine (markSSN w r (by have := r.len; have := hf.len; omega) (by have := hf.sum; omega) m hm0 hm1).mono ?_
  rintro e w' ⟨rfl, r', mv⟩
  exact ⟨rfl, ⟨_, _, _, _, rfl, r'⟩, mv⟩
theorem heldIntSS {x : List (List Int)} (m : Int) (s : IntSSI w l h v (IntSST m x)) (hf : IntSSF x) (hm0 : 0 ≤ m) (hm1 : m ≤ 100000000000000000) : Calls Tryz.prog 47 #[v, .int .i64 m] w (Says (.int .i64 (m + IntSSC x)) w) := by
  obtain ⟨ad, n, cap, rfl, s⟩ := s
  have hl : n = x.length := by rw [← s.len]; unfold IntSST; rw [stampss_len]
  exact heldSS w m s (by have := hf.len; omega) (by have := hf.sum; omega) hm0 hm1
theorem szIntSS {x : List (List Int)} (s : IntSSI w l h v x) (m : Int) (hm0 : 0 ≤ m) (hm1 : m ≤ 1048576) : Calls Tryz.prog 35 #[v, .int .i64 m] w (Sizes (IntSSF x) w) := by
  obtain ⟨ad, n, cap, rfl, s⟩ := s
  exact (szSS_small w s m hm0 hm1).mono fun _ _ ⟨r, a, b, c, d, e⟩ => ⟨r, a, b, c, d, e ▸ Below.refl _ _⟩
/-- A block of two values. -/
structure Blk (w : World) (b : Nat) (T : TypeId) (x y : Value) : Prop where
  obj : w.heap[b]? = some (.cells #[x, y] T (0, 0))
theorem Blk.new (w : World) (x y : Value) (T : TypeId) : Blk (w.alloc (.cells #[x, y] T)) w.heap.size T x y := ⟨heap_alloc_new w _⟩
theorem Blk.c0 {w : World} {b : Nat} {T : TypeId} {x y : Value} (h : Blk w b T x y) : w.cell? ⟨b, 0, none⟩ = some x := by simp [World.cell?, h.obj]
theorem Blk.c1 {w : World} {b : Nat} {T : TypeId} {x y : Value} (h : Blk w b T x y) : w.cell? ⟨b, 1, none⟩ = some y := by simp [World.cell?, h.obj]
theorem Blk.f0 {w : World} {b : Nat} {T : TypeId} {x y : Value} (h : Blk w b T x y) : w.frozen? ⟨b, 0, none⟩ = false := by simp [World.frozen?, h.obj]
theorem Blk.f1 {w : World} {b : Nat} {T : TypeId} {x y : Value} (h : Blk w b T x y) : w.frozen? ⟨b, 1, none⟩ = false := by simp [World.frozen?, h.obj]
theorem Blk.lt {w : World} {b : Nat} {T : TypeId} {x y : Value} (h : Blk w b T x y) : b < w.heap.size := (Array.getElem?_eq_some_iff.1 h.obj).1
theorem Blk.below {w w' : World} {b n : Nat} {T : TypeId} {x y : Value} (h : Blk w b T x y) (hb : Below n w w') (hn : b < n) : Blk w' b T x y := ⟨(hb.block b hn).trans h.obj⟩
theorem Blk.alloc {w : World} {b : Nat} {T : TypeId} {x y : Value} (h : Blk w b T x y) (o : Obj) : Blk (w.alloc o) b T x y := ⟨(Below.heap_alloc _ _ _ h.lt).trans h.obj⟩
theorem Blk.other {w : World} {b : Nat} {T : TypeId} {x y : Value} (h : Blk w b T x y) {p : Addr} (hn : b ≠ p.block) (u : Value) : Blk (w.setCell p u) b T x y := ⟨(Below.heap_setCell _ _ _ _ hn).trans h.obj⟩
theorem Blk.set0 {w : World} {b : Nat} {T : TypeId} {x y : Value} (h : Blk w b T x y) (u : Value) : Blk (w.setCell ⟨b, 0, none⟩ u) b T u y := ⟨by rw [heap_setCell_same _ _ _ _ _ _ h.obj]; rfl⟩
theorem Blk.set1 {w : World} {b : Nat} {T : TypeId} {x y : Value} (h : Blk w b T x y) (u : Value) : Blk (w.setCell ⟨b, 1, none⟩ u) b T x u := ⟨by rw [heap_setCell_same _ _ _ _ _ _ h.obj]; rfl⟩
theorem Blk.drewN {w : World} {b : Nat} {T : TypeId} {x y : Value} (h : Blk w b T x y) (q : Nat) : Blk (w.drewN q) b T x y := ⟨h.obj⟩
theorem Blk.mv {w w' : World} {b l h : Nat} {T : TypeId} {x y : Value} (k : Blk w b T x y) (m : Mv w w' l h) (ho : b < l ∨ h ≤ b) : Blk w' b T x y := ⟨(m.block b k.lt (by omega)).trans k.obj⟩
theorem below_box (w : World) (o : Obj) : Below w.heap.size w (w.alloc o) := (Below.refl _ _).alloc (Nat.le_refl _) _
theorem toBasis {x : Bs} (s : BasisI w l h v x) (hf : BasisF x) : Calls Tryz.prog 16 #[v] w (Ret (fun w l h u => BasisO w l h u x) w) := by
  obtain ⟨W, xs⟩ := x
  obtain ⟨u, rfl, hw, ad, n, cap, rfl, s⟩ := s
  have hw0 : -9223372036854775808 ≤ W ∧ W ≤ 9223372036854775807 := hw
  have HT := Lib.hid (fun (w' : World) (hb : Below w.heap.size w w') => toIntSS (w := w') ⟨_, _, _, rfl, s.below hb (.inr (Nat.le_refl _))⟩ hf)
  have hB := Blk.new w (.int .i64 W) (.slice ad n cap) 33
  have c0 := hB.c0
  have c1 := hB.c1
  clear s hB
  go_enter Tryz.func16, Tryz.ntmps16
  go_wp2_with fail
  go_at_call 41
  have hZ := Blk.new (w.alloc (.cells #[.int .i64 W, .slice ad n cap] 33)) (.int .i64 0) (.slice none 0 0) 26
  have hO := Blk.new ((w.alloc (.cells #[.int .i64 W, .slice ad n cap] 33)).alloc (.cells #[.int .i64 0, .slice none 0 0] 26)) (.int .i64 W) (.slice none 0 0) 26
  have hZ := hZ.alloc (.cells #[.int .i64 W, .slice none 0 0] 26)
  have hb3 : Below w.heap.size w (((w.alloc (.cells #[.int .i64 W, .slice ad n cap] 33)).alloc (.cells #[.int .i64 0, .slice none 0 0] 26)).alloc (.cells #[.int .i64 W, .slice none 0 0] 26)) := ((below_box w _).alloc (by simp) _).alloc (by simp; omega) _
  have hz3 : (((w.alloc (.cells #[.int .i64 W, .slice ad n cap] 33)).alloc (.cells #[.int .i64 0, .slice none 0 0] 26)).alloc (.cells #[.int .i64 W, .slice none 0 0] 26)).heap.size = w.heap.size + 1 + 1 + 1 := by simp
  rw [World.size_alloc] at hZ
  rw [World.size_alloc, World.size_alloc] at hO
  generalize ((w.alloc (.cells #[.int .i64 W, .slice ad n cap] 33)).alloc (.cells #[.int .i64 0, .slice none 0 0] 26)).alloc (.cells #[.int .i64 W, .slice none 0 0] 26) = W3 at *
  refine (HT.out W3 hb3).mono ?_
  rintro e w5 ⟨u5, rfl, ⟨ad5, n5, cap5, us5, rfl, r5⟩, b5⟩
  have hZ5 := hZ.below b5 (by omega)
  have hO5 := hO.below b5 (by omega)
  have z5 := b5.size
  have cz0 := hZ5.c0
  have cz1 := hZ5.c1
  have fz0 := hZ5.f0
  have fz1 := hZ5.f1
  have co0 := hO5.c0
  have co1 := hO5.c1
  have fo0 := hO5.f0
  have fo1 := hO5.f1
  have HR := Lib.hid r5
  have HB := Lib.hid (hb3.trans (b5.mono (by omega)))
  have hZ9 := ((hZ5.other (p := ⟨w.heap.size + 1 + 1, 1, none⟩) (by show w.heap.size + 1 ≠ w.heap.size + 1 + 1; omega) (.slice ad5 n5 cap5)).set0 (.int .i64 W)).set1 (.slice ad5 n5 cap5)
  have g0 := hZ9.c0
  have g1 := hZ9.c1
  clear hZ hO hZ5 hO5 hZ9 r5 b5 c0 c1
  have hm : Mv w5 (((w5.setCell ⟨w.heap.size + 1 + 1, 1, none⟩ (.slice ad5 n5 cap5)).setCell ⟨w.heap.size + 1, 0, none⟩ (.int .i64 W)).setCell ⟨w.heap.size + 1, 1, none⟩ (.slice ad5 n5 cap5)) (w.heap.size + 1) W3.heap.size :=
    (((Mv.refl _ _ _).setCell (by show w.heap.size + 1 ≤ w.heap.size + 1 + 1; omega) (by show w.heap.size + 1 + 1 < W3.heap.size; omega) _).setCell (by show w.heap.size + 1 ≤ w.heap.size + 1; omega) (by show w.heap.size + 1 < W3.heap.size; omega) _).setCell (by show w.heap.size + 1 ≤ w.heap.size + 1; omega) (by show w.heap.size + 1 < W3.heap.size; omega) _
  have HM := Lib.hid hm
  clear hm
  go_wp2
  generalize ((w5.setCell ⟨w.heap.size + 1 + 1, 1, none⟩ (.slice ad5 n5 cap5)).setCell ⟨w.heap.size + 1, 0, none⟩ (.int .i64 W)).setCell ⟨w.heap.size + 1, 1, none⟩ (.slice ad5 n5 cap5) = W9 at *
  refine bodyPost_ret (by simp [results, Tryz.results16, go_sem, g0, g1]; rfl) rfl ?_
  have hm := HM.out
  exact ⟨_, rfl, ⟨_, rfl, hw0, _, _, _, _, rfl, ((HR.out.mv hm (.inr (Nat.le_refl _))).lt).mono (by omega) (Nat.le_refl _)⟩, HB.out.trans (hm.below (Nat.le_succ _) (by omega))⟩
theorem szBasis {x : Bs} (s : BasisI w l h v x) (m : Int) (hm0 : 0 ≤ m) (hm1 : m ≤ 1048576) : Calls Tryz.prog 14 #[v, .int .i64 m] w (Sizes (BasisF x) w) := by
  obtain ⟨W, xs⟩ := x
  obtain ⟨u, rfl, hw, ad, n, cap, rfl, s⟩ := s
  have hb := below_box w (.cells #[.int .i64 W, .slice ad n cap] 33)
  have HT := Lib.hid (szIntSS (w := w.alloc (.cells #[.int .i64 W, .slice ad n cap] 33)) ⟨_, _, _, rfl, s.below hb (.inr (Nat.le_refl _))⟩ m hm0 hm1)
  have hB := Blk.new w (.int .i64 W) (.slice ad n cap) 33
  have c0 := hB.c0
  have c1 := hB.c1
  clear s hB
  go_enter Tryz.func14, Tryz.ntmps14
  go_wp2_with fail
  go_at_call 35
  refine HT.out.mono ?_
  rintro e w5 ⟨r, rfl, r0, r1, hr, b5⟩
  have HR := Lib.hid hr
  have HB := Lib.hid (hb.trans (b5.mono (by simp)))
  by_cases hr2 : 0 ≤ r
  · clear hr b5
    go_wp2
    go_ret
    exact ⟨r, rfl, r0, r1, HR.out, HB.out⟩
  · clear hr b5
    go_wp2
    go_ret
    exact ⟨-1, rfl, by omega, by omega, fun h => by omega, HB.out⟩
theorem markBasis {x : Bs} (r : BasisO w l h v x) (hf : BasisF x) (m : Int) (hm0 : 0 ≤ m) (hm1 : m ≤ 100000000000000000) : Calls Tryz.prog 19 #[v, .int .i64 m] w (Marks (m + BasisC x) (fun w' => BasisO w' l h v (BasisT m x)) l h w) := by
  obtain ⟨W, xs⟩ := x
  obtain ⟨u, rfl, hw, ad, n, cap, us, rfl, s⟩ := r
  have hb := below_box w (.cells #[.int .i64 W, .slice ad n cap] 26)
  have HT := Lib.hid (markIntSS (w := w.alloc (.cells #[.int .i64 W, .slice ad n cap] 26)) ⟨_, _, _, _, rfl, s.below hb (.inr (Nat.le_refl _))⟩ hf m hm0 hm1)
  have hB := Blk.new w (.int .i64 W) (.slice ad n cap) 26
  have c0 := hB.c0
  have c1 := hB.c1
  clear s hB
  go_enter Tryz.func19, Tryz.ntmps19
  go_wp2_with fail
  go_at_call 46
  refine HT.out.mono ?_
  rintro e w5 ⟨rfl, ⟨ad5, n5, cap5, us5, e5, r5⟩, b5⟩
  have HR := Lib.hid r5
  have HB := Lib.hid ((Mv.of_below (l := l) (h := h) hb (Nat.le_refl _)).trans b5)
  have HE := Lib.hid e5
  clear e5 r5 b5
  go_wp2
  go_ret
  exact ⟨rfl, ⟨_, rfl, hw, _, _, _, _, HE.out, HR.out⟩, HB.out⟩
theorem heldBasis {x : Bs} (m : Int) (s : BasisI w l h v (BasisT m x)) (hf : BasisF x) (hm0 : 0 ≤ m) (hm1 : m ≤ 100000000000000000) : Calls Tryz.prog 20 #[v, .int .i64 m] w (Says (.int .i64 (m + BasisC x)) w) := by
  obtain ⟨W, xs⟩ := x
  obtain ⟨u, rfl, hw, ad, n, cap, rfl, s⟩ := s
  have hC := BasisC_le hf
  have hb := below_box w (.cells #[.int .i64 W, .slice ad n cap] 26)
  have HT := Lib.hid (heldIntSS (w := w.alloc (.cells #[.int .i64 W, .slice ad n cap] 26)) (x := xs) m ⟨_, _, _, rfl, s.below hb (.inr (Nat.le_refl _))⟩ hf hm0 hm1)
  have hB := Blk.new w (.int .i64 W) (.slice ad n cap) 26
  have c0 := hB.c0
  have c1 := hB.c1
  have hk : IntSSC xs = BasisC (W, xs) := rfl
  rw [hk] at HT
  generalize BasisC (W, xs) = K at *
  clear s hB hk
  go_enter Tryz.func20, Tryz.ntmps20
  go_wp2_with fail
  go_at_call 47
  refine HT.out.mono ?_
  rintro e w5 ⟨rfl, b5⟩
  have HB := Lib.hid (hb.trans (b5.mono (by simp)))
  clear b5
  go_wp2
  go_ret
  exact ⟨rfl, HB.out⟩
theorem eqBasis {x y : Bs} (s : BasisI w l h v x) (s2 : BasisI w l2 h2 v2 y) (hf : BasisF x) (he : x = y) : Calls Tryz.prog 18 #[v, v2] w (Says (.bool true) w) := by
  subst he
  obtain ⟨W, xs⟩ := x
  obtain ⟨u, rfl, hw, ad, n, cap, rfl, s⟩ := s
  obtain ⟨u2, rfl, hw2, ad2, n2, cap2, rfl, s2⟩ := s2
  have hb := (below_box w (.cells #[.int .i64 W, .slice ad n cap] 26)).alloc (by simp) (.cells #[.int .i64 W, .slice ad2 n2 cap2] 26)
  have HT := Lib.hid (eqIntSS (w := (w.alloc (.cells #[.int .i64 W, .slice ad n cap] 26)).alloc (.cells #[.int .i64 W, .slice ad2 n2 cap2] 26)) (x := xs) (y := xs) ⟨_, _, _, rfl, s.below hb (.inr (Nat.le_refl _))⟩ ⟨_, _, _, rfl, s2.below hb (.inr (Nat.le_refl _))⟩ hf rfl)
  have hB := (Blk.new w (.int .i64 W) (.slice ad n cap) 26).alloc (.cells #[.int .i64 W, .slice ad2 n2 cap2] 26)
  have hB2 := Blk.new (w.alloc (.cells #[.int .i64 W, .slice ad n cap] 26)) (.int .i64 W) (.slice ad2 n2 cap2) 26
  rw [World.size_alloc] at hB2
  have c0 := hB.c0
  have c1 := hB.c1
  have d0 := hB2.c0
  have d1 := hB2.c1
  clear s s2 hB hB2
  go_enter Tryz.func18, Tryz.ntmps18
  go_wp2_with fail
  go_at_call 45
  refine HT.out.mono ?_
  rintro e w5 ⟨rfl, b5⟩
  have HB := Lib.hid (hb.trans (b5.mono (by simp; omega)))
  clear b5
  go_wp2
  go_ret
  exact ⟨rfl, HB.out⟩
abbrev GenerationI := BasisI
abbrev GenerationO := BasisO
abbrev GenerationF := BasisF
abbrev GenerationC := BasisC
abbrev GenerationT := BasisT
theorem GenerationC_le {b : Bs} (h : GenerationF b) : GenerationC b ≤ 1099511627776 := BasisC_le h
theorem GenerationO_is {w : World} {l h : Nat} {v : Value} {x : Bs} (s : GenerationO w l h v x) : GenerationI w l h v x := BasisO_is s
theorem GenerationI_mv {w w' : World} {l h l' h' : Nat} {v : Value} {x : Bs} (s : GenerationI w l h v x) (m : Mv w w' l' h') (hd : h ≤ l' ∨ h' ≤ l) : GenerationI w' l h v x := BasisI_mv s m hd
theorem GenerationI_below {w w' : World} {l h B : Nat} {v : Value} {x : Bs} (s : GenerationI w l h v x) (m : Below B w w') (hB : h ≤ B ∨ w.heap.size ≤ B) : GenerationI w' l h v x := BasisI_below s m hB
theorem GenerationO_mv {w w' : World} {l h l' h' : Nat} {v : Value} {x : Bs} (s : GenerationO w l h v x) (m : Mv w w' l' h') (hd : h ≤ l' ∨ h' ≤ l) : GenerationO w' l h v x := BasisO_mv s m hd
theorem GenerationO_below {w w' : World} {l h B : Nat} {v : Value} {x : Bs} (s : GenerationO w l h v x) (m : Below B w w') (hB : h ≤ B ∨ w.heap.size ≤ B) : GenerationO w' l h v x := BasisO_below s m hB
end
end Go.Proofs.YtefcfeikooknmaaGreat.Shape
namespace Go.Proofs.YtefcfeikooknmaaGreat.BasW
open Go.ChangeShapes Go.WideShapes Go.ChangeAt Go.RowKit
open Go.Proofs.YtefcfeikooknmaaGreat.Seq Go.Proofs.YtefcfeikooknmaaGreat.Help Go.Proofs.YtefcfeikooknmaaGreat.Field Go.Proofs.YtefcfeikooknmaaGreat.FieldW Go.Proofs.YtefcfeikooknmaaGreat.Vec Go.Proofs.YtefcfeikooknmaaGreat.VecW Go.Proofs.YtefcfeikooknmaaGreat.Mat Go.Proofs.YtefcfeikooknmaaGreat.MatW Go.Proofs.YtefcfeikooknmaaGreat.RedW Go.Proofs.YtefcfeikooknmaaGreat.Shape Go.Proofs.YtefcfeikooknmaaGreat.Bas

/-- What NewBasis answers. -/
def newB (W : Int) : Bs := (bif inW W then W else 0, [])
/-- A basis in new memory as the model makes it: rows apart; rows that may be one slice. Their list may be appended to. -/
def BasisG (w : World) (l h : Nat) (v : Value) (b : Bs) : Prop := ∃ ad n cap us, v = .agg #[.int .i64 b.1, .slice ad n cap] ∧ (-9223372036854775808 ≤ b.1 ∧ b.1 ≤ 9223372036854775807) ∧ Grid w l h 3 61 ad n cap us b.2
def BasisL (w : World) (l h : Nat) (v : Value) (b : Bs) : Prop := ∃ ad n cap us, v = .agg #[.int .i64 b.1, .slice ad n cap] ∧ (-9223372036854775808 ≤ b.1 ∧ b.1 ≤ 9223372036854775807) ∧ Loose w l h 3 61 ad n cap us b.2
theorem BasisG.own {w : World} {l h : Nat} {v : Value} {b : Bs} (s : BasisG w l h v b) : BasisO w l h v b := by obtain ⟨_, _, _, _, rfl, hw, s⟩ := s; exact ⟨_, rfl, hw, _, _, _, _, rfl, s.net⟩
theorem BasisG.loose {w : World} {l h : Nat} {v : Value} {b : Bs} (s : BasisG w l h v b) : BasisL w l h v b := by obtain ⟨_, _, _, _, rfl, hw, s⟩ := s; exact ⟨_, _, _, _, rfl, hw, s.loose⟩
theorem BasisL.reads {w : World} {l h : Nat} {v : Value} {b : Bs} (s : BasisL w l h v b) : BasisI w l h v b := by obtain ⟨_, _, _, _, rfl, hw, s⟩ := s; exact ⟨_, rfl, hw, _, _, _, rfl, s.sls⟩
theorem spec_new0 (w : World) (W : Int) (_ : -9223372036854775808 ≤ W) (_ : W ≤ 9223372036854775807) : Calls Tryz.prog 37 #[.int .i64 W] w (Says (.agg #[.int .i64 (bif inW W then W else 0), .slice none 0 0]) w) := by
  have HI := fun w' : World => l1In_is w' W 0 40
  have hB := Blk.new w (.int .i64 0) (.slice none 0 0) 26
  have hb := below_box w (.cells #[.int .i64 0, .slice none 0 0] 26)
  have e0 : (decide (0 ≤ W) && decide (W ≤ 40)) = inW W := rfl
  rw [e0] at HI
  have hn : newB W = (bif inW W then W else 0, []) := rfl
  have HI := Lib.hid HI
  cases hi : inW W
  · rw [hi] at HI hn
    have HN := Lib.hid hn
    have c0 := hB.c0
    have c1 := hB.c1
    have g0 := ((Blk.new w (.int .i64 0) (.slice none 0 0) 26)).c0
    have g1 := ((Blk.new w (.int .i64 0) (.slice none 0 0) 26)).c1
    clear hi hn hB
    go_enter Tryz.func37, Tryz.ntmps37
    go_wp2_with fail
    go_at_call 62
    refine (HI.out _).mono ?_
    rintro e w' ⟨rfl, rfl⟩
    go_wp2
    refine bodyPost_ret (by simp [results, Tryz.results37, go_sem, g0, g1]; rfl) rfl ?_
    exact ⟨rfl, hb⟩
  · rw [hi] at HI hn
    have HN := Lib.hid hn
    have c0 := hB.c0
    have c1 := hB.c1
    have g0 := ((Blk.new w (.int .i64 W) (.slice none 0 0) 26)).c0
    have g1 := ((Blk.new w (.int .i64 W) (.slice none 0 0) 26)).c1
    clear hi hn hB
    go_enter Tryz.func37, Tryz.ntmps37
    go_wp2_with fail
    go_at_call 62
    refine (HI.out _).mono ?_
    rintro e w' ⟨rfl, rfl⟩
    go_wp2
    refine bodyPost_ret (by simp [results, Tryz.results37, go_sem, g0, g1]; rfl) rfl ?_
    exact ⟨rfl, below_box w _⟩
theorem newB_in {W : Int} (h0 : -9223372036854775808 ≤ W) (h1 : W ≤ 9223372036854775807) : -9223372036854775808 ≤ (newB W).1 ∧ (newB W).1 ≤ 9223372036854775807 := by
  unfold newB
  cases inW W
  · exact ⟨by show (-9223372036854775808 : Int) ≤ 0; omega, by show (0 : Int) ≤ 9223372036854775807; omega⟩
  · exact ⟨h0, h1⟩
theorem spec_new (w : World) (W : Int) (h0 : -9223372036854775808 ≤ W) (h1 : W ≤ 9223372036854775807) : Calls Tryz.prog 37 #[.int .i64 W] w (Ret (fun w l h u => BasisG w l h u (newB W)) w) :=
  (spec_new0 w W h0 h1).mono fun _ _ ⟨e, b⟩ => ⟨_, e, ⟨_, _, _, _, rfl, newB_in h0 h1, Grid.nil _ _ _ _ _ _⟩, b⟩
set_option maxRecDepth 100000 in
set_option maxHeartbeats 800000 in
theorem spec_isBas (w : World) {l h : Nat} {v : Value} {b : Bs} (s : BasisI w l h v b) : Calls Tryz.prog 36 #[v] w (Says (.bool (isBas b.1 b.2)) w) := by
  obtain ⟨W, rows⟩ := b
  obtain ⟨u, rfl, hw, ad, n, cap, rfl, s⟩ := s
  show Calls _ _ _ _ (Says (.bool (isBas W rows)) w)
  have hL := Lib.hid s.len
  have hcap := s.le
  have hbig := s.big
  unfold maxLen at hbig
  have hB := Blk.new w (.int .i64 W) (.slice ad n cap) 26
  have hb := below_box w (.cells #[.int .i64 W, .slice ad n cap] 26)
  have s1 := s.below hb (.inr (Nat.le_refl _))
  have c0 := hB.c0
  have c1 := hB.c1
  obtain ⟨W1, hW1⟩ : ∃ W1, W1 = w.alloc (.cells #[.int .i64 W, .slice ad n cap] 26) := ⟨_, rfl⟩
  rw [← hW1] at s1 hb c0 c1
  have HW1 := Lib.hid hW1
  clear hB s hW1
  go_enter Tryz.func36, Tryz.ntmps36
  go_wp2
  go_loopw [3] (fun i wr => ∃ j q : Nat, j ≤ n ∧ i = .int .i64 j ∧ wr = W1.drewN q ∧ Hid (∀ r ∈ rows.take j, (r.length : Int) = W)) (fun i _ => n - (intOf i).toNat)
  case atStart => exact ⟨0, 0, Nat.zero_le _, rfl, HW1.out.symm, fun r hr => by simp at hr⟩
  case round =>
    obtain ⟨j, q, hj, rfl, rfl, HA⟩ := hrel
    have s2 := s1.drewN q
    by_cases hlt : j < n
    · obtain ⟨a, ad3, n3, cap3, xs, rfl, hx, hc⟩ := s1.at_ hlt
      have hl3 := hx.sl.len
      have hle3 := hx.sl.le
      have hbg3 := hx.sl.big
      unfold maxLen at hbg3
      have HX := Lib.hid hx.get
      have HL3 := Lib.hid hl3
      clear hx hl3
      by_cases hW : (n3 : Int) = W
      · have h1 : ((n3 : Int) != W) = false := by simpa using hW
        have HA2 := Lib.hid (show ∀ r ∈ rows.take (j + 1), (r.length : Int) = W from fun r hr => by
          rw [take_more HX.out] at hr
          rcases List.mem_append.1 hr with h | h
          · exact HA.out r h
          · obtain rfl := List.mem_singleton.1 h
            rw [HL3.out]; exact hW)
        clear hW HA
        go_wp2
        go_quiet (fail)
        go_wp2
        go_roundw
        case rel => exact ⟨j + 1, _, by omega, by go_num, by first | rfl | rw [World.drewN_drewN], HA2.out⟩
        case measure => simp [intOf]; omega
      · have h1 : ((n3 : Int) != W) = true := by simpa using hW
        have HE := Lib.hid (show isBas W rows = false by
          unfold isBas
          rw [List.all_eq_false.2 ⟨xs, List.mem_of_getElem? HX.out, by rw [HL3.out]; simpa using hW⟩]; rfl)
        clear hW HA
        go_wp2
        go_quiet (fail)
        go_wp2
        go_ret
        exact ⟨by rw [HE.out]; rfl, below_drewN (below_drewN hb _) _⟩
    · obtain rfl : j = n := by omega
      have HAll := Lib.hid (show rows.all (fun r => (r.length : Int) == W) = true from List.all_eq_true.2 fun r hr => by
        have := HA.out r (by rw [List.take_of_length_le (Nat.le_of_eq hL.out)]; exact hr)
        simpa using this)
      have HI := l1In_is (W1.drewN q) W 0 40
      have KR := spec_isRed (W1.drewN q) s2
      have hz : (W1.drewN q).heap.size = W1.heap.size := rfl
      cases hi : (decide (0 ≤ W) && decide (W ≤ 40))
      · rw [hi] at HI
        have HI := Lib.hid HI
        have HE := Lib.hid (show isBas W rows = false by unfold isBas inW; rw [hi]; simp)
        clear hi HA KR
        go_wp2_with fail
        go_at_call 62
        refine HI.out.mono ?_
        rintro e w' ⟨rfl, rfl⟩
        go_wp2
        go_ret
        exact ⟨by rw [HE.out]; rfl, below_drewN hb _⟩
      · rw [hi] at HI
        have HI := Lib.hid HI
        have HE := Lib.hid (show isBas W rows = isRed rows by unfold isBas inW; rw [hi, HAll.out]; simp)
        rw [← HE.out] at KR
        have KR := Lib.hid KR
        clear hi HA HE
        generalize isBas W rows = R at *
        go_wp2_with fail
        go_at_call 62
        refine HI.out.mono ?_
        rintro e w' ⟨rfl, rfl⟩
        go_wp2_with fail
        go_at_call 63
        refine KR.out.mono ?_
        rintro e w' ⟨rfl, b5⟩
        have HB := Lib.hid ((below_drewN hb q).trans (b5.mono hb.size))
        clear b5
        go_wp2
        go_ret
        exact ⟨rfl, HB.out⟩
end Go.Proofs.YtefcfeikooknmaaGreat.BasW
namespace Go.Proofs.YtefcfeikooknmaaGreat.BasW
open Go.ChangeShapes Go.WideShapes Go.ChangeAt Go.RowKit
open Go.Proofs.YtefcfeikooknmaaGreat.Drawn Go.Proofs.YtefcfeikooknmaaGreat.Seq Go.Proofs.YtefcfeikooknmaaGreat.Help Go.Proofs.YtefcfeikooknmaaGreat.Field Go.Proofs.YtefcfeikooknmaaGreat.FieldW Go.Proofs.YtefcfeikooknmaaGreat.Vec Go.Proofs.YtefcfeikooknmaaGreat.VecW Go.Proofs.YtefcfeikooknmaaGreat.Mat Go.Proofs.YtefcfeikooknmaaGreat.MatW Go.Proofs.YtefcfeikooknmaaGreat.RedW Go.Proofs.YtefcfeikooknmaaGreat.Shape Go.Proofs.YtefcfeikooknmaaGreat.Bas

theorem spec_fits (w : World) {l h l2 h2 : Nat} {v : Value} {b : Bs} {ad2 : Option Addr} {n2 cap2 : Nat} {xs : List Int} (s : BasisI w l h v b) (s2 : Sl w l2 h2 .i64 ad2 n2 cap2 xs) : Calls Tryz.prog 82 #[v, .slice ad2 n2 cap2] w (Says (.bool (fits b.1 b.2 xs)) w) := by
  obtain ⟨W, rows⟩ := b
  obtain ⟨u, rfl, hw, ad, n, cap, rfl, s⟩ := s
  show Calls _ _ _ _ (Says (.bool (fits W rows xs)) w)
  have hF : fits W rows xs = ((isBas W rows && isVec xs) && ((n2 : Int) == W)) := by rw [← s2.len]; rfl
  have hB := Blk.new w (.int .i64 W) (.slice ad n cap) 26
  have hb := below_box w (.cells #[.int .i64 W, .slice ad n cap] 26)
  have HK := Lib.hid (spec_isBas (w.alloc (.cells #[.int .i64 W, .slice ad n cap] 26)) (l := l) (h := h) (v := .agg #[.int .i64 W, .slice ad n cap]) (b := (W, rows)) ⟨_, rfl, hw, _, _, _, rfl, s.below hb (.inr (Nat.le_refl _))⟩)
  have HS := Lib.hid (fun w' (b : Below w.heap.size w w') => spec_isVec w' (s2.below b (.inr (Nat.le_refl _))))
  have c0 := hB.c0
  have c1 := hB.c1
  have HB := Lib.hid (And.intro hB hb)
  dsimp only at HK
  generalize isBas W rows = B1 at *
  generalize isVec xs = B2 at *
  clear s s2 hB hb
  go_enter Tryz.func82, Tryz.ntmps82
  go_wp2_with fail
  go_at_call 36
  refine HK.out.mono ?_
  rintro e w1 ⟨rfl, b1⟩
  have b1' := HB.out.2.trans (b1.mono (by simp))
  have hB1 := HB.out.1.below b1 (by simp)
  have c0 := hB1.c0
  have c1 := hB1.c1
  have HF := Lib.hid hF
  have HX := Lib.hid b1'
  have HS1 := Lib.hid (HS.out w1 b1')
  clear b1 b1' hB1 HB hF HS HK
  cases B1
  · go_wp2
    go_ret
    exact ⟨by rw [HF.out]; rfl, HX.out⟩
  · go_wp2_with fail
    go_at_call 99
    refine HS1.out.mono ?_
    rintro e w' ⟨rfl, rfl⟩
    cases B2
    · go_wp2
      go_ret
      exact ⟨by rw [HF.out]; rfl, HX.out⟩
    · go_wp2
      go_ret
      exact ⟨by rw [HF.out]; rfl, HX.out⟩
set_option maxHeartbeats 1600000 in
theorem spec_copyB (w : World) {l h : Nat} {v : Value} {b : Bs} (s : BasisI w l h v b) (hf : BasisF b) : Calls Tryz.prog 81 #[v] w (Ret (fun w l h u => BasisG w l h u b) w) := by
  obtain ⟨W, rows⟩ := b
  obtain ⟨u, rfl, hw, ad, n, cap, rfl, s⟩ := s
  have hw0 : -9223372036854775808 ≤ W ∧ W ≤ 9223372036854775807 := hw
  have hb := (below_box w (.cells #[.int .i64 W, .slice ad n cap] 26)).alloc (by simp) (.cells #[.int .i64 0, .slice none 0 0] 26)
  have HT := Lib.hid (fun q => spec_copy (((w.alloc (.cells #[.int .i64 W, .slice ad n cap] 26)).alloc (.cells #[.int .i64 0, .slice none 0 0] 26)).drewN q) ((s.below hb (.inr (Nat.le_refl _))).drewN q) (by have := s.len; have := hf.len; omega) (fun xs hx => by have := hf.rows xs hx; omega))
  have hB := (Blk.new w (.int .i64 W) (.slice ad n cap) 26).alloc (.cells #[.int .i64 0, .slice none 0 0] 26)
  have hO := Blk.new (w.alloc (.cells #[.int .i64 W, .slice ad n cap] 26)) (.int .i64 0) (.slice none 0 0) 26
  rw [World.size_alloc] at hO
  have hz2 : ((w.alloc (.cells #[.int .i64 W, .slice ad n cap] 26)).alloc (.cells #[.int .i64 0, .slice none 0 0] 26)).heap.size = w.heap.size + 1 + 1 := by simp
  have c0 := hB.c0
  have c1 := hB.c1
  have HB := Lib.hid (And.intro (hB.drewN 1) (And.intro (hO.drewN 1) (below_drewN hb 1)))
  clear s hB hO hb hf
  go_enter Tryz.func81, Tryz.ntmps81
  go_wp2
  generalize (w.alloc (.cells #[.int .i64 W, .slice ad n cap] 26)).alloc (.cells #[.int .i64 0, .slice none 0 0] 26) = W2 at *
  refine wp_region_last (S := fun w' => w'.cell? ⟨w.heap.size, 0, none⟩ = some (.int .i64 W) ∧ w'.cell? ⟨w.heap.size, 1, none⟩ = some (.slice ad n cap)) 6 (by kernel_rfl) (by kernel_rfl) rfl ?_
  have HH := Lib.hid (And.intro c0 c1)
  refine wpAnyH_take (i := 0) (oi := ⟨some 3, _, _, _, _, _⟩) (v := ?_) rfl (by kernel_rfl) (by kernel_rfl) (by kernel_rfl) (fun _ _ _ h => h) (Or.inl ⟨by rfl, ?_⟩) HH.out ?_
  rotate_left
  · intro wS hSw
    try dsimp only at hSw
    go_simp
    all_goals (with_reducible rfl)
  simp only [Act.put, List.setIfInBounds_toArray, List.set_cons_zero, List.set_cons_succ]
  refine wpAnyH_take (i := 1) (oi := ⟨some 4, _, _, _, _, _⟩) (v := ?_) rfl (by kernel_rfl) (by kernel_rfl) (by kernel_rfl) (fun _ _ _ h => h) (Or.inl ⟨by rfl, ?_⟩) HH.out ?_
  rotate_left
  · intro wS hSw
    try dsimp only at hSw
    go_simp
    all_goals (with_reducible rfl)
  simp only [Act.put, List.setIfInBounds_toArray, List.set_cons_zero, List.set_cons_succ]
  refine wpAnyH_take (i := 2) (oi := ⟨some 5, _, _, _, _, _⟩) (v := ?_) rfl (by kernel_rfl) (by kernel_rfl) (by kernel_rfl) (fun _ _ _ h => h) (Or.inl ⟨by rfl, ?_⟩) HH.out ?_
  rotate_left
  · intro wS hSw
    try dsimp only at hSw
    go_simp
    all_goals (with_reducible rfl)
  simp only [Act.put, List.setIfInBounds_toArray, List.set_cons_zero, List.set_cons_succ]
  refine wpAnyH_take (i := 3) (oi := ⟨some 6, _, _, _, _, _⟩) (v := ?_) rfl (by kernel_rfl) (by kernel_rfl) (by kernel_rfl) (fun _ _ _ h => h) (Or.inl ⟨by rfl, ?_⟩) HH.out ?_
  rotate_left
  · intro wS hSw
    try dsimp only at hSw
    go_simp
    all_goals (with_reducible rfl)
  simp only [Act.put, List.setIfInBounds_toArray, List.set_cons_zero, List.set_cons_succ]
  refine wpAnyH_ready (rs := [4]) (by kernel_rfl) (by simp) ?_
  refine AllReadyH.cons (o := ⟨some 7, _, _, _, _, _⟩) rfl (fun Kq hKq => ?_) AllReadyH.nil
  go_simp
  refine (HT.out 1).mono ?_
  rintro e w5 ⟨ad5, n5, cap5, us5, rfl, r5, b5⟩
  have b5' := HB.out.2.2.trans ((b5.mono (by show w.heap.size ≤ W2.heap.size; omega)))
  have hB5 := (HB.out.1.below b5 (by show w.heap.size < W2.heap.size; omega))
  have hO5 := (HB.out.2.1.below b5 (by show w.heap.size + 1 < W2.heap.size; omega))
  have HH5 := Lib.hid (And.intro hB5.c0 hB5.c1)
  have co0 := hO5.c0
  have co1 := hO5.c1
  have fo0 := hO5.f0
  have fo1 := hO5.f1
  have hO9 := (hO5.set0 (.int .i64 W)).set1 (.slice ad5 n5 cap5)
  have g0 := hO9.c0
  have g1 := hO9.c1
  have HM := Lib.hid (show Mv w5 ((w5.setCell ⟨w.heap.size + 1, 0, none⟩ (.int .i64 W)).setCell ⟨w.heap.size + 1, 1, none⟩ (.slice ad5 n5 cap5)) (w.heap.size + 1) (w.heap.size + 1 + 1) from
  ((Mv.refl _ _ _).setCell (by show w.heap.size + 1 ≤ w.heap.size + 1; omega) (by show w.heap.size + 1 < w.heap.size + 1 + 1; omega) _).setCell (by show w.heap.size + 1 ≤ w.heap.size + 1; omega) (by show w.heap.size + 1 < w.heap.size + 1 + 1; omega) _)
  have HR := Lib.hid r5
  have HX := Lib.hid (And.intro b5' b5.size)
  clear r5 b5 b5' hB5 hO5 hO9
  refine hKq.out _ _ HH5.out (fun _ => ?_)
  clear hKq Kq
  try simp only [Act.put, List.setIfInBounds_toArray, List.set_cons_zero, List.set_cons_succ]
  refine wpAnyH_take (i := 5) (oi := ⟨some 8, _, _, _, _, _⟩) (v := ?_) rfl (by kernel_rfl) (by kernel_rfl) (by kernel_rfl) (fun _ _ _ h => h) (Or.inl ⟨by rfl, ?_⟩) HH5.out ?_
  rotate_left
  · intro wS hSw
    try dsimp only at hSw
    go_simp
    all_goals (with_reducible rfl)
  simp only [Act.put, List.setIfInBounds_toArray, List.set_cons_zero, List.set_cons_succ]
  refine wpAnyH_ready (rs := [6]) (by kernel_rfl) (by simp) ?_
  refine AllReadyH.cons (o := ⟨none, .move (.const (.bool false)), _, _, _, _⟩) rfl (fun Kq hKq => ?_) AllReadyH.nil
  go_simp
  refine hKq.out _ _ HH5.out (fun _ => ?_)
  clear hKq Kq
  refine wpAnyH_done (by kernel_rfl) ?_ _
  refine ⟨_, rfl, ?_⟩
  go_simp
  go_wp2
  generalize (w5.setCell ⟨w.heap.size + 1, 0, none⟩ (.int .i64 W)).setCell ⟨w.heap.size + 1, 1, none⟩ (.slice ad5 n5 cap5) = W9 at *
  refine bodyPost_ret (by simp [results, Tryz.results81, go_sem, g0, g1]; rfl) rfl ?_
  have hm := HM.out
  have hz : w.heap.size + 1 + 1 ≤ W2.heap.size := by omega
  exact ⟨_, rfl, ⟨_, _, _, _, rfl, hw0, (HR.out.mv hm (.inr hz)).lt.lo (by show w.heap.size ≤ W2.heap.size; omega)⟩, HX.out.1.trans (hm.below (Nat.le_succ _) (by have : W2.heap.size ≤ w5.heap.size := HX.out.2; omega))⟩
end Go.Proofs.YtefcfeikooknmaaGreat.BasW
namespace Go.Proofs.YtefcfeikooknmaaGreat.BasW
open Go.ChangeShapes Go.WideShapes Go.ChangeAt Go.RowKit
open Go.Proofs.YtefcfeikooknmaaGreat.Drawn Go.Proofs.YtefcfeikooknmaaGreat.Seq Go.Proofs.YtefcfeikooknmaaGreat.Help Go.Proofs.YtefcfeikooknmaaGreat.Field Go.Proofs.YtefcfeikooknmaaGreat.FieldW Go.Proofs.YtefcfeikooknmaaGreat.Vec Go.Proofs.YtefcfeikooknmaaGreat.VecW Go.Proofs.YtefcfeikooknmaaGreat.Mat Go.Proofs.YtefcfeikooknmaaGreat.MatW Go.Proofs.YtefcfeikooknmaaGreat.MatP Go.Proofs.YtefcfeikooknmaaGreat.Lin Go.Proofs.YtefcfeikooknmaaGreat.Rref Go.Proofs.YtefcfeikooknmaaGreat.RedW Go.Proofs.YtefcfeikooknmaaGreat.SolP Go.Proofs.YtefcfeikooknmaaGreat.Shape Go.Proofs.YtefcfeikooknmaaGreat.Bas

theorem red_step {w n : Nat} {R : Nat → V} {p : Nat → Nat} (h : Red n w R p) (hw : w ≤ 40) (x : V) {t : Nat} (ht : t < n) : addScaled (vec w (rdc t R p x)) (vec w (R t)) (sub 0 (em (rdc t R p x (p t)))) = vec w (rdc (t + 1) R p x) := by
  have hs : sub 0 (em (rdc t R p x (p t))) = em (0 - x (p t)) := by rw [rdc_ahead h x ht]; exact RedW.sub_em _
  rw [hs, adds_vec _ _ _ hw]
  exact vec_congr fun j _ => (rdc_s t R p x j).symm
theorem rdc_0 (w : Nat) (R : Nat → V) (p : Nat → Nat) (x : V) : vec w (rdc 0 R p x) = vec w x := vec_congr fun j _ => by show x j + (0 - 1) * 0 = x j; grind
set_option maxRecDepth 100000 in
set_option maxHeartbeats 3200000 in
theorem spec_redv (w : World) {l h l2 h2 : Nat} {v : Value} {b : Bs} {ad2 : Option Addr} {n2 cap2 : Nat} {xs : List Int} (s : BasisI w l h v b) (s2 : Sl w l2 h2 .i64 ad2 n2 cap2 xs) : Calls Tryz.prog 108 #[v, .slice ad2 n2 cap2] w (Ret (fun w l h u => IntSO w l h u (reduceV b.1 b.2 xs)) w) := by
  obtain ⟨W, rows⟩ := b
  obtain ⟨u, rfl, hw, ad, n, cap, rfl, s⟩ := s
  show Calls _ _ _ _ (Ret (fun w l h u => IntSO w l h u (reduceV W rows xs)) w)
  have hbig := s.big
  have hcap := s.le
  unfold maxLen at hbig
  have hB := Blk.new w (.int .i64 W) (.slice ad n cap) 26
  have hb := below_box w (.cells #[.int .i64 W, .slice ad n cap] 26)
  have HK := Lib.hid (spec_fits (w.alloc (.cells #[.int .i64 W, .slice ad n cap] 26)) (l := l) (h := h) (v := .agg #[.int .i64 W, .slice ad n cap]) (b := (W, rows)) ⟨_, rfl, hw, _, _, _, rfl, s.below hb (.inr (Nat.le_refl _))⟩ (s2.below hb (.inr (Nat.le_refl _))))
  have c0 := hB.c0
  have c1 := hB.c1
  have HB := Lib.hid (And.intro hB hb)
  dsimp only at HK
  have hz0 : (w.alloc (.cells #[.int .i64 W, .slice ad n cap] 26)).heap.size = w.heap.size + 1 := by simp
  cases hF : fits W rows xs
  · rw [hF] at HK
    have HN := Lib.hid (reduceV_no hF)
    clear s s2 hB hb hF
    go_enter Tryz.func108, Tryz.ntmps108
    go_wp2_with fail
    go_at_call 82
    refine HK.out.mono ?_
    rintro e w1 ⟨rfl, b1⟩
    have HX := Lib.hid (HB.out.2.trans (b1.mono (by omega)))
    clear b1
    go_wp2
    go_ret
    rw [HN.out]
    exact ⟨_, rfl, (OwnInts.of (Row.nil _ _ _ _ _ _)).tail, HX.out.alloc HX.out.size _⟩
  · rw [hF] at HK
    obtain ⟨w0, n0, R, p, hf, hv, hs⟩ := fits_form hF
    have hN := reduceV_form hF hf hv
    generalize toV xs = x at *
    obtain rfl : n0 = n := by rw [← hf.len, s.len]
    have hwl : xs.length = w0 := by rw [hv, vec_len]
    obtain rfl : n2 = w0 := by rw [← hwl, s2.len]
    have HN := Lib.hid hN
    have HV := Lib.hid hv
    have HS := Lib.hid (fun w' (b : Below w.heap.size w w') => s2.below b (.inr (Nat.le_refl _)))
    have HR := Lib.hid (fun w' (b : Below w.heap.size w w') => s.below b (.inr (Nat.le_refl _)))
    have HF := Lib.hid hf
    have hsm := hf.small
    clear s s2 hB hb hF hN hv hf hs hwl
    go_enter Tryz.func108, Tryz.ntmps108
    go_wp2_with fail
    go_at_call 82
    refine HK.out.mono ?_
    rintro e w1 ⟨rfl, b1⟩
    have b1' := HB.out.2.trans (b1.mono (by omega))
    have s1 := HS.out w1 b1'
    rw [HV.out] at s1
    have z1 := b1.size
    have HB1 := Lib.hid b1
    clear b1
    go_wp2_with (at_builtin; refine wpList_app (Row.nil (w1.alloc (.cells #[] 3)) w1.heap.size w1.heap.size .i64 3 (some ⟨w1.heap.size, 0, none⟩)) (s1.alloc _) Tryz.underlying61 info_int (by unfold maxLen; omega) (by omega) (by simp) rfl _ _ rfl rfl rfl ?_; intro ad3 cap3 w3 r3 m3)
    have hr3 : Row w3 w1.heap.size w3.heap.size .i64 3 ad3 n2 cap3 (vec n2 (rdc 0 R p x)) := by
      rw [rdc_0]; rw [Nat.zero_add] at r3; exact r3
    have hb3 : Below (w.heap.size + 1) (w.alloc (.cells #[.int .i64 W, .slice ad n0 cap] 26)) w3 := by
      rw [hz0] at HB1 z1
      exact (HB1.out.alloc z1 _).trans (m3.below z1 (by rw [World.size_alloc]; omega))
    have hR3 := Lib.hid (hr3.lo (l' := w.heap.size) (by omega))
    have hB3 := Lib.hid hb3
    clear hr3 hb3 r3 m3 HB1 z1 s1 b1'
    go_loopw [5, 6] (fun v i wr => ∃ (j : Nat) (ad' : Option Addr) (cap' : Nat), j ≤ n0 ∧ i = .int .i64 j ∧ v = .slice ad' n2 cap' ∧ Row wr w.heap.size wr.heap.size .i64 3 ad' n2 cap' (vec n2 (rdc j R p x)) ∧ Below (w.heap.size + 1) (w.alloc (.cells #[.int .i64 W, .slice ad n0 cap] 26)) wr) (fun _ i _ => n0 - (intOf i).toNat)
    case atStart => exact ⟨0, _, _, Nat.zero_le _, rfl, rfl, hR3.out, hB3.out⟩
    case round =>
      clear hR3 hB3
      obtain ⟨j, ad', cap', hj, rfl, rfl, hr, hbr⟩ := hrel
      have hBk := HB.out.1.below hbr (Nat.lt_succ_self _)
      have d1 := hBk.c1
      by_cases hlt : j < n0
      · have hbw := HB.out.2.trans (hbr.mono (Nat.le_succ _))
        have sD := (HR.out wr hbw).drewN 1
        obtain ⟨a, ad4, n4, cap4, ys, rfl, hx, hc⟩ := sD.at_ hlt
        have hys := Option.some.inj (hx.get.symm.trans (HF.out.get hlt))
        have hp := HF.out.red.lt j hlt
        obtain ⟨g, rfl, hg1, hg2, rt⟩ := hr.tight (show 0 < n2 by omega)
        obtain ⟨y0, hy1, hy2, hy3, hy4⟩ := (rt.there hp)
        rw [vec_get _ hp] at hy1
        obtain rfl := Option.some.inj hy1
        have KL := spec_lead wr.drew hx.sl
        rw [hys, HF.out.lead hlt] at KL
        have KA := fun k => spec_adds wr.drew (hr.drewN 1).sl hx.sl k
        have KA := KA (sub 0 (em (rdc j R p x (p j))))
        rw [hys, red_step HF.out.red hsm x hlt] at KA
        have KS := spec_sub wr.drew 0 (em (rdc j R p x (p j)))
        generalize sub 0 (em (rdc j R p x (p j))) = k0 at *
        generalize em (rdc j R p x (p j)) = y0 at *
        have e1 : wr.drew.cell? ⟨w.heap.size, 1, none⟩ = some (.slice (some a) n0 cap) := d1
        have e2 : wr.drew.cell? (a.add j) = some (.slice ad4 n4 cap4) := hc
        have e3 : wr.drew.cell? ⟨g, p j, none⟩ = some (.int .i64 y0) := hy3
        have KL := Lib.hid KL
        have KA := Lib.hid KA
        have KS := Lib.hid KS
        have HBR := Lib.hid hbr
        have HZ : w.heap.size ≤ wr.heap.size := by have := hbr.size; omega
        clear hr hbr hBk sD hx hc hys rt hy2 hy3 hy4 hbw
        go_wp2
        refine wp_region_held (S := fun w' => w'.cell? ⟨w.heap.size, 1, none⟩ = some (.slice (some a) n0 cap) ∧ w'.cell? (a.add j) = some (.slice ad4 n4 cap4) ∧ w'.cell? ⟨g, p j, none⟩ = some (.int .i64 y0)) (by kernel_rfl) ?_
        change wpAnyH _ _ _ _ _ _ _ _ wr.drew
        have HH := Lib.hid (And.intro e1 (And.intro e2 e3))
        refine wpAnyH_take (i := 0) (oi := ⟨some 22, _, _, _, _, _⟩) (v := ?_) rfl (by kernel_rfl) (by kernel_rfl) (by kernel_rfl) (fun _ _ _ h => h) (Or.inl ⟨by rfl, ?_⟩) HH.out ?_
        rotate_left
        · intro wS hSw
          try dsimp only at hSw
          go_simp
          all_goals (with_reducible rfl)
        simp only [Act.put, List.setIfInBounds_toArray, List.set_cons_zero, List.set_cons_succ]
        refine wpAnyH_take (i := 1) (oi := ⟨some 23, _, _, _, _, _⟩) (v := ?_) rfl (by kernel_rfl) (by kernel_rfl) (by kernel_rfl) (fun _ _ _ h => h) (Or.inl ⟨by rfl, ?_⟩) HH.out ?_
        rotate_left
        · intro wS hSw
          try dsimp only at hSw
          go_simp
          all_goals (with_reducible rfl)
        simp only [Act.put, List.setIfInBounds_toArray, List.set_cons_zero, List.set_cons_succ]
        refine wpAnyH_take (i := 2) (oi := ⟨some 24, _, _, _, _, _⟩) (v := ?_) rfl (by kernel_rfl) (by kernel_rfl) (by kernel_rfl) (fun _ _ _ h => h) (Or.inl ⟨by rfl, ?_⟩) HH.out ?_
        rotate_left
        · intro wS hSw
          try dsimp only at hSw
          go_simp
          all_goals (with_reducible rfl)
        simp only [Act.put, List.setIfInBounds_toArray, List.set_cons_zero, List.set_cons_succ]
        refine wpAnyH_take (i := 3) (oi := ⟨some 25, _, _, _, _, _⟩) (v := ?_) rfl (by kernel_rfl) (by kernel_rfl) (by kernel_rfl) (fun _ _ _ h => h) (Or.inl ⟨by rfl, ?_⟩) HH.out ?_
        rotate_left
        · intro wS hSw
          try dsimp only at hSw
          go_simp
          all_goals (with_reducible rfl)
        simp only [Act.put, List.setIfInBounds_toArray, List.set_cons_zero, List.set_cons_succ]
        refine wpAnyH_take (i := 4) (oi := ⟨some 26, _, _, _, _, _⟩) (v := ?_) rfl (by kernel_rfl) (by kernel_rfl) (by kernel_rfl) (fun _ _ _ h => h) (Or.inl ⟨by rfl, ?_⟩) HH.out ?_
        rotate_left
        · intro wS hSw
          try dsimp only at hSw
          go_simp
          all_goals (with_reducible rfl)
        simp only [Act.put, List.setIfInBounds_toArray, List.set_cons_zero, List.set_cons_succ]
        refine wpAnyH_take (i := 5) (oi := ⟨some 27, _, _, _, _, _⟩) (v := ?_) rfl (by kernel_rfl) (by kernel_rfl) (by kernel_rfl) (fun _ _ _ h => h) (Or.inl ⟨by rfl, ?_⟩) HH.out ?_
        rotate_left
        · intro wS hSw
          try dsimp only at hSw
          go_simp
          all_goals (with_reducible rfl)
        simp only [Act.put, List.setIfInBounds_toArray, List.set_cons_zero, List.set_cons_succ]
        refine wpAnyH_take (i := 6) (oi := ⟨some 28, _, _, _, _, _⟩) (v := ?_) rfl (by kernel_rfl) (by kernel_rfl) (by kernel_rfl) (fun _ _ _ h => h) (Or.inl ⟨by rfl, ?_⟩) HH.out ?_
        rotate_left
        · intro wS hSw
          try dsimp only at hSw
          go_simp
          all_goals (with_reducible rfl)
        simp only [Act.put, List.setIfInBounds_toArray, List.set_cons_zero, List.set_cons_succ]
        refine wpAnyH_take (i := 7) (oi := ⟨some 29, _, _, _, _, _⟩) (v := ?_) rfl (by kernel_rfl) (by kernel_rfl) (by kernel_rfl) (fun _ _ _ h => h) (Or.inl ⟨by rfl, ?_⟩) HH.out ?_
        rotate_left
        · intro wS hSw
          try dsimp only at hSw
          go_simp
          all_goals (with_reducible rfl)
        simp only [Act.put, List.setIfInBounds_toArray, List.set_cons_zero, List.set_cons_succ]
        refine wpAnyH_take (i := 8) (oi := ⟨some 30, _, _, _, _, _⟩) (v := ?_) rfl (by kernel_rfl) (by kernel_rfl) (by kernel_rfl) (fun _ _ _ h => h) (Or.inl ⟨by rfl, ?_⟩) HH.out ?_
        rotate_left
        · intro wS hSw
          try dsimp only at hSw
          go_simp
          all_goals (with_reducible rfl)
        simp only [Act.put, List.setIfInBounds_toArray, List.set_cons_zero, List.set_cons_succ]
        refine wpAnyH_take (i := 9) (oi := ⟨some 31, _, _, _, _, _⟩) (v := ?_) rfl (by kernel_rfl) (by kernel_rfl) (by kernel_rfl) (fun _ _ _ h => h) (Or.inl ⟨by rfl, ?_⟩) HH.out ?_
        rotate_left
        · intro wS hSw
          try dsimp only at hSw
          go_simp
          all_goals (with_reducible rfl)
        simp only [Act.put, List.setIfInBounds_toArray, List.set_cons_zero, List.set_cons_succ]
        refine wpAnyH_take (i := 10) (oi := ⟨some 32, _, _, _, _, _⟩) (v := ?_) rfl (by kernel_rfl) (by kernel_rfl) (by kernel_rfl) (fun _ _ _ h => h) (Or.inl ⟨by rfl, ?_⟩) HH.out ?_
        rotate_left
        · intro wS hSw
          try dsimp only at hSw
          go_simp
          all_goals (with_reducible rfl)
        simp only [Act.put, List.setIfInBounds_toArray, List.set_cons_zero, List.set_cons_succ]
        refine wpAnyH_take (i := 11) (oi := ⟨some 33, _, _, _, _, _⟩) (v := ?_) rfl (by kernel_rfl) (by kernel_rfl) (by kernel_rfl) (fun _ _ _ h => h) (Or.inl ⟨by rfl, ?_⟩) HH.out ?_
        rotate_left
        · intro wS hSw
          try dsimp only at hSw
          go_simp
          all_goals (with_reducible rfl)
        simp only [Act.put, List.setIfInBounds_toArray, List.set_cons_zero, List.set_cons_succ]
        refine wpAnyH_ready (rs := [12]) (by kernel_rfl) (by simp) ?_
        refine AllReadyH.cons (o := ⟨some 34, _, _, _, _, _⟩) rfl (fun Kq hKq => ?_) AllReadyH.nil
        go_simp
        refine (KL.out).mono ?_
        rintro e w' ⟨rfl, rfl⟩
        refine hKq.out _ _ HH.out (fun _ => ?_)
        clear hKq Kq
        try simp only [Act.put, List.setIfInBounds_toArray, List.set_cons_zero, List.set_cons_succ]
        refine wpAnyH_take (i := 13) (oi := ⟨some 35, _, _, _, _, _⟩) (v := ?_) rfl (by kernel_rfl) (by kernel_rfl) (by kernel_rfl) (fun _ _ _ h => h) (Or.inl ⟨by rfl, ?_⟩) HH.out ?_
        rotate_left
        · intro wS hSw
          try dsimp only at hSw
          go_simp
          all_goals (with_reducible rfl)
        simp only [Act.put, List.setIfInBounds_toArray, List.set_cons_zero, List.set_cons_succ]
        refine wpAnyH_take (i := 14) (oi := ⟨some 36, _, _, _, _, _⟩) (v := ?_) rfl (by kernel_rfl) (by kernel_rfl) (by kernel_rfl) (fun _ _ _ h => h) (Or.inl ⟨by rfl, ?_⟩) HH.out ?_
        rotate_left
        · intro wS hSw
          try dsimp only at hSw
          go_simp
          all_goals (with_reducible rfl)
        simp only [Act.put, List.setIfInBounds_toArray, List.set_cons_zero, List.set_cons_succ]
        refine wpAnyH_ready (rs := [15]) (by kernel_rfl) (by simp) ?_
        refine AllReadyH.cons (o := ⟨some 37, _, _, _, _, _⟩) rfl (fun Kq hKq => ?_) AllReadyH.nil
        go_simp
        refine (KS.out).mono ?_
        rintro e w' ⟨rfl, rfl⟩
        refine hKq.out _ _ HH.out (fun _ => ?_)
        clear hKq Kq
        try simp only [Act.put, List.setIfInBounds_toArray, List.set_cons_zero, List.set_cons_succ]
        refine wpAnyH_ready (rs := [16]) (by kernel_rfl) (by simp) ?_
        refine AllReadyH.cons (o := ⟨some 38, _, _, _, _, _⟩) rfl (fun Kq hKq => ?_) AllReadyH.nil
        go_simp
        refine (KA.out).mono ?_
        rintro e w5 ⟨ad5, n5, cap5, rfl, r5, b5⟩
        have d4 := (b5.cell (World.block_lt_of_cell? _ _ e1)).trans e1
        have d5 := (b5.cell (World.block_lt_of_cell? _ _ e2)).trans e2
        have d6 := (b5.cell (World.block_lt_of_cell? _ _ e3)).trans e3
        have HH5 := Lib.hid (And.intro d4 (And.intro d5 d6))
        refine hKq.out _ _ HH5.out (fun _ => ?_)
        clear hKq Kq
        try simp only [Act.put, List.setIfInBounds_toArray, List.set_cons_zero, List.set_cons_succ]
        refine wpAnyH_take (i := 17) (oi := ⟨some 5, _, _, _, _, _⟩) (v := ?_) rfl (by kernel_rfl) (by kernel_rfl) (by kernel_rfl) (fun _ _ _ h => h) (Or.inl ⟨by rfl, ?_⟩) HH5.out ?_
        rotate_left
        · intro wS hSw
          try dsimp only at hSw
          go_simp
          all_goals (with_reducible rfl)
        simp only [Act.put, List.setIfInBounds_toArray, List.set_cons_zero, List.set_cons_succ]
        refine wpAnyH_done (by kernel_rfl) ?_ _
        obtain rfl : n5 = n2 := by rw [← r5.sl.len, vec_len]
        have HR5 := Lib.hid (r5.lo (l' := w.heap.size) (by show w.heap.size ≤ wr.heap.size; exact HZ))
        have HB5 := Lib.hid (HBR.out.drew.trans (b5.mono (by have := HBR.out.size; show w.heap.size + 1 ≤ wr.heap.size; omega)))
        clear r5 b5 d4 d5 d6 e1 e2 e3
        go_wp2
        go_roundw
        case rel => exact ⟨j + 1, _, _, by omega, by go_num, rfl, HR5.out, HB5.out⟩
        case measure => simp [intOf]; omega
      · obtain rfl : j = n0 := by omega
        have HRR := Lib.hid hr
        have HX := Lib.hid (HB.out.2.trans (hbr.mono (Nat.le_succ _)))
        rw [← HN.out] at HRR
        clear hr hbr hBk
        go_wp2
        go_ret
        exact ⟨_, rfl, (OwnInts.of HRR.out.lt).tail, HX.out⟩
theorem spec_contains (w : World) {l h l2 h2 : Nat} {v : Value} {b : Bs} {ad2 : Option Addr} {n2 cap2 : Nat} {xs : List Int} (s : BasisI w l h v b) (s2 : Sl w l2 h2 .i64 ad2 n2 cap2 xs) : Calls Tryz.prog 83 #[v, .slice ad2 n2 cap2] w (Says (.bool (contains b.1 b.2 xs)) w) := by
  obtain ⟨W, rows⟩ := b
  obtain ⟨u, rfl, hw, ad, n, cap, rfl, s⟩ := s
  show Calls _ _ _ _ (Says (.bool (contains W rows xs)) w)
  have hw0 : -9223372036854775808 ≤ W ∧ W ≤ 9223372036854775807 := hw
  have hF : contains W rows xs = (fits W rows xs && decide (lead (reduceV W rows xs) < 0)) := rfl
  have hB := Blk.new w (.int .i64 W) (.slice ad n cap) 26
  have hb := below_box w (.cells #[.int .i64 W, .slice ad n cap] 26)
  have HK := Lib.hid (spec_fits (w.alloc (.cells #[.int .i64 W, .slice ad n cap] 26)) (l := l) (h := h) (v := .agg #[.int .i64 W, .slice ad n cap]) (b := (W, rows)) ⟨_, rfl, hw, _, _, _, rfl, s.below hb (.inr (Nat.le_refl _))⟩ (s2.below hb (.inr (Nat.le_refl _))))
  have HS := Lib.hid (fun w' (b : Below w.heap.size w w') => spec_redv w' (l := l) (h := h) (v := .agg #[.int .i64 W, .slice ad n cap]) (b := (W, rows)) ⟨_, rfl, hw, _, _, _, rfl, s.below b (.inr (Nat.le_refl _))⟩ (s2.below b (.inr (Nat.le_refl _))))
  have c0 := hB.c0
  have c1 := hB.c1
  have HB := Lib.hid (And.intro hB hb)
  dsimp only at HK HS
  generalize fits W rows xs = B1 at *
  generalize reduceV W rows xs = ys at *
  clear s s2 hB hb
  go_enter Tryz.func83, Tryz.ntmps83
  go_wp2_with fail
  go_at_call 82
  refine HK.out.mono ?_
  rintro e w1 ⟨rfl, b1⟩
  have b1' := HB.out.2.trans (b1.mono (by simp))
  have hB1 := HB.out.1.below b1 (by simp)
  have c0 := hB1.c0
  have c1 := hB1.c1
  have HF := Lib.hid hF
  have HX := Lib.hid b1'
  have HS1 := Lib.hid (HS.out w1 b1')
  clear b1 b1' hB1 HB hF HS HK
  cases B1
  · go_wp2
    go_ret
    exact ⟨by rw [HF.out]; rfl, HX.out⟩
  · go_wp2_with fail
    go_at_call 108
    refine HS1.out.mono ?_
    rintro e w2 ⟨u2, rfl, r2, b2⟩
    obtain ⟨ad3, n3, cap3, rfl, s3⟩ := IntSO_is r2
    have HL := Lib.hid (spec_lead w2 s3)
    have HX2 := Lib.hid (HX.out.trans (b2.mono HX.out.size))
    clear r2 s3 b2 HS1
    generalize lead ys = k at *
    go_wp2_with fail
    go_at_call 68
    refine HL.out.mono ?_
    rintro e w' ⟨rfl, rfl⟩
    go_wp2
    go_ret
    exact ⟨by rw [HF.out]; simp, HX2.out⟩
end Go.Proofs.YtefcfeikooknmaaGreat.BasW
namespace Go.Proofs.YtefcfeikooknmaaGreat.BasW
open Go.ChangeShapes Go.WideShapes Go.ChangeAt Go.RowKit
open Go.Proofs.YtefcfeikooknmaaGreat.Drawn Go.Proofs.YtefcfeikooknmaaGreat.Seq Go.Proofs.YtefcfeikooknmaaGreat.Help Go.Proofs.YtefcfeikooknmaaGreat.Field Go.Proofs.YtefcfeikooknmaaGreat.FieldW Go.Proofs.YtefcfeikooknmaaGreat.Vec Go.Proofs.YtefcfeikooknmaaGreat.VecW Go.Proofs.YtefcfeikooknmaaGreat.Mat Go.Proofs.YtefcfeikooknmaaGreat.MatW Go.Proofs.YtefcfeikooknmaaGreat.MatP Go.Proofs.YtefcfeikooknmaaGreat.Lin Go.Proofs.YtefcfeikooknmaaGreat.Rref Go.Proofs.YtefcfeikooknmaaGreat.RedW Go.Proofs.YtefcfeikooknmaaGreat.SolP Go.Proofs.YtefcfeikooknmaaGreat.Shape Go.Proofs.YtefcfeikooknmaaGreat.Bas

/-- What is reduced when an innovative vector is inserted. -/
theorem more_facts {W : Int} {rows : List (List Int)} {v : List Int} (h : inserted W rows v = true) : isMat (rows ++ [v]) = true ∧ (colsOf (rows ++ [v]) : Int) = W ∧ (rref (rows ++ [v])).length = (rows ++ [v]).length ∧ rows.length < 40 ∧ v.length ≤ 40 ∧ ∀ xs ∈ rows, xs.length ≤ 40 := by
  obtain ⟨h1, h2⟩ := inserted_iff.1 h
  obtain ⟨w, n, R, p, hf, hv, hs⟩ := fits_form h1
  have hx : ¬ Span n R (toV v) := fun hh => by rw [(contains_iff h1 hf hv hs).2 hh] at h2; cases h2
  obtain ⟨hn, R', p', hf', _⟩ := insert_form hf hv hs hx
  have hsm := hf.small
  have e := more_mk hf hv
  refine ⟨by rw [e]; exact isMat_mk _ (by omega) hsm, by rw [e, mk_cols _ (Nat.succ_pos n)]; exact hf.width.symm, by rw [hf'.len, List.length_append, hf.len]; rfl, by rw [hf.len]; omega, by rw [hv, vec_len]; exact hsm, fun xs hx => ?_⟩
  rw [hf.rows] at hx
  obtain ⟨i, _, rfl⟩ := List.mem_map.1 hx
  rw [vec_len]; exact hsm
/-- New memory with rows whose list may be appended to. -/
def GivesL (xss : List (List Int)) (w : World) (e : Ending) (w' : World) : Prop :=
  ∃ ad n cap us, e = .returned (.slice ad n cap) ∧ Loose w' w.heap.size w'.heap.size 3 61 ad n cap us xss ∧ Below w.heap.size w w'
theorem spec_reduceL (w : World) {l h : Nat} {ad : Option Addr} {n cap : Nat} {m : List (List Int)} (s : Sls w l h ad n cap m) (hm : isMat m = true) (hl : (rref m).length = m.length) :
    Calls Tryz.prog 84 #[.slice ad n cap, .int .i64 (colsOf m)] w (GivesL (rref m) w) :=
  (spec_reduceG w s hm (colsOf m) fun _ => Nat.le_refl _).mono fun _ _ ⟨A, M, p, h1, h2, h3, ad, n, cap, e, _, b, hA⟩ => by
    have he := elim_rref hm h1 h2 h3
    rw [he] at hA
    have h4 : A = m.length := by rw [← hl, ← he, mk_len]
    obtain ⟨us, hL⟩ := hA h4
    exact ⟨ad, n, cap, us, e, hL, b⟩
set_option maxRecDepth 100000 in
set_option maxHeartbeats 6400000 in
theorem spec_insert (w : World) {l h l2 h2 : Nat} {v : Value} {b : Bs} {ad2 : Option Addr} {n2 cap2 : Nat} {xs : List Int} (s : BasisI w l h v b) (hf : BasisF b) (s2 : Sl w l2 h2 .i64 ad2 n2 cap2 xs) : Calls Tryz.prog 51 #[v, .slice ad2 n2 cap2] w (RetB (fun w l h u => BasisL w l h u (b.1, insertV b.1 b.2 xs)) (inserted b.1 b.2 xs) w) := by
  obtain ⟨W, rows⟩ := b
  obtain ⟨u, rfl, hw, ad, n, cap, rfl, s⟩ := s
  show Calls _ _ _ _ (RetB (fun w l h u => BasisL w l h u (W, insertV W rows xs)) (inserted W rows xs) w)
  have hw0 : -9223372036854775808 ≤ W ∧ W ≤ 9223372036854775807 := hw
  have hb := (below_box w (.cells #[.int .i64 W, .slice ad n cap] 26)).alloc (by simp) (.cells #[.int .i64 0, .slice none 0 0] 26)
  have hB := (Blk.new w (.int .i64 W) (.slice ad n cap) 26).alloc (.cells #[.int .i64 0, .slice none 0 0] 26)
  have hO := Blk.new (w.alloc (.cells #[.int .i64 W, .slice ad n cap] 26)) (.int .i64 0) (.slice none 0 0) 26
  rw [World.size_alloc] at hO
  have hz2 : ((w.alloc (.cells #[.int .i64 W, .slice ad n cap] 26)).alloc (.cells #[.int .i64 0, .slice none 0 0] 26)).heap.size = w.heap.size + 1 + 1 := by simp
  have HI := fun w' (b : Below w.heap.size w w') => (show BasisI w' l h (.agg #[.int .i64 W, .slice ad n cap]) (W, rows) from ⟨_, rfl, hw, _, _, _, rfl, s.below b (.inr (Nat.le_refl _))⟩)
  have HK := Lib.hid (fun w' (b : Below w.heap.size w w') => spec_fits w' (HI w' b) (s2.below b (.inr (Nat.le_refl _))))
  have HC := Lib.hid (fun w' (b : Below w.heap.size w w') => spec_contains w' (HI w' b) (s2.below b (.inr (Nat.le_refl _))))
  have HY := Lib.hid (fun w' (b : Below w.heap.size w w') => spec_copyB w' (HI w' b) hf)
  have HS := Lib.hid (fun w' (b : Below w.heap.size w w') => s.below b (.inr (Nat.le_refl _)))
  have HV := Lib.hid (fun w' (b : Below w.heap.size w w') => s2.below b (.inr (Nat.le_refl _)))
  have HNo := Lib.hid (insertV_no (W := W) (rows := rows) (v := xs))
  have HYes := Lib.hid (insertV_yes (W := W) (rows := rows) (v := xs))
  have HMf := Lib.hid (more_facts (W := W) (rows := rows) (v := xs))
  have hFn : inserted W rows xs = (fits W rows xs && !contains W rows xs) := rfl
  have hn2 := s2.len
  have HB := Lib.hid (And.intro hB (And.intro hO hb))
  have HF := Lib.hid hf
  have hLn := s.len
  dsimp only at HK HC HY
  generalize insertV W rows xs = RR at *
  generalize inserted W rows xs = bI at *
  generalize hB1 : fits W rows xs = B1 at *
  generalize hB2 : contains W rows xs = B2 at *
  have c0 := hB.c0
  have c1 := hB.c1
  clear s s2 hB hO hb HI hf
  go_enter Tryz.func51, Tryz.ntmps51
  go_wp2_with fail
  go_at_call 82
  generalize (w.alloc (.cells #[.int .i64 W, .slice ad n cap] 26)).alloc (.cells #[.int .i64 0, .slice none 0 0] 26) = W2 at *
  refine (HK.out _ HB.out.2.2).mono ?_
  rintro e w3 ⟨rfl, b3⟩
  have HB3 := Lib.hid (And.intro (HB.out.1.below b3 (by omega)) (And.intro (HB.out.2.1.below b3 (by omega)) (HB.out.2.2.trans (b3.mono (by omega)))))
  have z3 := b3.size
  clear c0 c1 b3 HB HK
  have c0 := HB3.out.1.c0
  have c1 := HB3.out.1.c1
  cases B1
  · obtain rfl : bI = false := hFn
    obtain rfl : rows = RR := (HNo.out rfl).symm
    clear HNo HYes HMf
    go_wp2_with fail
    go_at_call 81
    refine (HY.out _ HB3.out.2.2).mono ?_
    rintro e w5 ⟨u5, rfl, ⟨ad5, n5, cap5, us5, rfl, _, r5⟩, b5⟩
    have hO5 := HB3.out.2.1.below b5 (by omega)
    have co0 := hO5.c0
    have co1 := hO5.c1
    have fo0 := hO5.f0
    have fo1 := hO5.f1
    have hO9 := (hO5.set0 (.int .i64 W)).set1 (.slice ad5 n5 cap5)
    have g0 := hO9.c0
    have g1 := hO9.c1
    have HM := Lib.hid (show Mv w5 ((w5.setCell ⟨w.heap.size + 1, 0, none⟩ (.int .i64 W)).setCell ⟨w.heap.size + 1, 1, none⟩ (.slice ad5 n5 cap5)) (w.heap.size + 1) (w.heap.size + 1 + 1) from
      ((Mv.refl _ _ _).setCell (by show w.heap.size + 1 ≤ w.heap.size + 1; omega) (by show w.heap.size + 1 < w.heap.size + 1 + 1; omega) _).setCell (by show w.heap.size + 1 ≤ w.heap.size + 1; omega) (by show w.heap.size + 1 < w.heap.size + 1 + 1; omega) _)
    have HR := Lib.hid (show Grid w5 w3.heap.size w5.heap.size 3 61 ad5 n5 cap5 us5 rows from r5)
    have HX := Lib.hid (And.intro (HB3.out.2.2.trans (b5.mono (by omega))) b5.size)
    clear r5 b5 hO5 hO9 hw HY
    go_wp2
    generalize (w5.setCell ⟨w.heap.size + 1, 0, none⟩ (.int .i64 W)).setCell ⟨w.heap.size + 1, 1, none⟩ (.slice ad5 n5 cap5) = W9 at *
    refine bodyPost_ret (by simp [results, Tryz.results51, go_sem, g0, g1]; rfl) rfl ?_
    have hm := HM.out
    have hz : w.heap.size + 1 + 1 ≤ w3.heap.size := by omega
    exact ⟨_, rfl, ⟨_, _, _, _, rfl, hw0, ((HR.out.mv hm (.inr hz)).lt.lo (by omega)).loose⟩, HX.out.1.trans (hm.below (Nat.le_succ _) (by have := HX.out.2; omega))⟩
  go_wp2_with fail
  go_at_call 83
  refine (HC.out _ HB3.out.2.2).mono ?_
  rintro e w4 ⟨rfl, b4⟩
  have HB4 := Lib.hid (And.intro (HB3.out.1.below b4 (by omega)) (And.intro (HB3.out.2.1.below b4 (by omega)) (HB3.out.2.2.trans (b4.mono (by omega)))))
  have z4 := b4.size
  clear c0 c1 b4 HB3 HC
  have c0 := HB4.out.1.c0
  have c1 := HB4.out.1.c1
  cases B2
  · obtain rfl : bI = true := hFn
    obtain rfl := HYes.out rfl
    obtain ⟨m1, m2, m3, m4, m5, m6⟩ := HMf.out rfl
    have HR := Lib.hid (fun w' l h ad n cap (s : Sls w' l h ad n cap (rows ++ [xs])) => spec_reduceL w' s m1 m3)
    rw [m2] at HR
    have HCp := Lib.hid (fun w' (b : Below w.heap.size w w') => spec_copy w' (HS.out w' b) (by omega) (fun xs hx => by have := m6 xs hx; omega))
    clear HMf HY HNo HYes m1 m2 m3 m6
    have HBD := Lib.hid (show Blk w4.drew w.heap.size 26 (.int .i64 W) (.slice ad n cap) ∧ Blk w4.drew (w.heap.size + 1) 26 (.int .i64 0) (.slice none 0 0) ∧ Below w.heap.size w w4.drew from ⟨HB4.out.1.drewN 1, HB4.out.2.1.drewN 1, below_drewN HB4.out.2.2 1⟩)
    have hzD : w.heap.size + 1 + 1 ≤ w4.drew.heap.size := by show _ ≤ w4.heap.size; omega
    have e0 := HBD.out.1.c0
    have e1 := HBD.out.1.c1
    clear HB4 c0 c1 hw z3 z4 hz2
    go_wp2
    refine wp_region_held (S := fun w' => w'.cell? ⟨w.heap.size, 0, none⟩ = some (.int .i64 W) ∧ w'.cell? ⟨w.heap.size, 1, none⟩ = some (.slice ad n cap)) (by kernel_rfl) ?_
    change wpAnyH _ _ _ _ _ _ _ _ w4.drew
    generalize w4.drew = D at *
    have hzD2 : w.heap.size ≤ D.heap.size := by omega
    have HH := Lib.hid (And.intro e0 e1)
    refine wpAnyH_take (i := 0) (oi := ⟨some 17, _, _, _, _, _⟩) (v := ?_) rfl (by kernel_rfl) (by kernel_rfl) (by kernel_rfl) (fun _ _ _ h => h) (Or.inl ⟨by rfl, ?_⟩) HH.out ?_
    rotate_left
    · intro wS hSw
      try dsimp only at hSw
      go_simp
      all_goals (with_reducible rfl)
    simp only [Act.put, List.setIfInBounds_toArray, List.set_cons_zero, List.set_cons_succ]
    refine wpAnyH_take (i := 1) (oi := ⟨some 18, _, _, _, _, _⟩) (v := ?_) rfl (by kernel_rfl) (by kernel_rfl) (by kernel_rfl) (fun _ _ _ h => h) (Or.inl ⟨by rfl, ?_⟩) HH.out ?_
    rotate_left
    · intro wS hSw
      try dsimp only at hSw
      go_simp
      all_goals (with_reducible rfl)
    simp only [Act.put, List.setIfInBounds_toArray, List.set_cons_zero, List.set_cons_succ]
    refine wpAnyH_take (i := 2) (oi := ⟨some 19, _, _, _, _, _⟩) (v := ?_) rfl (by kernel_rfl) (by kernel_rfl) (by kernel_rfl) (fun _ _ _ h => h) (Or.inl ⟨by rfl, ?_⟩) HH.out ?_
    rotate_left
    · intro wS hSw
      try dsimp only at hSw
      go_simp
      all_goals (with_reducible rfl)
    simp only [Act.put, List.setIfInBounds_toArray, List.set_cons_zero, List.set_cons_succ]
    refine wpAnyH_take (i := 3) (oi := ⟨some 20, _, _, _, _, _⟩) (v := ?_) rfl (by kernel_rfl) (by kernel_rfl) (by kernel_rfl) (fun _ _ _ h => h) (Or.inl ⟨by rfl, ?_⟩) HH.out ?_
    rotate_left
    · intro wS hSw
      try dsimp only at hSw
      go_simp
      all_goals (with_reducible rfl)
    simp only [Act.put, List.setIfInBounds_toArray, List.set_cons_zero, List.set_cons_succ]
    refine wpAnyH_take (i := 6) (oi := ⟨some 23, _, _, _, _, _⟩) (v := ?_) rfl (by kernel_rfl) (by kernel_rfl) (by kernel_rfl) (fun _ _ _ h => h) (Or.inl ⟨by rfl, ?_⟩) HH.out ?_
    rotate_left
    · intro wS hSw
      try dsimp only at hSw
      go_simp
      all_goals (with_reducible rfl)
    simp only [Act.put, List.setIfInBounds_toArray, List.set_cons_zero, List.set_cons_succ]
    refine wpAnyH_take (i := 10) (oi := ⟨some 27, _, _, _, _, _⟩) (v := ?_) rfl (by kernel_rfl) (by kernel_rfl) (by kernel_rfl) (fun _ _ _ h => h) (Or.inl ⟨by rfl, ?_⟩) HH.out ?_
    rotate_left
    · intro wS hSw
      try dsimp only at hSw
      go_simp
      all_goals (with_reducible rfl)
    simp only [Act.put, List.setIfInBounds_toArray, List.set_cons_zero, List.set_cons_succ]
    refine wpAnyH_take (i := 11) (oi := ⟨some 28, _, _, _, _, _⟩) (v := ?_) rfl (by kernel_rfl) (by kernel_rfl) (by kernel_rfl) (fun _ _ _ h => h) (Or.inl ⟨by rfl, ?_⟩) HH.out ?_
    rotate_left
    · intro wS hSw
      try dsimp only at hSw
      go_simp
      all_goals (with_reducible rfl)
    simp only [Act.put, List.setIfInBounds_toArray, List.set_cons_zero, List.set_cons_succ]
    refine wpAnyH_ready (rs := [4, 5]) (by kernel_rfl) (by simp) ?_
    refine AllReadyH.cons (o := ⟨some 21, _, _, _, _, _⟩) rfl (fun Kq hKq => ?_) (AllReadyH.cons (o := ⟨some 22, _, _, _, _, _⟩) rfl (fun Kq hKq => ?_) AllReadyH.nil)
    · go_simp
      refine (HCp.out D HBD.out.2.2).mono ?_
      rintro e w5 ⟨ad4, n4, cap4, us4, rfl, r4, b5⟩
      obtain rfl : n4 = n := by rw [← r4.len, hLn]
      have y5 := b5.size
      refine hKq.out _ _ (⟨(HBD.out.1.below b5 (by omega)).c0, (HBD.out.1.below b5 (by omega)).c1⟩) (fun _ => ?_)
      clear hKq Kq
      try simp only [Act.put, List.setIfInBounds_toArray, List.set_cons_zero, List.set_cons_succ]
      refine wpAnyH_ready (rs := [5]) (by kernel_rfl) (by simp) ?_
      refine AllReadyH.cons (o := ⟨some 22, _, _, _, _, _⟩) rfl (fun Kq hKq => ?_) AllReadyH.nil
      go_simp
      have HB6 := Lib.hid (b5.alloc y5 (.cells #[] 3))
      have HG6 := Lib.hid (((r4.alloc (.cells #[] 3)).lt))
      have y6 := HB6.out.size
      refine hKq.out _ _ (⟨(HBD.out.1.below HB6.out (by omega)).c0, (HBD.out.1.below HB6.out (by omega)).c1⟩) (fun _ => ?_)
      clear hKq Kq r4 b5
      try simp only [Act.put, List.setIfInBounds_toArray, List.set_cons_zero, List.set_cons_succ]
      generalize w5.alloc (.cells #[] 3) = w6 at *
      refine wpAnyH_ready (rs := [7]) (by kernel_rfl) (by simp) ?_
      refine AllReadyH.cons (o := ⟨some 24, _, _, _, _, _⟩) rfl (fun Kq hKq => ?_) AllReadyH.nil
      refine step_app (Row.nil w6 w6.heap.size w6.heap.size .i64 3 _) (HV.out w6 (HBD.out.2.2.trans (HB6.out.mono hzD2))) Tryz.underlying61 info_int (by unfold maxLen; omega) (by omega) (Nat.le_refl _) rfl _ _ rfl rfl rfl ?_
      intro ad7 cap7 w7 r7 m7
      rw [List.nil_append, Nat.zero_add] at r7
      simp only [Nat.zero_add]
      have b7 : Below w6.heap.size w6 w7 := m7.below (Nat.le_refl _) (Nat.le_refl _)
      have y7 := b7.size
      have HB7 := Lib.hid (HB6.out.trans (b7.mono y6))
      have HK7 := Lib.hid (And.intro (HBD.out.1.below HB7.out (by omega)) (HBD.out.2.1.below HB7.out (by omega)))
      have HG7 := Lib.hid (HG6.out.mv m7 (.inl (Nat.le_refl _)))
      have HU7 := Lib.hid (OwnInts.of r7)
      clear r7 m7 b7
      refine hKq.out _ _ (⟨(HK7.out).1.c0, (HK7.out).1.c1⟩) (fun _ => ?_)
      clear hKq Kq
      try simp only [Act.put, List.setIfInBounds_toArray, List.set_cons_zero, List.set_cons_succ]
      refine wpAnyH_ready (rs := [8]) (by kernel_rfl) (by simp) ?_
      refine AllReadyH.cons (o := ⟨some 25, _, _, _, _, _⟩) rfl (fun Kq hKq => ?_) AllReadyH.nil
      go_simp
      refine hKq.out _ _ (⟨(HK7.out.1.alloc _).c0, (HK7.out.1.alloc _).c1⟩) (fun _ => ?_)
      clear hKq Kq
      try simp only [Act.put, List.setIfInBounds_toArray, List.set_cons_zero, List.set_cons_succ]
      refine wpAnyH_ready (rs := [9]) (by kernel_rfl) (by simp) ?_
      refine AllReadyH.cons (o := ⟨some 26, _, _, _, _, _⟩) rfl (fun Kq hKq => ?_) AllReadyH.nil
      have hr8 := HG7.out.alloc (.cells #[.slice ad7 n2 cap7] 61)
      have hu8 := HU7.out.below (below_box w7 (.cells #[.slice ad7 n2 cap7] 61)) (.inl (Nat.le_refl _))
      refine step_snoc hr8.out (u := .slice ad7 n2 cap7) (by rw [World.cell?_alloc_new]; rfl) rfl Tryz.underlying24 info_ints rfl (by unfold maxLen; omega) (by omega) rfl _ _ rfl rfl rfl ?_
      intro g8 cap8 w8 o8 p8
      have y8 := p8.size
      rw [World.size_alloc] at y8
      have HL8 := Lib.hid ((hr8.loose.snoc hu8 o8 p8 (by rw [World.size_alloc]; omega) y6 (Nat.le_refl _)).sls)
      have HB8 := Lib.hid ((HB7.out.alloc (Nat.le_trans y6 y7) (.cells #[.slice ad7 n2 cap7] 61)).trans (p8.below (Nat.le_refl _) (by rw [World.size_alloc]; omega)))
      have HK8 := Lib.hid (And.intro (HBD.out.1.below HB8.out (by omega)) (HBD.out.2.1.below HB8.out (by omega)))
      clear hr8 hu8 o8 p8 HG7 HU7 HK7
      refine hKq.out _ _ (⟨(HK8.out).1.c0, (HK8.out).1.c1⟩) (fun _ => ?_)
      clear hKq Kq
      try simp only [Act.put, List.setIfInBounds_toArray, List.set_cons_zero, List.set_cons_succ]
      refine wpAnyH_ready (rs := [12]) (by kernel_rfl) (by simp) ?_
      refine AllReadyH.cons (o := ⟨some 29, _, _, _, _, _⟩) rfl (fun Kq hKq => ?_) AllReadyH.nil
      go_simp
      refine (HR.out w8 _ _ _ _ _ HL8.out).mono ?_
      rintro e w9 ⟨ad9, n9, cap9, us9, rfl, r9, b9⟩
      have y9 := b9.size
      have HB9 := Lib.hid (HB8.out.trans (b9.mono (by omega)))
      have HK9 := Lib.hid (And.intro (HBD.out.1.below HB9.out (by omega)) (HBD.out.2.1.below HB9.out (by omega)))
      have HR9 := Lib.hid r9
      clear r9 b9
      refine hKq.out _ _ (⟨(HK9.out).1.c0, (HK9.out).1.c1⟩) (fun _ => ?_)
      clear hKq Kq
      try simp only [Act.put, List.setIfInBounds_toArray, List.set_cons_zero, List.set_cons_succ]
      have HH9 := Lib.hid (And.intro HK9.out.1.c0 HK9.out.1.c1)
      refine wpAnyH_take (i := 13) (oi := ⟨some 30, _, _, _, _, _⟩) (v := ?_) rfl (by kernel_rfl) (by kernel_rfl) (by kernel_rfl) (fun _ _ _ h => h) (Or.inl ⟨by rfl, ?_⟩) HH9.out ?_
      rotate_left
      · intro wS hSw
        try dsimp only at hSw
        go_simp
        all_goals (with_reducible rfl)
      simp only [Act.put, List.setIfInBounds_toArray, List.set_cons_zero, List.set_cons_succ]
      refine wpAnyH_ready (rs := [14]) (by kernel_rfl) (by simp) ?_
      refine AllReadyH.cons (o := ⟨none, _, _, _, _, _⟩) rfl (fun Kq hKq => ?_) AllReadyH.nil
      have co0 := HK9.out.2.c0
      have co1 := HK9.out.2.c1
      have fo0 := HK9.out.2.f0
      have fo1 := HK9.out.2.f1
      have hO9 := (HK9.out.2.set0 (.int .i64 W)).set1 (.slice ad9 n9 cap9)
      have hBx := (HK9.out.1.other (p := ⟨w.heap.size + 1, 0, none⟩) (by show w.heap.size ≠ w.heap.size + 1; omega) (.int .i64 W)).other (p := ⟨w.heap.size + 1, 1, none⟩) (by show w.heap.size ≠ w.heap.size + 1; omega) (.slice ad9 n9 cap9)
      have HM := Lib.hid (show Mv w9 ((w9.setCell ⟨w.heap.size + 1, 0, none⟩ (.int .i64 W)).setCell ⟨w.heap.size + 1, 1, none⟩ (.slice ad9 n9 cap9)) (w.heap.size + 1) (w.heap.size + 1 + 1) from
        ((Mv.refl _ _ _).setCell (by show w.heap.size + 1 ≤ w.heap.size + 1; omega) (by show w.heap.size + 1 < w.heap.size + 1 + 1; omega) _).setCell (by show w.heap.size + 1 ≤ w.heap.size + 1; omega) (by show w.heap.size + 1 < w.heap.size + 1 + 1; omega) _)
      go_simp
      generalize (w9.setCell ⟨w.heap.size + 1, 0, none⟩ (.int .i64 W)).setCell ⟨w.heap.size + 1, 1, none⟩ (.slice ad9 n9 cap9) = W9 at *
      have g0 := hO9.c0
      have g1 := hO9.c1
      have HH10 := Lib.hid (And.intro hBx.c0 hBx.c1)
      clear hO9 hBx co0 co1 fo0 fo1
      refine hKq.out _ _ (HH10.out) (fun _ => ?_)
      clear hKq Kq
      try simp only [Act.put, List.setIfInBounds_toArray, List.set_cons_zero, List.set_cons_succ]
      refine wpAnyH_take (i := 15) (oi := ⟨some 5, _, _, _, _, _⟩) (v := ?_) rfl (by kernel_rfl) (by kernel_rfl) (by kernel_rfl) (fun _ _ _ h => h) (Or.inl ⟨by rfl, ?_⟩) HH10.out ?_
      rotate_left
      · intro wS hSw
        try dsimp only at hSw
        go_simp
        all_goals (with_reducible rfl)
      simp only [Act.put, List.setIfInBounds_toArray, List.set_cons_zero, List.set_cons_succ]
      refine wpAnyH_done (by kernel_rfl) ?_ _
      go_wp2
      refine bodyPost_ret (by simp [results, Tryz.results51, go_sem, g0, g1]; rfl) rfl ?_
      have hm := HM.out
      have y10 : w.heap.size ≤ w8.heap.size := by omega
      have hl9 := ((HR9.out.mv hm (.inr (show w.heap.size + 1 + 1 ≤ w8.heap.size by omega))).lt).mono (l' := w.heap.size) y10 (Nat.le_refl _)
      exact ⟨_, rfl, ⟨_, _, _, _, rfl, hw0, hl9⟩, (HBD.out.2.2.trans (HB9.out.mono hzD2)).trans (hm.below (Nat.le_succ _) (by omega))⟩
    · go_simp
      have HBA := Lib.hid ((Below.refl D.heap.size D).alloc (Nat.le_refl _) (.cells #[] 3))
      refine hKq.out _ _ (⟨(HBD.out.1.below HBA.out (by omega)).c0, (HBD.out.1.below HBA.out (by omega)).c1⟩) (fun _ => ?_)
      clear hKq Kq
      try simp only [Act.put, List.setIfInBounds_toArray, List.set_cons_zero, List.set_cons_succ]
      refine wpAnyH_ready (rs := [4]) (by kernel_rfl) (by simp) ?_
      refine AllReadyH.cons (o := ⟨some 21, _, _, _, _, _⟩) rfl (fun Kq hKq => ?_) AllReadyH.nil
      go_simp
      refine (HCp.out _ (HBD.out.2.2.trans (HBA.out.mono hzD2))).mono ?_
      rintro e w6 ⟨ad4, n4, cap4, us4, rfl, r4, b5⟩
      obtain rfl : n4 = n := by rw [← r4.len, hLn]
      have HB6 := Lib.hid (HBA.out.trans (b5.mono HBA.out.size))
      have HG6 := Lib.hid (r4.lo HBA.out.size)
      have y6 := HB6.out.size
      refine hKq.out _ _ (⟨(HBD.out.1.below HB6.out (by omega)).c0, (HBD.out.1.below HB6.out (by omega)).c1⟩) (fun _ => ?_)
      clear hKq Kq r4 b5
      try simp only [Act.put, List.setIfInBounds_toArray, List.set_cons_zero, List.set_cons_succ]
      refine wpAnyH_ready (rs := [7]) (by kernel_rfl) (by simp) ?_
      refine AllReadyH.cons (o := ⟨some 24, _, _, _, _, _⟩) rfl (fun Kq hKq => ?_) AllReadyH.nil
      refine step_app (Row.nil w6 w6.heap.size w6.heap.size .i64 3 _) (HV.out w6 (HBD.out.2.2.trans (HB6.out.mono hzD2))) Tryz.underlying61 info_int (by unfold maxLen; omega) (by omega) (Nat.le_refl _) rfl _ _ rfl rfl rfl ?_
      intro ad7 cap7 w7 r7 m7
      rw [List.nil_append, Nat.zero_add] at r7
      simp only [Nat.zero_add]
      have b7 : Below w6.heap.size w6 w7 := m7.below (Nat.le_refl _) (Nat.le_refl _)
      have y7 := b7.size
      have HB7 := Lib.hid (HB6.out.trans (b7.mono y6))
      have HK7 := Lib.hid (And.intro (HBD.out.1.below HB7.out (by omega)) (HBD.out.2.1.below HB7.out (by omega)))
      have HG7 := Lib.hid (HG6.out.mv m7 (.inl (Nat.le_refl _)))
      have HU7 := Lib.hid (OwnInts.of r7)
      clear r7 m7 b7
      refine hKq.out _ _ (⟨(HK7.out).1.c0, (HK7.out).1.c1⟩) (fun _ => ?_)
      clear hKq Kq
      try simp only [Act.put, List.setIfInBounds_toArray, List.set_cons_zero, List.set_cons_succ]
      refine wpAnyH_ready (rs := [8]) (by kernel_rfl) (by simp) ?_
      refine AllReadyH.cons (o := ⟨some 25, _, _, _, _, _⟩) rfl (fun Kq hKq => ?_) AllReadyH.nil
      go_simp
      refine hKq.out _ _ (⟨(HK7.out.1.alloc _).c0, (HK7.out.1.alloc _).c1⟩) (fun _ => ?_)
      clear hKq Kq
      try simp only [Act.put, List.setIfInBounds_toArray, List.set_cons_zero, List.set_cons_succ]
      refine wpAnyH_ready (rs := [9]) (by kernel_rfl) (by simp) ?_
      refine AllReadyH.cons (o := ⟨some 26, _, _, _, _, _⟩) rfl (fun Kq hKq => ?_) AllReadyH.nil
      have hr8 := HG7.out.alloc (.cells #[.slice ad7 n2 cap7] 61)
      have hu8 := HU7.out.below (below_box w7 (.cells #[.slice ad7 n2 cap7] 61)) (.inl (Nat.le_refl _))
      refine step_snoc hr8.out (u := .slice ad7 n2 cap7) (by rw [World.cell?_alloc_new]; rfl) rfl Tryz.underlying24 info_ints rfl (by unfold maxLen; omega) (by omega) rfl _ _ rfl rfl rfl ?_
      intro g8 cap8 w8 o8 p8
      have y8 := p8.size
      rw [World.size_alloc] at y8
      have HL8 := Lib.hid ((hr8.loose.snoc hu8 o8 p8 (by rw [World.size_alloc]; omega) y6 (Nat.le_refl _)).sls)
      have HB8 := Lib.hid ((HB7.out.alloc (Nat.le_trans y6 y7) (.cells #[.slice ad7 n2 cap7] 61)).trans (p8.below (Nat.le_refl _) (by rw [World.size_alloc]; omega)))
      have HK8 := Lib.hid (And.intro (HBD.out.1.below HB8.out (by omega)) (HBD.out.2.1.below HB8.out (by omega)))
      clear hr8 hu8 o8 p8 HG7 HU7 HK7
      refine hKq.out _ _ (⟨(HK8.out).1.c0, (HK8.out).1.c1⟩) (fun _ => ?_)
      clear hKq Kq
      try simp only [Act.put, List.setIfInBounds_toArray, List.set_cons_zero, List.set_cons_succ]
      refine wpAnyH_ready (rs := [12]) (by kernel_rfl) (by simp) ?_
      refine AllReadyH.cons (o := ⟨some 29, _, _, _, _, _⟩) rfl (fun Kq hKq => ?_) AllReadyH.nil
      go_simp
      refine (HR.out w8 _ _ _ _ _ HL8.out).mono ?_
      rintro e w9 ⟨ad9, n9, cap9, us9, rfl, r9, b9⟩
      have y9 := b9.size
      have HB9 := Lib.hid (HB8.out.trans (b9.mono (by omega)))
      have HK9 := Lib.hid (And.intro (HBD.out.1.below HB9.out (by omega)) (HBD.out.2.1.below HB9.out (by omega)))
      have HR9 := Lib.hid r9
      clear r9 b9
      refine hKq.out _ _ (⟨(HK9.out).1.c0, (HK9.out).1.c1⟩) (fun _ => ?_)
      clear hKq Kq
      try simp only [Act.put, List.setIfInBounds_toArray, List.set_cons_zero, List.set_cons_succ]
      have HH9 := Lib.hid (And.intro HK9.out.1.c0 HK9.out.1.c1)
      refine wpAnyH_take (i := 13) (oi := ⟨some 30, _, _, _, _, _⟩) (v := ?_) rfl (by kernel_rfl) (by kernel_rfl) (by kernel_rfl) (fun _ _ _ h => h) (Or.inl ⟨by rfl, ?_⟩) HH9.out ?_
      rotate_left
      · intro wS hSw
        try dsimp only at hSw
        go_simp
        all_goals (with_reducible rfl)
      simp only [Act.put, List.setIfInBounds_toArray, List.set_cons_zero, List.set_cons_succ]
      refine wpAnyH_ready (rs := [14]) (by kernel_rfl) (by simp) ?_
      refine AllReadyH.cons (o := ⟨none, _, _, _, _, _⟩) rfl (fun Kq hKq => ?_) AllReadyH.nil
      have co0 := HK9.out.2.c0
      have co1 := HK9.out.2.c1
      have fo0 := HK9.out.2.f0
      have fo1 := HK9.out.2.f1
      have hO9 := (HK9.out.2.set0 (.int .i64 W)).set1 (.slice ad9 n9 cap9)
      have hBx := (HK9.out.1.other (p := ⟨w.heap.size + 1, 0, none⟩) (by show w.heap.size ≠ w.heap.size + 1; omega) (.int .i64 W)).other (p := ⟨w.heap.size + 1, 1, none⟩) (by show w.heap.size ≠ w.heap.size + 1; omega) (.slice ad9 n9 cap9)
      have HM := Lib.hid (show Mv w9 ((w9.setCell ⟨w.heap.size + 1, 0, none⟩ (.int .i64 W)).setCell ⟨w.heap.size + 1, 1, none⟩ (.slice ad9 n9 cap9)) (w.heap.size + 1) (w.heap.size + 1 + 1) from
        ((Mv.refl _ _ _).setCell (by show w.heap.size + 1 ≤ w.heap.size + 1; omega) (by show w.heap.size + 1 < w.heap.size + 1 + 1; omega) _).setCell (by show w.heap.size + 1 ≤ w.heap.size + 1; omega) (by show w.heap.size + 1 < w.heap.size + 1 + 1; omega) _)
      go_simp
      generalize (w9.setCell ⟨w.heap.size + 1, 0, none⟩ (.int .i64 W)).setCell ⟨w.heap.size + 1, 1, none⟩ (.slice ad9 n9 cap9) = W9 at *
      have g0 := hO9.c0
      have g1 := hO9.c1
      have HH10 := Lib.hid (And.intro hBx.c0 hBx.c1)
      clear hO9 hBx co0 co1 fo0 fo1
      refine hKq.out _ _ (HH10.out) (fun _ => ?_)
      clear hKq Kq
      try simp only [Act.put, List.setIfInBounds_toArray, List.set_cons_zero, List.set_cons_succ]
      refine wpAnyH_take (i := 15) (oi := ⟨some 5, _, _, _, _, _⟩) (v := ?_) rfl (by kernel_rfl) (by kernel_rfl) (by kernel_rfl) (fun _ _ _ h => h) (Or.inl ⟨by rfl, ?_⟩) HH10.out ?_
      rotate_left
      · intro wS hSw
        try dsimp only at hSw
        go_simp
        all_goals (with_reducible rfl)
      simp only [Act.put, List.setIfInBounds_toArray, List.set_cons_zero, List.set_cons_succ]
      refine wpAnyH_done (by kernel_rfl) ?_ _
      go_wp2
      refine bodyPost_ret (by simp [results, Tryz.results51, go_sem, g0, g1]; rfl) rfl ?_
      have hm := HM.out
      have y10 : w.heap.size ≤ w8.heap.size := by omega
      have hl9 := ((HR9.out.mv hm (.inr (show w.heap.size + 1 + 1 ≤ w8.heap.size by omega))).lt).mono (l' := w.heap.size) y10 (Nat.le_refl _)
      exact ⟨_, rfl, ⟨_, _, _, _, rfl, hw0, hl9⟩, (HBD.out.2.2.trans (HB9.out.mono hzD2)).trans (hm.below (Nat.le_succ _) (by omega))⟩
  · obtain rfl : bI = false := hFn
    obtain rfl : rows = RR := (HNo.out rfl).symm
    clear HNo HYes HMf
    go_wp2_with fail
    go_at_call 81
    refine (HY.out _ HB4.out.2.2).mono ?_
    rintro e w5 ⟨u5, rfl, ⟨ad5, n5, cap5, us5, rfl, _, r5⟩, b5⟩
    have hO5 := HB4.out.2.1.below b5 (by omega)
    have co0 := hO5.c0
    have co1 := hO5.c1
    have fo0 := hO5.f0
    have fo1 := hO5.f1
    have hO9 := (hO5.set0 (.int .i64 W)).set1 (.slice ad5 n5 cap5)
    have g0 := hO9.c0
    have g1 := hO9.c1
    have HM := Lib.hid (show Mv w5 ((w5.setCell ⟨w.heap.size + 1, 0, none⟩ (.int .i64 W)).setCell ⟨w.heap.size + 1, 1, none⟩ (.slice ad5 n5 cap5)) (w.heap.size + 1) (w.heap.size + 1 + 1) from
      ((Mv.refl _ _ _).setCell (by show w.heap.size + 1 ≤ w.heap.size + 1; omega) (by show w.heap.size + 1 < w.heap.size + 1 + 1; omega) _).setCell (by show w.heap.size + 1 ≤ w.heap.size + 1; omega) (by show w.heap.size + 1 < w.heap.size + 1 + 1; omega) _)
    have HR := Lib.hid (show Grid w5 w4.heap.size w5.heap.size 3 61 ad5 n5 cap5 us5 rows from r5)
    have HX := Lib.hid (And.intro (HB4.out.2.2.trans (b5.mono (by omega))) b5.size)
    clear r5 b5 hO5 hO9 hw HY
    go_wp2
    generalize (w5.setCell ⟨w.heap.size + 1, 0, none⟩ (.int .i64 W)).setCell ⟨w.heap.size + 1, 1, none⟩ (.slice ad5 n5 cap5) = W9 at *
    refine bodyPost_ret (by simp [results, Tryz.results51, go_sem, g0, g1]; rfl) rfl ?_
    have hm := HM.out
    have hz : w.heap.size + 1 + 1 ≤ w4.heap.size := by omega
    exact ⟨_, rfl, ⟨_, _, _, _, rfl, hw0, ((HR.out.mv hm (.inr hz)).lt.lo (by omega)).loose⟩, HX.out.1.trans (hm.below (Nat.le_succ _) (by have := HX.out.2; omega))⟩
end Go.Proofs.YtefcfeikooknmaaGreat.BasW
namespace Go.Proofs.YtefcfeikooknmaaGreat.BasW
open Go.ChangeShapes Go.WideShapes Go.ChangeAt Go.RowKit
open Go.Proofs.YtefcfeikooknmaaGreat.Drawn Go.Proofs.YtefcfeikooknmaaGreat.Seq Go.Proofs.YtefcfeikooknmaaGreat.Help Go.Proofs.YtefcfeikooknmaaGreat.Field Go.Proofs.YtefcfeikooknmaaGreat.FieldW Go.Proofs.YtefcfeikooknmaaGreat.Vec Go.Proofs.YtefcfeikooknmaaGreat.VecW Go.Proofs.YtefcfeikooknmaaGreat.Mat Go.Proofs.YtefcfeikooknmaaGreat.MatW Go.Proofs.YtefcfeikooknmaaGreat.MatP Go.Proofs.YtefcfeikooknmaaGreat.Lin Go.Proofs.YtefcfeikooknmaaGreat.Rref Go.Proofs.YtefcfeikooknmaaGreat.RedW Go.Proofs.YtefcfeikooknmaaGreat.SolP Go.Proofs.YtefcfeikooknmaaGreat.Shape Go.Proofs.YtefcfeikooknmaaGreat.Bas

/-- The free columns ahead of a column. -/
def freeTo (rows : List (List Int)) (k : Nat) : List Int := ((List.range k).filter (isFreeCol rows)).map (fun (k : Nat) => (k : Int))
theorem freeTo_s (rows : List (List Int)) (k : Nat) : freeTo rows (k + 1) = bif isFreeCol rows k then freeTo rows k ++ [(k : Int)] else freeTo rows k := by
  unfold freeTo
  rw [List.range_succ, List.filter_append]
  cases h : isFreeCol rows k <;> simp [h]
theorem freeTo_len (rows : List (List Int)) (k : Nat) : (freeTo rows k).length ≤ k := by
  unfold freeTo
  rw [List.length_map]
  exact Nat.le_trans (List.length_filter_le _ _) (by rw [List.length_range]; exact Nat.le_refl _)
def freeIn (rows : List (List Int)) (k q : Nat) : Bool := (rows.take q).all fun r => !(lead r == (k : Int))
theorem freeIn_s {rows : List (List Int)} {k q : Nat} {r : List Int} (h : rows[q]? = some r) : freeIn rows k (q + 1) = (freeIn rows k q && !(lead r == (k : Int))) := by
  unfold freeIn
  rw [take_more h, List.all_append]
  simp
theorem freeIn_all {rows : List (List Int)} {k n : Nat} (h : rows.length = n) : freeIn rows k n = isFreeCol rows k := by
  unfold freeIn isFreeCol
  rw [List.take_of_length_le (Nat.le_of_eq h)]
theorem freeOf_yes {W : Int} {rows : List (List Int)} (h : isBas W rows = true) : freeOf W rows = freeTo rows W.toNat := by unfold freeOf; rw [h]; rfl
theorem freeOf_no {W : Int} {rows : List (List Int)} (h : isBas W rows = false) : freeOf W rows = [] := by unfold freeOf; rw [h]; rfl
end Go.Proofs.YtefcfeikooknmaaGreat.BasW
namespace Go.Proofs.YtefcfeikooknmaaGreat.BasW
open Go.ChangeShapes Go.WideShapes Go.ChangeAt Go.RowKit
open Go.Proofs.YtefcfeikooknmaaGreat.Drawn Go.Proofs.YtefcfeikooknmaaGreat.Seq Go.Proofs.YtefcfeikooknmaaGreat.Help Go.Proofs.YtefcfeikooknmaaGreat.Field Go.Proofs.YtefcfeikooknmaaGreat.FieldW Go.Proofs.YtefcfeikooknmaaGreat.Vec Go.Proofs.YtefcfeikooknmaaGreat.VecW Go.Proofs.YtefcfeikooknmaaGreat.Mat Go.Proofs.YtefcfeikooknmaaGreat.MatW Go.Proofs.YtefcfeikooknmaaGreat.MatP Go.Proofs.YtefcfeikooknmaaGreat.Lin Go.Proofs.YtefcfeikooknmaaGreat.Rref Go.Proofs.YtefcfeikooknmaaGreat.RedW Go.Proofs.YtefcfeikooknmaaGreat.SolP Go.Proofs.YtefcfeikooknmaaGreat.Shape Go.Proofs.YtefcfeikooknmaaGreat.Bas

/-- Two valid bases of one width. -/
noncomputable def pairB (W : Int) (rows : List (List Int)) (W' : Int) (rows' : List (List Int)) : Bool := (isBas W rows && isBas W' rows') && (W == W')
theorem spec_pairB (w : World) {l h l2 h2 : Nat} {v v2 : Value} {b b2 : Bs} (s : BasisI w l h v b) (s2 : BasisI w l2 h2 v2 b2) : Calls Tryz.prog 48 #[v, v2] w (Says (.bool (pairB b.1 b.2 b2.1 b2.2)) w) := by
  obtain ⟨W, rows⟩ := b
  obtain ⟨W2, rows2⟩ := b2
  obtain ⟨u, rfl, hw, ad, n, cap, rfl, s⟩ := s
  obtain ⟨u2, rfl, hw2, ad2, n2, cap2, rfl, s2⟩ := s2
  show Calls _ _ _ _ (Says (.bool (pairB W rows W2 rows2)) w)
  have hF : pairB W rows W2 rows2 = ((isBas W rows && isBas W2 rows2) && (W == W2)) := rfl
  have hb := (below_box w (.cells #[.int .i64 W, .slice ad n cap] 26)).alloc (by simp) (.cells #[.int .i64 W2, .slice ad2 n2 cap2] 26)
  have hB := (Blk.new w (.int .i64 W) (.slice ad n cap) 26).alloc (.cells #[.int .i64 W2, .slice ad2 n2 cap2] 26)
  have hB2 := Blk.new (w.alloc (.cells #[.int .i64 W, .slice ad n cap] 26)) (.int .i64 W2) (.slice ad2 n2 cap2) 26
  rw [World.size_alloc] at hB2
  have hz2 : ((w.alloc (.cells #[.int .i64 W, .slice ad n cap] 26)).alloc (.cells #[.int .i64 W2, .slice ad2 n2 cap2] 26)).heap.size = w.heap.size + 1 + 1 := by simp
  have HK := Lib.hid (fun w' (b : Below w.heap.size w w') => spec_isBas w' (l := l) (h := h) (v := .agg #[.int .i64 W, .slice ad n cap]) (b := (W, rows)) ⟨_, rfl, hw, _, _, _, rfl, s.below b (.inr (Nat.le_refl _))⟩)
  have HK2 := Lib.hid (fun w' (b : Below w.heap.size w w') => spec_isBas w' (l := l2) (h := h2) (v := .agg #[.int .i64 W2, .slice ad2 n2 cap2]) (b := (W2, rows2)) ⟨_, rfl, hw2, _, _, _, rfl, s2.below b (.inr (Nat.le_refl _))⟩)
  have c0 := hB.c0
  have c1 := hB.c1
  have d0 := hB2.c0
  have d1 := hB2.c1
  have HB := Lib.hid (And.intro hB (And.intro hB2 hb))
  dsimp only at HK HK2
  generalize isBas W rows = B1 at *
  generalize isBas W2 rows2 = B2 at *
  clear s s2 hB hB2 hb
  go_enter Tryz.func48, Tryz.ntmps48
  go_wp2_with fail
  go_at_call 36
  generalize (w.alloc (.cells #[.int .i64 W, .slice ad n cap] 26)).alloc (.cells #[.int .i64 W2, .slice ad2 n2 cap2] 26) = W3 at *
  refine (HK.out _ HB.out.2.2).mono ?_
  rintro e w1 ⟨rfl, b1⟩
  have HB1 := Lib.hid (And.intro (HB.out.1.below b1 (by omega)) (And.intro (HB.out.2.1.below b1 (by omega)) (HB.out.2.2.trans (b1.mono (by omega)))))
  have y1 := b1.size
  clear c0 c1 d0 d1 HB b1 HK
  have c0 := HB1.out.1.c0
  have c1 := HB1.out.1.c1
  have d0 := HB1.out.2.1.c0
  have d1 := HB1.out.2.1.c1
  have HF := Lib.hid hF
  clear hF
  cases B1
  · go_wp2
    go_ret
    exact ⟨by rw [HF.out]; rfl, HB1.out.2.2⟩
  · go_wp2_with fail
    go_at_call 36
    refine (HK2.out _ HB1.out.2.2).mono ?_
    rintro e w2 ⟨rfl, b2⟩
    have HB2 := Lib.hid (And.intro (HB1.out.1.below b2 (by omega)) (And.intro (HB1.out.2.1.below b2 (by omega)) (HB1.out.2.2.trans (b2.mono (by omega)))))
    clear c0 c1 d0 d1 HB1 b2 HK2
    have c0 := HB2.out.1.c0
    have c1 := HB2.out.1.c1
    have d0 := HB2.out.2.1.c0
    have d1 := HB2.out.2.1.c1
    cases B2
    · go_wp2
      go_ret
      exact ⟨by rw [HF.out]; rfl, HB2.out.2.2⟩
    · go_wp2
      go_ret
      exact ⟨by rw [HF.out]; rfl, HB2.out.2.2⟩
end Go.Proofs.YtefcfeikooknmaaGreat.BasW
namespace Go.Proofs.YtefcfeikooknmaaGreat.BasW
open Go.ChangeShapes Go.WideShapes Go.ChangeAt Go.RowKit
open Go.Proofs.YtefcfeikooknmaaGreat.Seq Go.Proofs.YtefcfeikooknmaaGreat.Help Go.Proofs.YtefcfeikooknmaaGreat.Shape Go.Proofs.YtefcfeikooknmaaGreat.Bas

def NewOp : Prop := ∀ (w : World) (W : Int) (_ : -9223372036854775808 ≤ W) (_ : W ≤ 9223372036854775807), Calls Tryz.prog 29 #[.int .i64 W] w (Ret (fun w l h u => BasisO w l h u (newB W)) w)
def DimOp : Prop := ∀ (w : World) {l h : Nat} {v : Value} {b : Bs} (_ : BasisI w l h v b) (_ : BasisF b), Calls Tryz.prog 10 #[v] w (Says (.int .i64 (dimOf b.1 b.2)) w)
def EqOp : Prop := ∀ (w : World) {l h l2 h2 : Nat} {v v2 : Value} {b b2 : Bs} (_ : BasisI w l h v b) (_ : BasisF b) (_ : BasisI w l2 h2 v2 b2) (_ : BasisF b2), Calls Tryz.prog 12 #[v, v2] w (Says (.bool (sameB b.1 b.2 b2.1 b2.2)) w)
end Go.Proofs.YtefcfeikooknmaaGreat.BasW
namespace Go.Proofs.YtefcfeikooknmaaGreat.Bas
open Go.Proofs.YtefcfeikooknmaaGreat.Field Go.Proofs.YtefcfeikooknmaaGreat.Vec Go.Proofs.YtefcfeikooknmaaGreat.Mat Go.Proofs.YtefcfeikooknmaaGreat.MatP Go.Proofs.YtefcfeikooknmaaGreat.Lin Go.Proofs.YtefcfeikooknmaaGreat.Rref Go.Proofs.YtefcfeikooknmaaGreat.SolP Go.Proofs.YtefcfeikooknmaaGreat.RedW Go.Proofs.YtefcfeikooknmaaGreat.RedP

theorem isBas_prog (W : Int) (rows : List (List Int)) : isBas W rows = (inW W && (isRed rows && (decide (rows.length = 0) || ((colsOf rows : Int) == W)))) := by
  rw [Bool.eq_iff_iff, isBas_iff]
  simp only [Bool.and_eq_true, inW_iff, Bool.or_eq_true, decide_eq_true_eq, beq_iff_eq]
  have hr : isRed rows = true ↔ isMat rows = true ∧ rref rows = rows := by unfold isRed MatW.sameM; simp
  rw [hr]
  constructor
  · rintro ⟨h1, h2, h3, h4⟩
    refine ⟨h2, ⟨h3, h4⟩, ?_⟩
    rcases Nat.eq_zero_or_pos rows.length with h0 | h0
    · exact .inl h0
    · refine .inr ?_
      have := h1 rows[0] (List.getElem_mem h0)
      rw [← this, ((isMat_iff.1 h3).1 _ (List.getElem_mem h0)).2]
  · rintro ⟨h2, ⟨h3, h4⟩, h5⟩
    refine ⟨fun r hr => ?_, h2, h3, h4⟩
    rcases h5 with h5 | h5
    · have : rows = [] := List.eq_nil_of_length_eq_zero h5
      rw [this] at hr; simp at hr
    · rw [← h5, ((isMat_iff.1 h3).1 r hr).2]
/-- A row, or a number, put in at a place. -/
def ins {α : Type} (t : Nat) (R : Nat → α) (u : α) : Nat → α := fun i => if i < t then R i else if i = t then u else R (i - 1)
theorem ins_lt {α : Type} {t i : Nat} (R : Nat → α) (u : α) (h : i < t) : ins t R u i = R i := if_pos h
theorem ins_at {α : Type} (t : Nat) (R : Nat → α) (u : α) : ins t R u t = u := by unfold ins; rw [if_neg (Nat.lt_irrefl t), if_pos rfl]
theorem ins_gt {α : Type} {t i : Nat} (R : Nat → α) (u : α) (h : t < i) : ins t R u i = R (i - 1) := by unfold ins; rw [if_neg (by omega), if_neg (by omega)]
theorem ins_list {α : Type} {t n : Nat} (ht : t ≤ n) (f : Nat → α) (u : α) : ((List.range n).map f).take t ++ u :: ((List.range n).map f).drop t = (List.range (n + 1)).map (ins t f u) := by
  apply List.ext_getElem?
  intro i
  rw [List.getElem?_map]
  by_cases h1 : i < t
  · rw [List.getElem?_append_left (by simp; omega), List.getElem?_take, if_pos h1, List.getElem?_map, List.getElem?_range (by omega), List.getElem?_range (by omega)]
    simp [ins_lt _ _ h1]
  · rw [List.getElem?_append_right (by simp; omega)]
    have hl : (((List.range n).map f).take t).length = t := by simp; omega
    rw [hl]
    by_cases h2 : i = t
    · subst h2
      rw [Nat.sub_self, List.getElem?_cons_zero, List.getElem?_range (by omega)]
      simp [ins_at]
    · obtain ⟨k, rfl⟩ : ∃ k, i = t + k + 1 := ⟨i - t - 1, by omega⟩
      rw [show t + k + 1 - t = k + 1 by omega, List.getElem?_cons_succ, List.getElem?_drop, List.getElem?_map]
      by_cases h3 : t + k < n
      · rw [List.getElem?_range h3, List.getElem?_range (by omega)]
        simp [ins_gt _ _ (show t < t + k + 1 by omega)]
      · rw [List.getElem?_eq_none (by simp; omega), List.getElem?_eq_none (by simp; omega)]; rfl
theorem ins_mk {t n w : Nat} (ht : t ≤ n) (R : Nat → V) (y : V) : (mk n w R).take t ++ vec w y :: (mk n w R).drop t = mk (n + 1) w (ins t R y) := by
  unfold mk
  rw [ins_list ht]
  refine List.map_congr_left fun i _ => ?_
  unfold ins
  split
  · rfl
  · split <;> rfl
theorem swap_same (M : Nat → V) (A : Nat) : swapped M A A = M := by
  funext l
  unfold swapped
  by_cases h : l = A
  · rw [if_pos h, h]
  · rw [if_neg h, if_neg h]
/-- The place of a new pivot. -/
structure Place (n : Nat) (p : Nat → Nat) (k t : Nat) : Prop where
  le : t ≤ n
  lo : ∀ i, i < t → p i < k
  hi : ∀ i, t ≤ i → i < n → k < p i
variable {W : Int} {rows : List (List Int)} {w n k t : Nat} {R : Nat → V} {p : Nat → Nat} {y : V}
theorem ins_red (h : Red n w R p) (hp : Place n p k t) (hk : k < w) (hy : y k ≠ 0) (h0 : ∀ j, j < k → y j = 0) (hz : ∀ i, i < n → y (p i) = 0) : Red (n + 1) w (cleared invF (ins t R y) t t k) (ins t p k) := by
  have hinv := invF_ok _ hy
  have ca : ∀ j, cleared invF (ins t R y) t t k t j = y j * invF (y k) := fun j => by rw [cleared_a, ins_at]
  have co : ∀ l j, l ≠ t → cleared invF (ins t R y) t t k l j = ins t R y l j + (y j * invF (y k)) * (0 - ins t R y l k) := fun l j hl => by rw [cleared_o _ _ _ _ _ hl, swap_same, ins_at]
  have cases : ∀ i, i < n + 1 → i ≠ t → ∃ i', i' < n ∧ (∀ (α : Type) (f : Nat → α) (u : α), ins t f u i = f i') ∧ ((i < t ∧ i' = i) ∨ (t < i ∧ i' + 1 = i)) := fun i hi hne => by
    by_cases h1 : i < t
    · exact ⟨i, by have := hp.le; omega, fun α f u => ins_lt f u h1, .inl ⟨h1, rfl⟩⟩
    · exact ⟨i - 1, by omega, fun α f u => ins_gt f u (by omega), .inr ⟨by omega, by omega⟩⟩
  have pk : ∀ i', i' < n → (i' < t → p i' < k) ∧ (t ≤ i' → k < p i') := fun i' hi' => ⟨hp.lo i', fun h1 => hp.hi i' h1 hi'⟩
  refine ⟨fun i hi => ?_, fun i l hil hl => ?_, fun i hi => ?_, fun i l hi hl hne => ?_, fun i j hi hj => ?_⟩
  · by_cases e : i = t
    · rw [e, ins_at]; exact hk
    · obtain ⟨i', h1, h2, _⟩ := cases i hi e
      rw [h2]; exact h.lt i' h1
  · by_cases e : i = t
    · obtain ⟨l', h1, h2, h3⟩ := cases l hl (by omega)
      rw [h2, e, ins_at]
      exact (pk l' h1).2 (by omega)
    · obtain ⟨i', h1, h2, h3⟩ := cases i (by omega) e
      rw [h2]
      by_cases e2 : l = t
      · rw [e2, ins_at]
        exact (pk i' h1).1 (by omega)
      · obtain ⟨l', h4, h5, h6⟩ := cases l hl e2
        rw [h5]
        exact h.up i' l' (by omega) h4
  · by_cases e : i = t
    · rw [e, ins_at, ca]; exact hinv
    · obtain ⟨i', h1, h2, _⟩ := cases i hi e
      rw [co _ _ e, h2, h2, h.one i' h1, hz i' h1]; grind
  · by_cases e : i = t
    · obtain ⟨l', h1, h2, _⟩ := cases l hl (by omega)
      rw [e, ca, h2, hz l' h1]; grind
    · obtain ⟨i', h1, h2, h3⟩ := cases i hi e
      rw [co _ _ e, h2]
      by_cases e2 : l = t
      · rw [e2, ins_at]; grind
      · obtain ⟨l', h4, h5, h6⟩ := cases l hl e2
        rw [h5, h.zero i' l' h1 h4 (by omega), hz l' h4]; grind
  · by_cases e : i = t
    · rw [e, ins_at] at hj
      rw [e, ca, h0 j hj]; grind
    · obtain ⟨i', h1, h2, h3⟩ := cases i hi e
      rw [h2] at hj
      rw [co _ _ e, h2, h.ahead i' j h1 hj]
      by_cases e2 : i < t
      · have := (pk i' h1).1 (by omega)
        rw [h0 j (by omega)]; grind
      · have := (pk i' h1).2 (by omega)
        rw [h.ahead i' k h1 this]; grind
/-- The rows with one put in and its column cleared are the reduced rows of all. -/
theorem insert_rows (h : Form W rows w n R p) {v : List Int} (hv : v = vec w (toV v)) (hs : Supp w (toV v)) (hp : Place n p k t) (hk : k < w) (hy : rdc n R p (toV v) k ≠ 0) (h0 : ∀ j, j < k → rdc n R p (toV v) j = 0) (hnw : n + 1 ≤ 40) :
    rref (rows ++ [v]) = mk (n + 1) w (cleared invF (ins t R (rdc n R p (toV v))) t t k) := by
  have hw4 := h.small
  have hred := ins_red h.red hp hk hy h0 fun i hi => rdc_piv h.red _ hi
  generalize hx : toV v = x at *
  rw [more_mk h (by rw [hx]; exact hv), hx]
  have hm : Mat.isMat (mk (n + 1) w (fun l => if l < n then R l else x)) = true := isMat_mk _ hnw hw4
  have hc : colsOf (mk (n + 1) w (fun l => if l < n then R l else x)) = w := mk_cols _ (by omega)
  have hent : ∀ l, l < n + 1 → Rref.ent (mk (n + 1) w (fun l => if l < n then R l else x)) l = if l < n then R l else x := fun l hl => ent_red hl (by
    by_cases h1 : l < n
    · rw [if_pos h1]; exact h.supp l h1
    · rw [if_neg h1]; exact hs)
  have hyx : ∀ j, rdc n R p x j = x j + (0 - 1) * lin n R (fun i => x (p i)) j := fun j => rfl
  have hS : ∀ (T : Nat → V), (∀ i, i < n → Span (n + 1) T (R i)) → Span (n + 1) T x → ∀ i, i < n + 1 → Span (n + 1) T (ins t R (rdc n R p x) i) := fun T hR hX i hi => by
    by_cases e : i = t
    · rw [e, ins_at]
      exact span_add hX (span_lin hR _) _
    · by_cases h1 : i < t
      · rw [ins_lt _ _ h1]; exact hR i (by have := hp.le; omega)
      · rw [ins_gt _ _ (show t < i by omega)]; exact hR (i - 1) (by omega)
  have hR2 : ∀ i, i < n → Span (n + 1) (ins t R (rdc n R p x)) (R i) := fun i hi => by
    by_cases h1 : i < t
    · have := span_mem (S := ins t R (rdc n R p x)) (show i < n + 1 by omega)
      rwa [ins_lt _ _ h1] at this
    · have := span_mem (S := ins t R (rdc n R p x)) (show i + 1 < n + 1 by omega)
      rwa [ins_gt _ _ (show t < i + 1 by omega)] at this
  have hX2 : Span (n + 1) (ins t R (rdc n R p x)) x := by
    have hy2 : Span (n + 1) (ins t R (rdc n R p x)) (rdc n R p x) := by
      have := span_mem (S := ins t R (rdc n R p x)) (show t < n + 1 by have := hp.le; omega)
      rwa [ins_at] at this
    have := span_add hy2 (span_lin hR2 (fun i => x (p i))) 1
    have e : (fun j => rdc n R p x j + 1 * lin n R (fun i => x (p i)) j) = x := by
      funext j
      rw [hyx]; grind
    rwa [e] at this
  have ht : t < n + 1 := by have := hp.le; omega
  have hat : ins t R (rdc n R p x) t k ≠ 0 := by rw [ins_at]; exact hy
  have hd : Dec (mk (n + 1) w (fun l => if l < n then R l else x)) (n + 1) (cleared invF (ins t R (rdc n R p x)) t t k) (ins t p k) := by
    refine ⟨by rw [hc]; exact hred, fun i hi => ?_, fun l hl => ?_⟩
    · rw [mk_len]
      refine span_trans (T := ins t R (rdc n R p x)) (fun l hl => ?_) (cleared_in invF _ k ht ht i hi)
      refine hS _ (fun i hi => ?_) ?_ l hl
      · have := span_mem (S := Rref.ent (mk (n + 1) w (fun l => if l < n then R l else x))) (show i < n + 1 by omega)
        rwa [hent i (by omega), if_pos hi] at this
      · have := span_mem (S := Rref.ent (mk (n + 1) w (fun l => if l < n then R l else x))) (show n < n + 1 by omega)
        rwa [hent n (by omega), if_neg (Nat.lt_irrefl n)] at this
    · rw [mk_len] at hl
      rw [hent l hl]
      refine span_trans (T := ins t R (rdc n R p x)) (fun i hi => in_cleared invF invF_ok _ ht ht hat i hi) ?_
      by_cases h1 : l < n
      · rw [if_pos h1]; exact hR2 l h1
      · rw [if_neg h1]; exact hX2
  rw [hd.rref hm, hc]
/-- The pivots, as numbers; how many lie below k. -/
def pivs (A : Nat) (p : Nat → Nat) : List Int := (List.range A).map fun i => (p i : Int)
theorem pivs_len (A : Nat) (p : Nat → Nat) : (pivs A p).length = A := by simp [pivs]
theorem pivs_get {A i : Nat} (p : Nat → Nat) (h : i < A) : (pivs A p)[i]? = some (p i : Int) := by simp [pivs, h]
theorem Form.leads (h : Form W rows w n R p) : rows.map Vec.lead = pivs n p := by
  rw [h.rows]
  unfold MatP.mk pivs
  rw [List.map_map]
  exact List.map_congr_left fun i hi => h.lead (List.mem_range.1 hi)
theorem pivs_sorted (h : ∀ i l, i < l → l < n → p i < p l) : (pivs n p).Pairwise (· ≤ ·) := by
  rw [List.pairwise_iff_getElem]
  intro i j hi hj hij
  rw [pivs_len] at hi hj
  simp only [pivs, List.getElem_map, List.getElem_range]
  have := h i j hij hj
  omega
theorem count_to (k : Nat) (hu : ∀ i l, i < l → l < n → p i < p l) (hne : ∀ i, i < n → p i ≠ k) : ∀ m, m ≤ n → Place m p k ((pivs m p).countP (· < (k : Int)))
  | 0, _ => ⟨Nat.le_refl _, fun i hi => by simp [pivs] at hi, fun i _ hi => by omega⟩
  | m + 1, hm => by
    have ih := count_to k hu hne m (by omega)
    have e : pivs (m + 1) p = pivs m p ++ [(p m : Int)] := by unfold pivs; rw [List.range_succ, List.map_append]; rfl
    rw [e, List.countP_append]
    generalize (pivs m p).countP (· < (k : Int)) = c at *
    by_cases h1 : p m < k
    · have h2 : [(p m : Int)].countP (· < (k : Int)) = 1 := by rw [List.countP_singleton, if_pos (by simpa using h1)]
      rw [h2]
      have hc : c = m := by
        rcases Nat.lt_or_eq_of_le ih.le with h3 | h3
        · have := ih.hi c (Nat.le_refl _) h3
          have := hu c m h3 (by omega)
          omega
        · exact h3
      subst hc
      exact ⟨Nat.le_refl _, fun i hi => by
        rcases Nat.lt_or_eq_of_le (Nat.le_of_lt_succ hi) with h3 | rfl
        · exact ih.lo i h3
        · exact h1, fun i h3 h4 => by omega⟩
    · have h2 : [(p m : Int)].countP (· < (k : Int)) = 0 := by rw [List.countP_singleton, if_neg (by simpa using h1)]
      rw [h2, Nat.add_zero]
      exact ⟨by have := ih.le; omega, ih.lo, fun i h3 h4 => by
        rcases Nat.lt_or_eq_of_le (Nat.le_of_lt_succ h4) with h5 | rfl
        · exact ih.hi i h3 h5
        · have := hne i (by omega)
          omega⟩
/-- What is left of an innovative vector has a pivot. -/
theorem rest_lead (h : Form W rows w n R p) (x : V) : Vec.lead (vec w (rdc n R p x)) < 0 ∨ ∃ k : Nat, Vec.lead (vec w (rdc n R p x)) = k ∧ k < w ∧ rdc n R p x k ≠ 0 ∧ (∀ j, j < k → rdc n R p x j = 0) ∧ ∀ i, i < n → p i ≠ k := by
  rcases lead_cases (vec w (rdc n R p x)) with ⟨h1, h2⟩ | ⟨j, z, h1, h2, h3, h4⟩
  · exact .inl (by omega)
  · have hj : j < w := by have := (List.getElem?_eq_some_iff.1 h1).1; rwa [vec_len] at this
    rw [vec_get _ hj] at h1
    obtain rfl := Option.some.inj h1
    have hne : rdc n R p x j ≠ 0 := fun e => h2 (by rw [e]; exact em_0)
    refine .inr ⟨j, h4, hj, hne, fun i hi => ?_, fun i hi e => hne (by rw [← e]; exact rdc_piv h.red x hi)⟩
    exact em_inj ((h3 _ (List.mem_of_getElem? (i := i) (by rw [List.getElem?_take, if_pos hi]; exact vec_get _ (by omega)))).trans em_0.symm)
theorem part_ins (t k : Nat) (R : Nat → V) (y : V) (l : Nat) : RedW.part (ins t R y) t t k 0 l = ins t R (fun j => y j * invF (y k)) l := by
  rw [part_0]
  by_cases e : l = t
  · subst e
    rw [if_pos rfl, ins_at]
    funext j
    rw [cleared_a, ins_at]
  · rw [if_neg e, if_neg e]
    unfold ins
    split
    · rfl
    · first | rfl | rw [if_neg e, if_neg e]
theorem insert_case {v : List Int} (hF : fits W rows v = true) (h : Form W rows w n R p) (hv : v = vec w (toV v)) (hs : Supp w (toV v)) :
    (Vec.lead (vec w (rdc n R p (toV v))) < 0 ∧ inserted W rows v = false) ∨
    ∃ k t : Nat, Vec.lead (vec w (rdc n R p (toV v))) = k ∧ k < w ∧ rdc n R p (toV v) k ≠ 0 ∧ (pivs n p).countP (· < (k : Int)) = t ∧ t ≤ n ∧ n + 1 ≤ 40 ∧ inserted W rows v = true ∧
      insertV W rows v = mk (n + 1) w (cleared invF (ins t R (rdc n R p (toV v))) t t k) := by
  have hc : contains W rows v = decide (Vec.lead (vec w (rdc n R p (toV v))) < 0) := by
    unfold contains
    rw [hF, reduceV_form hF h hv]; rfl
  have hi : inserted W rows v = !contains W rows v := by unfold inserted; rw [hF]; rfl
  rcases rest_lead h (toV v) with h1 | ⟨k, h1, h2, h3, h4, h5⟩
  · refine .inl ⟨h1, ?_⟩
    rw [hi, hc, decide_eq_true h1]; rfl
  · have hcn : contains W rows v = false := by rw [hc, h1]; simp
    have hin : inserted W rows v = true := by rw [hi, hcn]; rfl
    have hsp : ¬ Span n R (toV v) := fun e => by rw [(contains_iff hF h hv hs).2 e] at hcn; cases hcn
    have hnw := (insert_form h hv hs hsp).1
    have hw4 := h.small
    have hp := count_to k h.red.up h5 n (Nat.le_refl _)
    exact .inr ⟨k, _, h1, h2, h3, rfl, hp.le, by omega, hin, by rw [insertV_yes hin]; exact insert_rows h hv hs hp h2 h3 h4 (by omega)⟩
theorem step_v (hw : w ≤ 40) (x : V) (t : Nat) : addScaled (vec w (rdc t R p x)) (vec w (R t)) (sub 0 (em (x (p t)))) = vec w (rdc (t + 1) R p x) := by
  have hs : sub 0 (em (x (p t))) = em (0 - x (p t)) := RedW.sub_em _
  rw [hs, adds_vec _ _ _ hw]
  exact vec_congr fun j _ => (rdc_s t R p x j).symm
theorem pivs_mem (A : Nat) (p : Nat → Nat) (k : Nat) : decide ((k : Int) ∈ pivs A p) = isPiv A p k := by
  rw [Bool.eq_iff_iff, decide_eq_true_iff, isPiv_iff]
  unfold pivs
  rw [List.mem_map]
  exact ⟨fun ⟨i, hi, e⟩ => ⟨i, List.mem_range.1 hi, by omega⟩, fun ⟨i, hi, e⟩ => ⟨i, List.mem_range.2 hi, by omega⟩⟩
end Go.Proofs.YtefcfeikooknmaaGreat.Bas
namespace Go.Proofs.YtefcfeikooknmaaGreat.BasEx
open Go.ChangeShapes Go.WideShapes Go.ChangeAt Go.RowKit
open Go.Proofs.YtefcfeikooknmaaGreat.Seq Go.Proofs.YtefcfeikooknmaaGreat.Help Go.Proofs.YtefcfeikooknmaaGreat.Vec Go.Proofs.YtefcfeikooknmaaGreat.Rref Go.Proofs.YtefcfeikooknmaaGreat.RedW Go.Proofs.YtefcfeikooknmaaGreat.Shape Go.Proofs.YtefcfeikooknmaaGreat.Bas Go.Proofs.YtefcfeikooknmaaGreat.BasW
variable {l h l2 h2 : Nat} {v v2 : Value} {b b2 : Bs} {xs : List Int}
noncomputable def insR (W : Int) (rows : List (List Int)) (v : List Int) : Bs × Bool := ((W, insertV W rows v), inserted W rows v)
theorem fit_ins {W : Int} {rows : List (List Int)} (v : List Int) (h : Small rows) : BasisF (insR W rows v).1 := by
  show Small (insertV W rows v)
  unfold insertV
  cases inserted W rows v
  · exact h
  · have := few_rref (rows ++ [v])
    exact ⟨by show (rref (rows ++ [v])).length ≤ 1048576; omega, fun xs hx => by have := this.2 xs hx; omega⟩
theorem fit_new (W : Int) : BasisF (newB W) := by
  unfold newB
  exact ⟨Nat.zero_le _, by simp⟩
theorem fit_red {W : Int} {rows : List (List Int)} {v : List Int} (h : IntSF v) : IntSF (reduceV W rows v) := Nat.le_trans (reduceV_le v) h
theorem fit_free (W : Int) (rows : List (List Int)) : IntSF (freeOf W rows) := Nat.le_trans (freeOf_le W rows) (by omega)
theorem newS (w : World) (W : Int) (h0 : -9223372036854775808 ≤ W) (h1 : W ≤ 9223372036854775807) : Calls Tryz.prog 37 #[.int .i64 W] w (Ret (fun w l h u => BasisI w l h u (newB W)) w) :=
  (spec_new w W h0 h1).mono fun _ _ ⟨u, e, r, b⟩ => ⟨u, e, BasisO_is r.own, b⟩
theorem validS (w : World) (s : BasisI w l h v b) (_ : BasisF b) : Calls Tryz.prog 36 #[v] w (Says (.bool (isBas b.1 b.2)) w) := spec_isBas w s
theorem redS (w : World) (s : BasisI w l h v b) (_ : BasisF b) (s2 : IntSI w l2 h2 v2 xs) (_ : IntSF xs) : Calls Tryz.prog 108 #[v, v2] w (Ret (fun w l h u => IntSO w l h u (reduceV b.1 b.2 xs)) w) := by
  obtain ⟨_, _, _, rfl, s2⟩ := s2
  exact spec_redv w s s2
theorem hasS (w : World) (s : BasisI w l h v b) (_ : BasisF b) (s2 : IntSI w l2 h2 v2 xs) (_ : IntSF xs) : Calls Tryz.prog 83 #[v, v2] w (Says (.bool (contains b.1 b.2 xs)) w) := by
  obtain ⟨_, _, _, rfl, s2⟩ := s2
  exact spec_contains w s s2
theorem insS (w : World) (s : BasisI w l h v b) (f : BasisF b) (s2 : IntSI w l2 h2 v2 xs) (_ : IntSF xs) : Calls Tryz.prog 51 #[v, v2] w (RetB (fun w l h u => BasisI w l h u (insR b.1 b.2 xs).1) (insR b.1 b.2 xs).2 w) := by
  obtain ⟨_, _, _, rfl, s2⟩ := s2
  exact (spec_insert w s f s2).mono fun _ _ ⟨u, e, r, b⟩ => ⟨u, e, r.reads, b⟩
end Go.Proofs.YtefcfeikooknmaaGreat.BasEx
namespace Go.Proofs.YtefcfeikooknmaaGreat.Seq
open Go.RowKit Go.WideShapes

/-- A list with one element put in at a place. -/
def putIn {α : Type} (t : Nat) (u : α) (L : List α) : List α := L.take t ++ u :: L.drop t
theorem putIn_cases {α : Type} {t j : Nat} {u v : α} {L : List α} (ht : t ≤ L.length) (h : (putIn t u L)[j]? = some v) : (j < t ∧ L[j]? = some v) ∨ (j = t ∧ v = u) ∨ (t < j ∧ L[j - 1]? = some v) := by
  unfold putIn at h
  have hl : (L.take t).length = t := by rw [List.length_take]; omega
  by_cases h1 : j < t
  · rw [List.getElem?_append_left (by omega), List.getElem?_take, if_pos h1] at h
    exact .inl ⟨h1, h⟩
  · rw [List.getElem?_append_right (by omega), hl] at h
    by_cases h2 : j = t
    · subst h2
      rw [Nat.sub_self, List.getElem?_cons_zero] at h
      exact .inr (.inl ⟨rfl, (Option.some.inj h).symm⟩)
    · obtain ⟨k, rfl⟩ : ∃ k, j = t + k + 1 := ⟨j - t - 1, by omega⟩
      rw [show t + k + 1 - t = k + 1 by omega, List.getElem?_cons_succ, List.getElem?_drop] at h
      exact .inr (.inr ⟨by omega, h⟩)
theorem putIn_len {α : Type} {t : Nat} (u : α) {L : List α} (ht : t ≤ L.length) : (putIn t u L).length = L.length + 1 := by
  unfold putIn
  rw [List.length_append, List.length_cons, List.length_take, List.length_drop]; omega
theorem putIn_end {α : Type} (u : α) (L : List α) : putIn L.length u L = L ++ [u] := by unfold putIn; rw [List.take_length, List.drop_length]
/-- What two copies leave. -/
theorem putIn_copies {α : Type} {t n k : Nat} (u z : α) {L : List α} (hn : L.length = n) (ht : t ≤ n) (hk : t + k = n + 1) :
    (((L.take t ++ List.replicate k z).take t ++ [u] ++ (L.take t ++ List.replicate k z).drop (t + [u].length)).take (t + 1) ++ L.drop t ++
      ((L.take t ++ List.replicate k z).take t ++ [u] ++ (L.take t ++ List.replicate k z).drop (t + [u].length)).drop (t + 1 + (L.drop t).length)) = putIn t u L := by
  have hl : (L.take t).length = t := by rw [List.length_take]; omega
  have e1 : (L.take t ++ List.replicate k z).take t = L.take t := by rw [List.take_append_of_le_length (by omega), List.take_of_length_le (by omega)]
  rw [e1]
  have e2 : (L.take t ++ [u] ++ (L.take t ++ List.replicate k z).drop (t + [u].length)).take (t + 1) = L.take t ++ [u] := by
    rw [List.take_append_of_le_length (by simp; omega), List.take_of_length_le (by simp; omega)]
  have e3 : (L.take t ++ [u] ++ (L.take t ++ List.replicate k z).drop (t + [u].length)).length = n + 1 := by simp; omega
  generalize L.take t ++ [u] ++ (L.take t ++ List.replicate k z).drop (t + [u].length) = B at *
  have e4 : B.drop (t + 1 + (L.drop t).length) = [] := List.drop_eq_nil_of_le (by rw [List.length_drop]; omega)
  rw [e2, e4, List.append_nil]
  unfold putIn
  simp

section
variable {w w' : World} {l h : Nat} {e : TypeId} {n cap : Nat} {us vs : List Value} {g : Nat}
theorem RowV.setCells (r : RowV w l h e (some ⟨g, 0, none⟩) n cap us) (o : Nat) (ho : o + vs.length ≤ n) (h1 : ∀ v ∈ vs, v.oneCell' = true) :
    RowV (w.setCells g o vs) l h e (some ⟨g, 0, none⟩) n cap (us.take o ++ vs ++ us.drop (o + vs.length)) ∧ Mv w (w.setCells g o vs) l h := by
  induction vs generalizing w us o with
  | nil =>
    refine ⟨?_, Mv.refl _ _ _⟩
    show RowV w l h e _ n cap _
    simpa using r
  | cons v vs ih =>
    rw [List.length_cons] at ho
    obtain ⟨a1, a2⟩ := r.set (j := o) (by omega) (h1 v (by simp))
    obtain ⟨b1, b2⟩ := ih a1 (o + 1) (by omega) (fun x hx => h1 x (by simp [hx]))
    have hul := r.len
    have e1 : (us.set o v).take (o + 1) = us.take o ++ [v] := by
      rw [List.take_add_one, List.getElem?_set_self (by omega), List.take_set_of_le (Nat.le_refl _)]
      rfl
    have e2 : (us.set o v).drop (o + 1 + vs.length) = us.drop (o + (v :: vs).length) := by
      rw [List.length_cons, List.drop_set_of_lt (by omega)]
      congr 1; omega
    rw [e1, e2] at b1
    refine ⟨?_, a2.trans b2⟩
    show RowV ((w.setCell ⟨g, o, none⟩ v).setCells g (o + 1) vs) l h e _ n cap _
    simpa [List.append_assoc] using b1
/-- 'append(l, u)' where l has no room at all: in a new block. -/
theorem wpList_snoc0 {P : Program} {ops : Array Oper} {rest : List Oper} {o : Oper} {a : Act} {Q : Exit → Act → World → Prop} {ad : Option Addr} {u : Value} {A : Addr} (hu : w.cell? A = some u) (hu1 : u.oneCell' = true) {t : TypeId} (ht : P.underlying t = some (.slice e)) {z : Value} {bytes : Nat}
    (hinfo : (P.info? e).map (fun i => (i.zero, i.size, i.bytes)) = some (some z, 1, bytes)) (hzs : z.cells.size = 1) (hby : bytes ≤ 140737488355328)
    (hgd : o.guard = none) (p q : Operand) (hop : o.op = Op.call { callee := Callee.builtin Builtin.append, args := #[p, q], argTypes := #[t, t] }) (hp : a.eval p = .slice ad 0 0) (hq : a.eval q = .slice (some A) 1 1)
    (hK : ∀ g cap' w', RowV w' g (g + 1) e (some ⟨g, 0, none⟩) 1 cap' [u] → w.heap.size ≤ g → Below w.heap.size w w' → wpList P ops Q rest (a.put o.dst (.slice (some ⟨g, 0, none⟩) 1 cap')) w') : wpList P ops Q (o :: rest) a w := by
  obtain ⟨i, hi, hz, hs, hb⟩ := info_parts hinfo
  have src : ∀ j v, [u][j]? = some v → w.cell? (A.add j) = some v := by
    intro j v hv
    cases j with
    | zero =>
      obtain rfl : u = v := by simpa using hv
      have : A.add 0 = A := by unfold Addr.add; simp
      rw [this]; exact hu
    | succ j => simp at hv
  have h63 : 0 + 1 ≤ maxLen := by unfold maxLen; omega
  have fin : ∀ v' w', w'.ownsRow w.heap.size e 1 v' 1 [u] → ∃ g cap', v' = .slice (some ⟨g, 0, none⟩) 1 cap' ∧ w.heap.size ≤ g ∧ RowV w' g (g + 1) e (some ⟨g, 0, none⟩) 1 cap' [u] := by
    intro v' w' o
    rcases o.2 with ⟨rfl, h0⟩ | ⟨g, c', cur, rfl, g1, g2, g3, g4, g5⟩
    · omega
    · refine ⟨g, c', rfl, g1, rfl, g3, g4, by simpa using hu1, .inr ⟨g, rfl, Nat.le_refl _, Nat.lt_succ_self _, o.1, .inr ⟨g, c', cur, rfl, Nat.le_refl _, g2, g3, g4, g5⟩⟩⟩
  have hrun : ∃ g cap' w', (Builtin.append_ #[t, t] o.type #[.slice ad 0 0, .slice (some A) 1 1]).run P w = .ok (.slice (some ⟨g, 0, none⟩) 1 cap') w' ∧ RowV w' g (g + 1) e (some ⟨g, 0, none⟩) 1 cap' [u] ∧ w.heap.size ≤ g ∧ Below w.heap.size w w' := by
    cases ad with
    | none =>
      obtain ⟨v', w', hr, ho, hg, _⟩ := run_append_own (P := P) w w.heap.size t o.type e i z 1 bytes ht hi hz hs hb hzs (by decide) (.slice none 0 0) 0 [] (World.ownsRow_nil w _ e 1) A 1 1 [u] rfl src (by simpa using hu1) h63 (by omega) (Nat.le_refl _)
      obtain ⟨g, cap', rfl, hge, hrow⟩ := fin v' w' (by simpa using ho)
      exact ⟨g, cap', w', by simpa using hr, hrow, hge, hg.os, hg.tape, hg.output, hg.size, fun k hk => hg.block k hk (by simp [Value.ownBlock])⟩
    | some b =>
      obtain ⟨v', w', hr, ho, hg⟩ := run_append_arg_grows (P := P) w t o.type e i z 1 bytes ht hi hz hs hb hzs (by decide) b 0 0 [] rfl (by simp) A 1 1 [u] rfl src (by omega) h63 (by omega)
      obtain ⟨g, cap', rfl, hge, hrow⟩ := fin v' w' (by simpa using ho)
      exact ⟨g, cap', w', by simpa using hr, hrow, hge, hg.os, hg.tape, hg.output, hg.size, fun k hk => hg.block k hk (by simp)⟩
  refine wpList_plain hgd fun K hK' => ?_
  obtain ⟨g, cap', w', hr, hrow, hge, hm⟩ := hrun
  unfold Oper.wp
  simp [execOp, hop, resolve, invoke, builtin, hp, hq, hr, Result.andThen]
  exact hK' _ _ (hK g cap' w' hrow hge hm)
/-! a block of one-cell values, whole -/
structure Whole (w : World) (g : Nat) (e : TypeId) (cs : List Value) : Prop where
  obj : w.heap[g]? = some (.cells cs.toArray e (0, 0))
theorem Whole.cell {cs : List Value} (k : Whole w g e cs) {j : Nat} {v : Value} (hv : cs[j]? = some v) : w.cell? ⟨g, j, none⟩ = some v := by simp [World.cell?, k.obj, hv]
theorem Whole.frozen {cs : List Value} (k : Whole w g e cs) (j : Nat) : w.frozen? ⟨g, j, none⟩ = false := by simp [World.frozen?, k.obj]
theorem Whole.lt {cs : List Value} (k : Whole w g e cs) : g < w.heap.size := (Array.getElem?_eq_some_iff.1 k.obj).1
theorem Whole.below {cs : List Value} {B : Nat} (k : Whole w g e cs) (b : Below B w w') (hB : g < B) : Whole w' g e cs := ⟨(b.block g hB).trans k.obj⟩
theorem Whole.drewN {cs : List Value} (k : Whole w g e cs) (q : Nat) : Whole (w.drewN q) g e cs := ⟨k.obj⟩
theorem Whole.setCells {cs : List Value} (k : Whole w g e cs) (o : Nat) (ho : o + vs.length ≤ cs.length) : Whole (w.setCells g o vs) g e (cs.take o ++ vs ++ cs.drop (o + vs.length)) ∧ Mv w (w.setCells g o vs) g (g + 1) := by
  induction vs generalizing w cs o with
  | nil =>
    refine ⟨?_, Mv.refl _ _ _⟩
    show Whole w g e _
    simpa using k
  | cons v vs ih =>
    rw [List.length_cons] at ho
    have a1 : Whole (w.setCell ⟨g, o, none⟩ v) g e (cs.set o v) := ⟨by rw [heap_setCell_same _ _ _ _ _ _ k.obj]; simp⟩
    obtain ⟨b1, b2⟩ := ih a1 (o + 1) (by rw [List.length_set]; omega)
    have e1 : (cs.set o v).take (o + 1) = cs.take o ++ [v] := by
      rw [List.take_add_one, List.getElem?_set_self (by omega), List.take_set_of_le (Nat.le_refl _)]
      rfl
    have e2 : (cs.set o v).drop (o + 1 + vs.length) = cs.drop (o + (v :: vs).length) := by
      rw [List.length_cons, List.drop_set_of_lt (by omega)]
      congr 1; omega
    rw [e1, e2] at b1
    refine ⟨?_, Mv.trans ((Mv.refl _ _ _).setCell (p := ⟨g, o, none⟩) (Nat.le_refl _) (Nat.lt_succ_self _) _) b2⟩
    show Whole ((w.setCell ⟨g, o, none⟩ v).setCells g (o + 1) vs) g e _
    simpa [List.append_assoc] using b1
theorem RowV.whole (r : RowV w l h e (some ⟨g, 0, none⟩) n cap us) (hc : 0 < cap) : ∃ cs, Whole w g e cs ∧ cs.length = cap ∧ cs.take n = us ∧ l ≤ g ∧ g < h := by
  rcases r.own with ⟨_, h0⟩ | ⟨g', h1, h2, h3, h4⟩
  · omega
  · obtain rfl := (Addr.mk.inj (Option.some.inj h1)).1
    rcases h4.2 with ⟨h5, _⟩ | ⟨g', c', cur, h5, _, h6, _, _, h7, h8⟩
    · cases h5
    · obtain ⟨h9, _, rfl⟩ := Value.slice.inj h5
      obtain rfl := (Addr.mk.inj (Option.some.inj h9)).1
      exact ⟨cur.toList, ⟨by simpa using h6⟩, by simpa using h7, by simpa using h8, h2, h3⟩
theorem Whole.row {cs : List Value} (k : Whole w g e cs) (hl : cs.length = cap) (hn : n ≤ cap) (hb : cap ≤ maxLen) (h1 : ∀ v ∈ cs.take n, v.oneCell' = true) : RowV w g (g + 1) e (some ⟨g, 0, none⟩) n cap (cs.take n) :=
  ⟨by rw [List.length_take]; omega, hn, hb, h1, .inr ⟨g, rfl, Nat.le_refl _, Nat.lt_succ_self _, by rw [List.length_take]; omega, .inr ⟨g, cap, cs.toArray, rfl, Nat.le_refl _, k.obj, hn, hb, by simpa using hl, by simp⟩⟩⟩
/-- The block alone. -/
theorem RowV.tight (r : RowV w l h e (some ⟨g, 0, none⟩) n cap us) (hn : 0 < n) : RowV w g (g + 1) e (some ⟨g, 0, none⟩) n cap us := by
  have hle := r.le
  obtain ⟨cs, k, h1, rfl, _, _⟩ := r.whole (by omega)
  exact k.row h1 hle r.big r.one
/-- What two copies leave in a block with room. -/
theorem putIn_room {α : Type} {t n : Nat} (u : α) {cs : List α} (ht : t < n) (hn : n < cs.length) :
    ((cs.take (t + 1) ++ (cs.take n).drop t ++ cs.drop (t + 1 + ((cs.take n).drop t).length)).take t ++ [u] ++ (cs.take (t + 1) ++ (cs.take n).drop t ++ cs.drop (t + 1 + ((cs.take n).drop t).length)).drop (t + [u].length)).take (n + 1) = putIn t u (cs.take n) := by
  apply List.ext_getElem?
  intro j
  have hl : ((cs.take n).drop t).length = n - t := by rw [List.length_drop, List.length_take]; omega
  have hd : ∀ i, i < n - t → ((cs.take n).drop t)[i]? = cs[t + i]? := fun i hi => by rw [List.getElem?_drop, List.getElem?_take, if_pos (by omega)]
  unfold putIn
  rw [hl]
  generalize (cs.take n).drop t = D at *
  have hA : (cs.take (t + 1) ++ D ++ cs.drop (t + 1 + (n - t))).length = cs.length := by simp [hl]; omega
  have hB : ∀ i, (cs.take (t + 1) ++ D ++ cs.drop (t + 1 + (n - t)))[i]? = if i < t + 1 then cs[i]? else if i < n + 1 then D[i - (t + 1)]? else cs[i]? := fun i => by
    by_cases h1 : i < t + 1
    · rw [if_pos h1, List.append_assoc, List.getElem?_append_left (by rw [List.length_take]; omega), List.getElem?_take, if_pos h1]
    · rw [if_neg h1, List.append_assoc, List.getElem?_append_right (by rw [List.length_take]; omega), List.length_take, show min (t + 1) cs.length = t + 1 by omega]
      by_cases h2 : i < n + 1
      · rw [if_pos h2, List.getElem?_append_left (by omega)]
      · rw [if_neg h2, List.getElem?_append_right (by omega), List.getElem?_drop, hl]
        congr 1; omega
  generalize cs.take (t + 1) ++ D ++ cs.drop (t + 1 + (n - t)) = A at *
  rw [List.getElem?_take, List.append_assoc]
  by_cases h0 : j < n + 1
  · rw [if_pos h0]
    have hL : (A.take t).length = t := by rw [List.length_take]; omega
    have hR : ((cs.take n).take t).length = t := by simp; omega
    by_cases h1 : j < t
    · rw [List.getElem?_append_left (by omega), List.getElem?_append_left (by omega), List.getElem?_take, if_pos h1, hB, if_pos (by omega), List.getElem?_take, if_pos h1, List.getElem?_take, if_pos (by omega)]
    · rw [List.getElem?_append_right (by omega), hL, show ((cs.take n).take t ++ u :: D)[j]? = (u :: D)[j - t]? by rw [List.getElem?_append_right (by omega), hR]]
      by_cases h2 : j = t
      · subst h2; simp
      · obtain ⟨k, rfl⟩ : ∃ k, j = t + k + 1 := ⟨j - t - 1, by omega⟩
        rw [show t + k + 1 - t = k + 1 by omega, List.getElem?_cons_succ]
        show (u :: A.drop (t + 1))[k + 1]? = _
        rw [List.getElem?_cons_succ, List.getElem?_drop, hB, if_neg (by omega), if_pos (by omega)]
        congr 1; omega
  · rw [if_neg h0]
    exact (List.getElem?_eq_none (by simp; omega)).symm
/-- 'copy(d, s)' into a slice of the call's own. -/
theorem run_copyV {P : Program} {t ty : TypeId} (ht : P.underlying t = some (.slice e)) (hs : (P.info? e).map (·.size) = some 1) (r : RowV w l h e (some ⟨g, 0, none⟩) n cap us) {o dl dc sl sc l1 h1 : Nat} {A : Addr} (s : SlV w l1 h1 (some A) sl sc vs) (hm : sl ≤ dl) (ho : o + dl ≤ n) :
    (Builtin.copy_ #[t, t] ty #[.slice (some ⟨g, o, none⟩) dl dc, .slice (some A) sl sc]).run P w = .ok (goInt vs.length) (w.setCells g o vs) :=
  run_copy_cells w t t ty e g o dl dc A sl sc vs ht hs (by rw [s.len]; exact (Nat.min_eq_left hm).symm)
    (fun j v hj => by
      obtain ⟨a, ea, _, _, hc⟩ := s.cells j v hj
      obtain rfl := Option.some.inj ea
      exact hc)
    (fun j hj => by
      obtain ⟨u, _, hc, _⟩ := r.there (j := o + j) (by have := s.len; omega)
      rw [hc]; rfl)
    (fun j hj => by
      obtain ⟨u, _, _, hf⟩ := r.there (j := o + j) (by have := s.len; omega)
      exact hf) s.one
theorem wpList_copyV {P : Program} {ops : Array Oper} {rest : List Oper} {o : Oper} {a : Act} {Q : Exit → Act → World → Prop} {t : TypeId} (ht : P.underlying t = some (.slice e)) (hs : (P.info? e).map (·.size) = some 1) (r : RowV w l h e (some ⟨g, 0, none⟩) n cap us) {p dl dc sl sc l1 h1 : Nat} {A : Addr}
    (s : SlV w l1 h1 (some A) sl sc vs) (hm : sl ≤ dl) (ho : p + dl ≤ n)
    (hgd : o.guard = none) (d x : Operand) (hop : o.op = .call { callee := .builtin .copy, args := #[d, x], argTypes := #[t, t] }) (hd : a.eval d = .slice (some ⟨g, p, none⟩) dl dc) (hx : a.eval x = .slice (some A) sl sc)
    (hK : ∀ w', RowV w' l h e (some ⟨g, 0, none⟩) n cap (us.take p ++ vs ++ us.drop (p + vs.length)) → Mv w w' l h → wpList P ops Q rest (a.put o.dst (goInt vs.length)) w') : wpList P ops Q (o :: rest) a w := by
  obtain ⟨r2, m2⟩ := r.setCells p (vs := vs) (by have := s.len; omega) s.one
  refine wpList_plain hgd fun _ hK' => ?_
  have hr := run_copyV (P := P) (ty := o.type) ht hs r s hm ho (dc := dc)
  unfold Oper.wp execOp
  simp only [hop, resolve, invoke, builtin, Sem.run_bind, Sem.run_pure, Result.andThen_ok, List.map_toArray, List.map_cons, List.map_nil, hd, hx, hr]
  exact hK' _ _ (hK _ r2 m2)
theorem step_copyV {P : Program} {ops : Array Oper} {o : Oper} {a : Act} {K : Act → World → Prop} {Q : Exit → Act → World → Prop} {E : Prop} {t : TypeId} (ht : P.underlying t = some (.slice e)) (hs : (P.info? e).map (·.size) = some 1) (r : RowV w l h e (some ⟨g, 0, none⟩) n cap us) {p dl dc sl sc l1 h1 : Nat} {A : Addr}
    (s : SlV w l1 h1 (some A) sl sc vs) (hm : sl ≤ dl) (ho : p + dl ≤ n)
    (hgd : o.guard = none) (d x : Operand) (hop : o.op = .call { callee := .builtin .copy, args := #[d, x], argTypes := #[t, t] }) (hd : a.eval d = .slice (some ⟨g, p, none⟩) dl dc) (hx : a.eval x = .slice (some A) sl sc)
    (hK : ∀ w', RowV w' l h e (some ⟨g, 0, none⟩) n cap (us.take p ++ vs ++ us.drop (p + vs.length)) → Mv w w' l h → K (a.put o.dst (goInt vs.length)) w') :
    if Region.wanted o (yielded ops a.tmps) = true then Oper.wp P o a w K Q else E := by
  have hw : Region.wanted o (yielded ops a.tmps) = true := by simp [Region.wanted, hgd]
  rw [if_pos hw]
  obtain ⟨r2, m2⟩ := r.setCells p (vs := vs) (by have := s.len; omega) s.one
  have hr := run_copyV (P := P) (ty := o.type) ht hs r s hm ho (dc := dc)
  unfold Oper.wp
  simp [execOp, hop, resolve, invoke, builtin, hd, hx, hr, Result.andThen]
  exact hK _ r2 m2
/-- 'copy(d, s)' at a step of a region that draws its order, its run known. -/
theorem step_copyR {P : Program} {ops : Array Oper} {o : Oper} {a : Act} {K : Act → World → Prop} {Q : Exit → Act → World → Prop} {E : Prop} {t : TypeId} (hgd : o.guard = none) (d x : Operand) (hop : o.op = .call { callee := .builtin .copy, args := #[d, x], argTypes := #[t, t] })
    {v u v' : Value} (hd : a.eval d = v) (hx : a.eval x = u) (hr : (Builtin.copy_ #[t, t] o.type #[v, u]).run P w = .ok v' w') (hK : K (a.put o.dst v') w') :
    if Region.wanted o (yielded ops a.tmps) = true then Oper.wp P o a w K Q else E := by
  have hw : Region.wanted o (yielded ops a.tmps) = true := by simp [Region.wanted, hgd]
  rw [if_pos hw]
  unfold Oper.wp
  simp [execOp, hop, resolve, invoke, builtin, hd, hx, hr, Result.andThen]
  exact hK
/-- 'append(s[:t], make([]T, k)...)' where there is no room. -/
theorem wpList_onto {P : Program} {ops : Array Oper} {rest : List Oper} {o : Oper} {a : Act} {Q : Exit → Act → World → Prop} {t tn : TypeId} {kn kq : IntKind} (ht : P.underlying t = some (.slice e)) (htn : P.underlying tn = some (.int kn)) {z : Value} {bytes : Nat}
    (hinfo : (P.info? e).map (fun i => (i.zero, i.size, i.bytes)) = some (some z, 1, bytes)) (hz1 : z.oneCell' = true) (hzc : z.cells = #[z]) {A : Addr} {l1 h1 : Nat} (s : SlV w l1 h1 (some A) n cap us) {k : Nat} (h0 : 0 < k) (hg : cap < n + k) (h63 : n + k ≤ maxLen) (hby : (n + k) * bytes ≤ 140737488355328)
    (hgd : o.guard = none) (p q : Operand) (hop : o.op = Op.call { callee := Callee.builtin Builtin.append, args := #[p, q], argTypes := #[t, tn] }) (hp : a.eval p = .slice (some A) n cap) (hq : a.eval q = .int kq (k : Int))
    (hK : ∀ cap' w', RowV w' w.heap.size w'.heap.size e (some ⟨w.heap.size, 0, none⟩) (n + k) cap' (us ++ List.replicate k z) → Below w.heap.size w w' → wpList P ops Q rest (a.put o.dst (.slice (some ⟨w.heap.size, 0, none⟩) (n + k) cap')) w') : wpList P ops Q (o :: rest) a w := by
  obtain ⟨i, hi, hz, hs, hb⟩ := info_parts hinfo
  have h9 : ((n + k : Nat) : Int) ≤ 9223372036854775807 := by unfold maxLen at h63; omega
  have hold : (Builtin.firstCells i.size n (.slice (some A) n cap)).run P w.drew = .ok us.toArray w.drew := by
    rw [hs]
    exact run_firstCells_some w.drew 1 n A n cap us (by rw [s.len]; omega) (fun j v hj => by
      obtain ⟨a', ea, _, _, hc⟩ := s.cells j v hj
      obtain rfl := Option.some.inj ea
      exact hc)
  have hkb : k * i.bytes ≤ 281474976710656 := by
    have := Nat.mul_le_mul_right bytes (show k ≤ n + k by omega)
    rw [hb]; omega
  have hrun := Lib.run_append_grow_zeros w t tn o.type e i z kq kn ht htn hi hz (some A) n cap us hold k h0 (by omega) hg h9 hkb (by rw [hb]; exact growslice_fits hg hby)
  have hge := grownCap_ge w (n + k) cap e
  have hle := grownCap_le_maxLen w (n + k) cap e h63
  refine Lib.wpList_append_run w hgd p q t tn hop _ _ hp hq _ _ hrun (hK _ _ ⟨by rw [List.length_append, List.length_replicate, s.len], hge, hle, fun u hu => ?_, .inr ⟨w.heap.size, rfl, Nat.le_refl _, by simp, ?_⟩⟩ ((Below.refl _ _).drew.alloc (Nat.le_refl _) _))
  · rcases List.mem_append.1 hu with h | h
    · exact s.one u h
    · rw [List.eq_of_mem_replicate h]; exact hz1
  · have hzk : ∀ m, (Builtin.zeroCells z.cells m).toList = List.replicate m z := fun m => by
      rw [hzc]
      simp [Builtin.zeroCells, Nat.mod_one, List.map_const']
    refine ⟨by rw [List.length_append, List.length_replicate, s.len, Nat.mul_one], .inr ⟨w.heap.size, _, _, rfl, Nat.le_refl _, heap_alloc_new w.drew _, hge, hle, ?_, ?_⟩⟩
    · rw [Array.size_append, Array.size_append, size_zeroCells, size_zeroCells, hzc]
      simp [s.len]; omega
    · rw [Array.toList_append, Array.toList_append, hzk, hzk, Nat.mul_one, List.take_append_of_le_length (by simp [s.len]), List.take_of_length_le (by simp [s.len])]
/-- 'append(s, u)' where there is no room. -/
theorem wpList_snoc_new {P : Program} {ops : Array Oper} {rest : List Oper} {o : Oper} {a : Act} {Q : Exit → Act → World → Prop} {t : TypeId} (ht : P.underlying t = some (.slice e)) {z : Value} {bytes : Nat}
    (hinfo : (P.info? e).map (fun i => (i.zero, i.size, i.bytes)) = some (some z, 1, bytes)) (hzs : z.cells.size = 1) {A B : Addr} {l1 h1 l2 h2 c : Nat} (s : SlV w l1 h1 (some A) n cap us) (s2 : SlV w l2 h2 (some B) 1 c vs) (hg : cap < n + 1) (h63 : n + 1 ≤ maxLen) (hby : (n + 1) * bytes ≤ 140737488355328)
    (hgd : o.guard = none) (p q : Operand) (hop : o.op = Op.call { callee := Callee.builtin Builtin.append, args := #[p, q], argTypes := #[t, t] }) (hp : a.eval p = .slice (some A) n cap) (hq : a.eval q = .slice (some B) 1 c)
    (hK : ∀ g cap' w', RowV w' w.heap.size w'.heap.size e (some ⟨g, 0, none⟩) (n + 1) cap' (us ++ vs) → Below w.heap.size w w' → wpList P ops Q rest (a.put o.dst (.slice (some ⟨g, 0, none⟩) (n + 1) cap')) w') : wpList P ops Q (o :: rest) a w := by
  obtain ⟨i, hi, hz, hs, hb⟩ := info_parts hinfo
  refine wpList_plain hgd fun K hK' => ?_
  obtain ⟨v', w', hr, ho, hgr⟩ := run_append_arg_grows (P := P) w t o.type e i z 1 bytes ht hi hz hs hb hzs (by decide) A n cap us (by rw [s.len, Nat.mul_one])
    (fun j v hj => by
      obtain ⟨a', ea, _, _, hc⟩ := s.cells j v hj
      obtain rfl := Option.some.inj ea
      exact hc) B 1 c vs (by rw [s2.len])
    (fun j v hj => by
      obtain ⟨a', ea, _, _, hc⟩ := s2.cells j v hj
      obtain rfl := Option.some.inj ea
      exact hc) hg h63 hby
  have hone : ∀ u ∈ us ++ vs, u.oneCell' = true := fun u hu => (List.mem_append.1 hu).elim (s.one u) (s2.one u)
  rcases ho.2 with ⟨_, h0⟩ | ⟨g, c', cur, rfl, g1, g2, g3, g4, g5⟩
  · omega
  unfold Oper.wp
  simp [execOp, hop, resolve, invoke, builtin, hp, hq, hr, Result.andThen]
  exact hK' _ _ (hK g c' w' ⟨by rw [List.length_append, s.len, s2.len], g3, g4, hone, .inr ⟨g, rfl, g1, owns_lt ho, ho⟩⟩ ⟨hgr.os, hgr.tape, hgr.output, hgr.size, fun k hk => hgr.block k hk (by simp)⟩)
/-- The rows with one put in: a new list, the new row in a block that is none of theirs. -/
theorem Grid.insert {e1 : TypeId} {ad : Option Addr} {xss : List (List Int)} {u : Value} {xs : List Int} {s h2 t cap' : Nat} (r : Grid w l s e e1 ad n cap us xss) (hu : OwnInts w s h2 e u xs) (ht : t ≤ n) (o : RowV w' w.heap.size w'.heap.size e1 (some ⟨g, 0, none⟩) (n + 1) cap' (putIn t u us)) (b : Below w.heap.size w w') (hls : l ≤ s) (hl : l ≤ w.heap.size) :
    Grid w' l w'.heap.size e e1 (some ⟨g, 0, none⟩) (n + 1) cap' (putIn t u us) (putIn t xs xss) := by
  have hul := r.out.len
  have hg : w.heap.size ≤ g := by
    obtain ⟨g', e', h', _⟩ := o.pos (by omega)
    obtain rfl := (Addr.mk.inj (Option.some.inj e')).1
    exact h'
  have hu' := ((hu.lt).below b (.inl (Nat.le_refl _))).lo hls
  have hr' : ∀ j v ys, us[j]? = some v → xss[j]? = some ys → OwnInts w' l w'.heap.size e v ys := fun j v ys hv hy => (((r.rows j v ys hv hy).lt).below b (.inl (Nat.le_refl _))).mono b.size
  have hlt : ∀ j v b', (putIn t u us)[j]? = some v → blockOf v = some b' → b' < w.heap.size := fun j v b' hv hb => by
    rcases putIn_cases (by omega) hv with ⟨_, hv⟩ | ⟨_, rfl⟩ | ⟨_, hv⟩
    · exact (r.block hv hb).2.2
    · exact (hu.block hb).2.2
    · exact (r.block hv hb).2.2
  refine ⟨o.lo hl, by rw [putIn_len _ (by rw [r.len]; exact ht), r.len], fun j v ys hv hy => ?_, fun i j v v' b' hij hv hv' hb hb' => ?_, fun j v b' g' hv hb hge => ?_⟩
  · rcases putIn_cases (by omega) hv with ⟨h1, hv⟩ | ⟨h1, rfl⟩ | ⟨h1, hv⟩
    · rcases putIn_cases (by rw [r.len]; exact ht) hy with ⟨_, hy⟩ | ⟨h2, _⟩ | ⟨h2, _⟩
      · exact hr' j v ys hv hy
      · omega
      · omega
    · rcases putIn_cases (by rw [r.len]; exact ht) hy with ⟨h2, _⟩ | ⟨_, rfl⟩ | ⟨h2, _⟩
      · omega
      · exact hu'.mono b.size
      · omega
    · rcases putIn_cases (by rw [r.len]; exact ht) hy with ⟨h2, _⟩ | ⟨h2, _⟩ | ⟨_, hy⟩
      · omega
      · omega
      · exact hr' (j - 1) v ys hv hy
  · have old : ∀ k x, us[k]? = some x → blockOf x = some b' → b' < s := fun k x hx hb => (r.block hx hb).2.1
    rcases putIn_cases (by omega) hv with ⟨h1, hw⟩ | ⟨h1, rfl⟩ | ⟨h1, hw⟩ <;> rcases putIn_cases (by omega) hv' with ⟨h2, hw'⟩ | ⟨h2, rfl⟩ | ⟨h2, hw'⟩
    · exact r.apart i j v v' b' hij hw hw' hb hb'
    · have := old _ _ hw hb; have := (hu.block hb').1; omega
    · exact r.apart i (j - 1) v v' b' (by omega) hw hw' hb hb'
    · have := old _ _ hw' hb'; have := (hu.block hb).1; omega
    · omega
    · have := old _ _ hw' hb'; have := (hu.block hb).1; omega
    · exact r.apart (i - 1) j v v' b' (by omega) hw hw' hb hb'
    · have := old _ _ hw hb; have := (hu.block hb').1; omega
    · exact r.apart (i - 1) (j - 1) v v' b' (by omega) hw hw' hb hb'
  · obtain rfl := (Addr.mk.inj (Option.some.inj hge)).1
    have := hlt j v b' hv hb
    omega
/-- The same, where the list may lie in its old block. -/
theorem OwnInts.apart {l' h' : Nat} {u : Value} {xs : List Int} (s : OwnInts w l h e u xs) (m : Mv w w' l' h') (hd : ∀ b, blockOf u = some b → b < l' ∨ h' ≤ b) : OwnInts w' l h e u xs :=
  s.imp fun ad n cap hn hu r => by
    obtain ⟨g', rfl, h1, h2, r'⟩ := r.tight hn
    subst hu
    have hn' : n ≠ 0 := by omega
    exact ((r'.mv m (by have := hd g' (by simp [blockOf, hn']); omega)).lo h1).mono (by omega)
theorem Grid.insertG {e1 : TypeId} {ad : Option Addr} {xss : List (List Int)} {u : Value} {xs : List Int} {s h2 t cap' : Nat} (r : Grid w l s e e1 ad n cap us xss) (hu : OwnInts w s h2 e u xs) (ht : t ≤ n) (o : RowV w' g (g + 1) e1 (some ⟨g, 0, none⟩) (n + 1) cap' (putIn t u us)) (p : Put w w' l s ad g) (hls : l ≤ s) (hl : l ≤ w.heap.size) :
    Grid w' l w'.heap.size e e1 (some ⟨g, 0, none⟩) (n + 1) cap' (putIn t u us) (putIn t xs xss) := by
  rcases p with ⟨rfl, g1, g2, g3, m⟩ | ⟨hg, b⟩
  · have hul := r.out.len
    have hsz := m.size
    have hub : ∀ b, blockOf u = some b → s ≤ b ∧ b < w.heap.size := fun b hb => ⟨(hu.block hb).1, (hu.block hb).2.2⟩
    have hu' : OwnInts w' l w'.heap.size e u xs := (((hu.lt).apart m fun b hb => by have := hub b hb; omega).lo hls).mono hsz
    have hr' : ∀ j v ys, us[j]? = some v → xss[j]? = some ys → OwnInts w' l w'.heap.size e v ys := fun j v ys hv hy => (((r.rows j v ys hv hy).lt).apart m fun b hb => by have := r.away j v b g hv hb rfl; omega).mono hsz
    refine ⟨(o.lo g1).mono (by omega), by rw [putIn_len _ (by rw [r.len]; exact ht), r.len], fun j v ys hv hy => ?_, fun i j v v' b' hij hv hv' hb hb' => ?_, fun j v b' g' hv hb hge => ?_⟩
    · rcases putIn_cases (by omega) hv with ⟨h1, hv⟩ | ⟨h1, rfl⟩ | ⟨h1, hv⟩
      · rcases putIn_cases (by rw [r.len]; exact ht) hy with ⟨_, hy⟩ | ⟨h2, _⟩ | ⟨h2, _⟩
        · exact hr' j v ys hv hy
        · omega
        · omega
      · rcases putIn_cases (by rw [r.len]; exact ht) hy with ⟨h2, _⟩ | ⟨_, rfl⟩ | ⟨h2, _⟩
        · omega
        · exact hu'
        · omega
      · rcases putIn_cases (by rw [r.len]; exact ht) hy with ⟨h2, _⟩ | ⟨h2, _⟩ | ⟨_, hy⟩
        · omega
        · omega
        · exact hr' (j - 1) v ys hv hy
    · have old : ∀ k x, us[k]? = some x → blockOf x = some b' → b' < s := fun k x hx hb => (r.block hx hb).2.1
      rcases putIn_cases (by omega) hv with ⟨h1, hw⟩ | ⟨h1, rfl⟩ | ⟨h1, hw⟩ <;> rcases putIn_cases (by omega) hv' with ⟨h2, hw'⟩ | ⟨h2, rfl⟩ | ⟨h2, hw'⟩
      · exact r.apart i j v v' b' hij hw hw' hb hb'
      · have := old _ _ hw hb; have := (hu.block hb').1; omega
      · exact r.apart i (j - 1) v v' b' (by omega) hw hw' hb hb'
      · have := old _ _ hw' hb'; have := (hu.block hb).1; omega
      · omega
      · have := old _ _ hw' hb'; have := (hu.block hb).1; omega
      · exact r.apart (i - 1) j v v' b' (by omega) hw hw' hb hb'
      · have := old _ _ hw hb; have := (hu.block hb').1; omega
      · exact r.apart (i - 1) (j - 1) v v' b' (by omega) hw hw' hb hb'
    · obtain rfl := (Addr.mk.inj (Option.some.inj hge)).1
      rcases putIn_cases (by omega) hv with ⟨_, hv⟩ | ⟨_, rfl⟩ | ⟨_, hv⟩
      · exact r.away _ _ _ _ hv hb rfl
      · have := hub _ hb; omega
      · exact r.away _ _ _ _ hv hb rfl
  · obtain ⟨_, _, h9⟩ : ∃ _ : g < w'.heap.size, ∃ _ : True, True := ⟨by have := o.lt; obtain ⟨_, e', _, h'⟩ := this.pos (by omega); obtain rfl := (Addr.mk.inj (Option.some.inj e')).1; exact h', trivial, trivial⟩
    exact Grid.insert r hu ht ((o.lo hg).mono (by omega)) b hls hl
end
/-- All rows the call's own. -/
theorem Grid.mix {w : World} {l h g : Nat} {e e1 : TypeId} {n cap : Nat} {us : List Value} {xss : List (List Int)} (r : Grid w l h e e1 (some ⟨g, 0, none⟩) n cap us xss) : Mix w l h e e1 g n cap us xss (fun _ => True) :=
  ⟨r.out, r.len, fun j u xs _ hu hx => r.rows j u xs hu hx, fun _ _ _ ho => absurd trivial ho, fun i j u v b hij _ _ hu hv hb => r.apart i j u v b hij hu hv hb, fun j u b _ hu hb => r.away j u b g hu hb rfl⟩
theorem Mix.grid {w : World} {l h g : Nat} {e e1 : TypeId} {n cap : Nat} {us : List Value} {xss : List (List Int)} {own : Nat → Prop} (r : Mix w l h e e1 g n cap us xss own) (ho : ∀ j, j < n → own j) : Grid w l h e e1 (some ⟨g, 0, none⟩) n cap us xss :=
  ⟨r.out, r.len, fun j u xs hu hx => r.mine j u xs (ho j (r.lt_n hu)) hu hx, fun i j u v b hij hu hv hb => r.apart i j u v b hij (ho i (r.lt_n hu)) (ho j (r.lt_n hv)) hu hv hb, fun j u b g' hu hb hg => by
    obtain rfl := (Addr.mk.inj (Option.some.inj hg)).1
    exact r.away j u b (ho j (r.lt_n hu)) hu hb⟩
end Go.Proofs.YtefcfeikooknmaaGreat.Seq
