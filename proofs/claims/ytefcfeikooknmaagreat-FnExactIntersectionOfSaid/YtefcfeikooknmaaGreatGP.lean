/-
  Subspaces: spans, sums, orthogonal spaces, intersections; what the laws of chapter 9 ask of them. No program.
  Subspaces, of the model: spans, sums.
  Subspaces, of the model: coordinates, innovation.
  Subspaces, of the model: orthogonal spaces, intersections.
  What the laws of chapter 9 ask of the program's functions; and the model's contracts as the exact laws take them.
-/
import Derived.Test.YtefcfeikooknmaaGreatGM
import Derived.Test.YtefcfeikooknmaaGreatGE
namespace Go.Proofs.YtefcfeikooknmaaGreat.Bas
open Go.Proofs.YtefcfeikooknmaaGreat.Field Go.Proofs.YtefcfeikooknmaaGreat.Vec Go.Proofs.YtefcfeikooknmaaGreat.Mat Go.Proofs.YtefcfeikooknmaaGreat.MatP Go.Proofs.YtefcfeikooknmaaGreat.Lin Go.Proofs.YtefcfeikooknmaaGreat.Rref Go.Proofs.YtefcfeikooknmaaGreat.SolP Go.Proofs.YtefcfeikooknmaaGreat.RedW Go.Proofs.YtefcfeikooknmaaGreat.RedP

abbrev Bas2 := Int × List (List Int)
/-- Two valid bases of one width. -/
noncomputable def pair (a b : Bas2) : Bool := (isBas a.1 a.2 && isBas b.1 b.2) && (a.1 == b.1)
/-- Vectors inserted one after another. -/
noncomputable def spanL (W : Int) (rows vs : List (List Int)) : List (List Int) := vs.foldl (fun r v => insertV W r v) rows
noncomputable def spanOf (vs : List (List Int)) (W : Int) : Bas2 := (bif inW W then W else 0, bif inW W then spanL W [] vs else [])
noncomputable def sumOf (a b : Bas2) : Bas2 := (a.1, bif pair a b then spanL a.1 a.2 b.2 else a.2)
noncomputable def subOf (a b : Bas2) : Bool := pair a b && a.2.all (fun r => contains b.1 b.2 r)
noncomputable def orthOf (b : Bas2) : Bas2 := bif isBas b.1 b.2 then spanOf (bif decide (b.2.length = 0) then identity b.1 else nullOf b.2) b.1 else (0, [])
noncomputable def interOf (a b : Bas2) : Bas2 := bif pair a b then orthOf (sumOf (orthOf a) (orthOf b)) else (0, [])
/-- The components of a vector in the columns of the pivots. -/
def coordL (rows : List (List Int)) (v : List Int) : List Int := rows.map fun r => v[(Vec.lead r).toNat]?.getD 0
noncomputable def coordsOf (b : Bas2) (v : List Int) : List Int := bif contains b.1 b.2 v then coordL b.2 v else []
noncomputable def innovOf (a b : Bas2) : Int := bif pair a b then dimOf (sumOf a b).1 (sumOf a b).2 - dimOf a.1 a.2 else 0

variable {W : Int} {rows rows' : List (List Int)} {w n n' : Nat} {R R' : Nat → V} {p p' : Nat → Nat}
/-- Rows are told by what they span. -/
theorem Form.same (h : Form W rows w n R p) (h' : Form W rows' w n' R' p') (h1 : ∀ i, i < n → Span n' R' (R i)) (h2 : ∀ i, i < n' → Span n R (R' i)) : rows = rows' := by
  obtain ⟨rfl, _, hR⟩ := Red.uniq invF invF_ok h.red h'.red h1 h2
  rw [h.rows, h'.rows]
  exact mk_congr fun i j hi _ => by rw [hR i hi]
/-- What lies behind an insertion. -/
theorem insert_span (h : Form W rows w n R p) (v : List Int) : ∃ n' R' p', Form W (insertV W rows v) w n' R' p' ∧ (∀ i, i < n → Span n' R' (R i)) ∧ (isVec v = true → v.length = w → Span n' R' (toV v)) ∧
    ∀ (m : Nat) (S : Nat → V), (∀ i, i < n → Span m S (R i)) → (isVec v = true → v.length = w → Span m S (toV v)) → ∀ i, i < n' → Span m S (R' i) := by
  cases hF : fits W rows v
  · have hI : inserted W rows v = false := by unfold inserted; rw [hF]; rfl
    rw [insertV_no hI]
    refine ⟨n, R, p, h, fun i hi => span_mem hi, fun h1 h2 => ?_, fun m S hR _ => hR⟩
    rw [fits_iff.2 ⟨h.bas, h1, by rw [h2, h.width]⟩] at hF
    cases hF
  · obtain ⟨_, hvv, hvl⟩ := fits_iff.1 hF
    have hlw : v.length = w := by have := h.width; omega
    have hv := toV_vec hvv
    have hs := toV_supp v
    rw [hlw] at hv hs
    cases hI : inserted W rows v
    · have hc : contains W rows v = true := by
        cases e : contains W rows v
        · rw [inserted_iff.2 ⟨hF, e⟩] at hI; cases hI
        · rfl
      rw [insertV_no hI]
      exact ⟨n, R, p, h, fun i hi => span_mem hi, fun _ _ => (contains_iff hF h hv.symm hs).1 hc, fun m S hR _ => hR⟩
    · rcases insert_case hF h hv.symm hs with ⟨_, hno⟩ | ⟨k, t, h1, h2, h3, h4, h5, h6, _, hV⟩
      · rw [hno] at hI; cases hI
      obtain ⟨n', R', p', hf', hn', hR', hx'⟩ := after hF h hv.symm hs
      rw [hI, if_pos rfl] at hn'
      subst hn'
      refine ⟨n + 1, R', p', hf', hR', fun _ _ => hx', fun m S hR hX i hi => ?_⟩
      -- the rows of the new basis are the cleared ones
      have e : mk (n + 1) w R' = mk (n + 1) w (cleared invF (ins t R (rdc n R p (toV v))) t t k) := hf'.rows.symm.trans hV
      have ht : t < n + 1 := by omega
      have hM : ∀ l, l < n + 1 → Span m S (ins t R (rdc n R p (toV v)) l) := fun l hl => by
        by_cases e1 : l = t
        · rw [e1, ins_at]
          exact span_add (hX hvv hlw) (span_lin hR _) _
        · by_cases e2 : l < t
          · rw [ins_lt _ _ e2]; exact hR l (by omega)
          · rw [ins_gt _ _ (show t < l by omega)]; exact hR (l - 1) (by omega)
      have hys : Supp w (rdc n R p (toV v)) := fun j hj => by
        unfold rdc
        rw [hs j hj]
        have : lin n R (fun i => toV v (p i)) j = 0 := sum_zero fun i hi => by rw [h.supp i hi j hj]; grind
        rw [this]; grind
      have hCs : Supp w (cleared invF (ins t R (rdc n R p (toV v))) t t k i) := supp_span (fun l hl => by
        by_cases e1 : l = t
        · rw [e1, ins_at]; exact hys
        · by_cases e2 : l < t
          · rw [ins_lt _ _ e2]; exact h.supp l (by omega)
          · rw [ins_gt _ _ (show t < l by omega)]; exact h.supp (l - 1) (by omega)) (cleared_in invF _ k ht ht i hi)
      have eR : R' i = cleared invF (ins t R (rdc n R p (toV v))) t t k i := by
        have := congrArg (fun L : List (List Int) => Rref.ent L i) e
        rwa [ent_red hi (hf'.supp i hi), ent_red hi hCs] at this
      rw [eR]
      exact span_trans (T := ins t R (rdc n R p (toV v))) hM (cleared_in invF _ k ht ht i hi)
theorem spanL_form : ∀ (vs : List (List Int)) {rows : List (List Int)} {n : Nat} {R : Nat → V} {p : Nat → Nat}, Form W rows w n R p → ∃ n' R' p', Form W (spanL W rows vs) w n' R' p' ∧ (∀ i, i < n → Span n' R' (R i)) ∧
    (∀ v ∈ vs, isVec v = true → v.length = w → Span n' R' (toV v)) ∧
    ∀ (m : Nat) (S : Nat → V), (∀ i, i < n → Span m S (R i)) → (∀ v ∈ vs, isVec v = true → v.length = w → Span m S (toV v)) → ∀ i, i < n' → Span m S (R' i)
  | [], rows, n, R, p, h => ⟨n, R, p, h, fun i hi => span_mem hi, fun v hv => by simp at hv, fun m S hR _ => hR⟩
  | v :: vs, rows, n, R, p, h => by
    obtain ⟨n1, R1, p1, f1, a1, b1, c1⟩ := insert_span h v
    obtain ⟨n2, R2, p2, f2, a2, b2, c2⟩ := spanL_form vs f1
    refine ⟨n2, R2, p2, f2, fun i hi => span_trans a2 (a1 i hi), fun u hu h1 h2 => ?_, fun m S hR hX => c2 m S (c1 m S hR (hX v (by simp))) fun u hu => hX u (by simp [hu])⟩
    rcases List.mem_cons.1 hu with rfl | hu
    · exact span_trans a2 (b1 h1 h2)
    · exact b2 u hu h1 h2
/-- Spans of vectors that are all of the width. -/
theorem spanL_vecs (h : Form W rows w n R p) {m : Nat} {T : Nat → V} (hT : ∀ i, i < m → Supp w (T i)) : ∃ n' R' p', Form W (spanL W rows (mk m w T)) w n' R' p' ∧ (∀ i, i < n → Span n' R' (R i)) ∧ (∀ i, i < m → Span n' R' (T i)) ∧
    ∀ (q : Nat) (S : Nat → V), (∀ i, i < n → Span q S (R i)) → (∀ i, i < m → Span q S (T i)) → ∀ i, i < n' → Span q S (R' i) := by
  obtain ⟨n', R', p', f, a, b, c⟩ := spanL_form (mk m w T) h
  refine ⟨n', R', p', f, a, fun i hi => ?_, fun q S hR hX => c q S hR fun v hv _ _ => ?_⟩
  · have := b (vec w (T i)) (List.mem_of_getElem? (mk_get T hi)) (isVec_vec _ h.small) (vec_len _ _)
    rwa [toV_of (hT i hi)] at this
  · obtain ⟨i, hi, rfl⟩ := List.mem_map.1 hv
    have hi := List.mem_range.1 hi
    rw [toV_of (hT i hi)]
    exact hX i hi

/-! orthogonal spaces -/
/-- Orthogonal to rows. -/
def Orth (w n : Nat) (R : Nat → V) (x : V) : Prop := Supp w x ∧ ∀ k, k < n → dotw w (R k) x = 0
theorem span_orth {m : Nat} {S : Nat → V} (hS : ∀ i, i < m → Orth w n R (S i)) {x : V} (hx : Span m S x) : Orth w n R x := by
  refine ⟨supp_span (fun i hi => (hS i hi).1) hx, fun k hk => ?_⟩
  obtain ⟨c, rfl⟩ := hx
  rw [dotw_comm, dotw_lin, sum_zero fun i hi => by rw [dotw_comm, (hS i hi).2 k hk]; grind]
theorem nul_orth (h : Form W rows w n R p) {f : Nat} (hf : f < w) : Orth w n R (nul n R p f) := by
  refine ⟨fun j hj => ?_, fun k hk => h.red.nul_dot hf hk⟩
  unfold nul
  rw [ind_ne (show j ≠ f by omega)]
  have : lin n (fun i => ind (p i)) (fun i => R i f) j = 0 := sum_zero fun i hi => by
    have := h.red.lt i hi
    dsimp only
    rw [ind_ne (show j ≠ p i by omega)]; grind
  rw [this]; grind
/-- The list that OrthogonalSpace spans: a basis of the orthogonal space. -/
theorem orth_list (h : Form W rows w n R p) : ∃ T : Nat → V, (bif decide (rows.length = 0) then identity W else nullOf rows) = mk (w - n) w T ∧ Indep (w - n) T ∧ (∀ i, i < w - n → Orth w n R (T i)) ∧ ∀ x, Orth w n R x → Span (w - n) T x := by
  have hl := h.len
  rcases Nat.eq_zero_or_pos n with h0 | h0
  · subst h0
    rw [decide_eq_true hl, h.width]
    refine ⟨fun i => ind i, by rw [cond_true, identity_mk h.small]; exact mk_congr fun i j _ _ => rfl, fun c hc i hi => ?_, fun i hi => ⟨fun j hj => ind_ne (by omega), fun k hk => by omega⟩, fun x hx => ⟨x, ?_⟩⟩
    · have := hc i
      unfold lin at this
      rw [sum_one hi fun k hk hne => by dsimp only; rw [ind_ne (fun e => hne e.symm)]; grind] at this
      dsimp only at this
      rw [ind_same] at this
      grind
    · funext j
      unfold lin
      by_cases hj : j < w
      · rw [sum_one (show j < w - 0 from hj) fun k hk hne => by dsimp only; rw [ind_ne (fun e => hne e.symm)]; grind]
        dsimp only
        rw [ind_same]; grind
      · rw [hx.1 j (by omega)]
        exact (sum_zero fun k hk => by
          dsimp only
          rw [ind_ne (show j ≠ k by omega)]; grind).symm
  · rw [decide_eq_false (by omega), cond_false, nullOf_is h.isMat (h.dec h0), h.cols h0]
    obtain ⟨e, h1, h2, h3, h4, h5⟩ := h.red.null
    -- the free columns in order
    have hfl : (freeCols n p w).length = w - n := by unfold freeCols; rw [filter_cnt, h.red.count_free]
    refine ⟨fun t => nul n R p ((freeCols n p w)[t]?.getD 0), ?_, ?_, fun i hi => ?_, fun x hx => ?_⟩
    · unfold SolP.nulls MatP.mk
      apply List.ext_getElem?
      intro t
      rw [List.getElem?_map, List.getElem?_map]
      by_cases ht : t < w - n
      · rw [List.getElem?_range ht]
        have : (freeCols n p w)[t]? = some (freeCols n p w)[t] := List.getElem?_eq_getElem (by omega)
        simp [this]
      · rw [List.getElem?_eq_none (by omega), List.getElem?_eq_none (by simp; omega)]; rfl
    · intro c hc t ht
      have hlt : t < (freeCols n p w).length := by omega
      have hm : ∀ s, s < w - n → isPiv n p ((freeCols n p w)[s]?.getD 0) = false := fun s hs => by
        have h7 : (freeCols n p w)[s]? = some (freeCols n p w)[s] := List.getElem?_eq_getElem (by omega)
        rw [h7, Option.getD_some]
        have h8 : (freeCols n p w)[s] ∈ freeCols n p w := List.getElem_mem (by omega)
        have h9 := (List.mem_filter.1 (show (freeCols n p w)[s] ∈ (List.range w).filter fun j => !isPiv n p j from h8)).2
        simpa using h9
      have hnd : (freeCols n p w).Nodup := by unfold freeCols; exact List.Pairwise.filter _ List.nodup_range
      have hne : ∀ s, s < w - n → s ≠ t → (freeCols n p w)[t]?.getD 0 ≠ (freeCols n p w)[s]?.getD 0 := fun s hs hst he => by
        have h7 : (freeCols n p w)[s]? = some (freeCols n p w)[s] := List.getElem?_eq_getElem (by omega)
        have h8 : (freeCols n p w)[t]? = some (freeCols n p w)[t] := List.getElem?_eq_getElem hlt
        rw [h7, h8, Option.getD_some, Option.getD_some] at he
        exact hst ((List.getElem_inj hnd).1 he.symm)
      have h9 := hc ((freeCols n p w)[t]?.getD 0)
      unfold lin at h9
      rw [sum_one ht fun s hs hst => by
        dsimp only
        rw [nul_free (hm t ht), ind_ne (hne s hs hst)]; grind] at h9
      dsimp only at h9
      rw [nul_free (hm t ht), ind_same] at h9
      grind
    · have h7 : (freeCols n p w)[i]? = some (freeCols n p w)[i] := List.getElem?_eq_getElem (by omega)
      have h8 : (freeCols n p w)[i] ∈ freeCols n p w := List.getElem_mem (by omega)
      unfold freeCols at h8
      dsimp only
      rw [h7, Option.getD_some]
      exact nul_orth h (List.mem_range.1 (List.mem_filter.1 h8).1)
    · -- the family of Red.null lies in ours
      have h6 : x = lin (w - n) (fun t => nul n R p (e t)) (fun t => x (e t)) := by
        funext j
        by_cases hj : j < w
        · exact h5 x hx.1 hx.2 j hj
        · rw [hx.1 j (by omega)]
          exact (sum_zero fun t ht => by dsimp only; rw [(nul_orth h (h1 t ht).1).1 j (by omega)]; grind).symm
      rw [h6]
      refine span_lin (fun t ht => ?_) _
      have h8 : e t ∈ freeCols n p w := by
        unfold freeCols
        rw [List.mem_filter, List.mem_range]
        exact ⟨(h1 t ht).1, by rw [(h1 t ht).2]; rfl⟩
      obtain ⟨s, hs⟩ := List.mem_iff_getElem?.1 h8
      have hsl : s < w - n := by have := (List.getElem?_eq_some_iff.1 hs).1; omega
      have := span_mem (S := fun t => nul n R p ((freeCols n p w)[t]?.getD 0)) hsl
      rwa [hs, Option.getD_some] at this
theorem inW_form (h : Form W rows w n R p) : inW W = true := inW_iff.2 (by have := h.width; have := h.small; omega)
/-- The orthogonal space of a valid basis. -/
theorem orth_form (h : Form W rows w n R p) : ∃ R' p', Form W (orthOf (W, rows)).2 w (w - n) R' p' ∧ (orthOf (W, rows)).1 = W ∧ ∀ x, Span (w - n) R' x ↔ Orth w n R x := by
  obtain ⟨T, eT, hI, hO, hS⟩ := orth_list h
  have e1 : orthOf (W, rows) = (W, spanL W [] (mk (w - n) w T)) := by
    unfold orthOf spanOf
    show (bif isBas W rows then _ else _) = _
    rw [h.bas, cond_true]
    show (bif inW W then W else 0, bif inW W then spanL W [] (bif decide (rows.length = 0) then identity W else nullOf rows) else []) = _
    rw [inW_form h, cond_true, cond_true, eT]
  rw [e1]
  have hW := h.width
  subst hW
  obtain ⟨n', R', p', f, _, b, c⟩ := spanL_vecs (form_nil h.small) (T := T) (m := w - n) fun i hi => (hO i hi).1
  have hin : ∀ i, i < n' → Span (w - n) T (R' i) := c _ _ (fun i hi => by omega) fun i hi => span_mem hi
  have hn : n' = w - n := Nat.le_antisymm (exchange invF invF_ok _ _ T R' f.red.indep hin) (exchange invF invF_ok _ _ R' T hI b)
  subst hn
  refine ⟨R', p', f, rfl, fun x => ⟨fun hx => span_orth (fun i hi => ?_) hx, fun hx => span_trans b (hS x hx)⟩⟩
  exact span_orth hO (hin i hi)
theorem back (h : Form W rows w n R p) {x : V} (hs : Supp w x) : Span n R x ↔ ∀ y, Orth w n R y → dotw w x y = 0 := by
  constructor
  · rintro ⟨c, rfl⟩ y hy
    rw [dotw_lin, sum_zero fun i hi => by rw [hy.2 i hi]; grind]
  · intro hx
    refine ⟨fun i => x (p i), funext fun j => ?_⟩
    by_cases hj : j < w
    · exact h.red.orth_back (fun f hf _ => hx _ (nul_orth h hf)) j hj
    · rw [hs j (by omega)]
      exact (sum_zero fun i hi => by rw [h.supp i hi j (by omega)]; grind).symm
/-- The orthogonal space of the orthogonal space. -/
theorem orth_twice (h : Form W rows w n R p) : orthOf (orthOf (W, rows)) = (W, rows) := by
  obtain ⟨R1, p1, f1, e1, s1⟩ := orth_form h
  obtain ⟨R2, p2, f2, e2, s2⟩ := orth_form f1
  have e3 : orthOf (W, rows) = (W, (orthOf (W, rows)).2) := Prod.ext e1 rfl
  rw [← e3] at f2 e2
  refine Prod.ext e2 ?_
  refine f2.same h (fun i hi => ?_) fun i hi => ?_
  · have h1 := (s2 (R2 i)).1 (span_mem hi)
    refine (back h h1.1).2 fun y hy => ?_
    obtain ⟨c, rfl⟩ := (s1 y).2 hy
    rw [dotw_comm, dotw_lin, sum_zero fun k hk => by rw [h1.2 k hk]; grind]
  · refine (s2 _).2 ⟨h.supp i hi, fun k hk => ?_⟩
    have := ((s1 (R1 k)).1 (span_mem hk)).2 i hi
    rw [dotw_comm]; exact this

/-! sums and intersections -/
variable {a b : List (List Int)} {na nb : Nat} {A B : Nat → V} {pa pb : Nat → Nat}
theorem pair_form (ha : Form W a w na A pa) (hb : Form W b w nb B pb) : pair (W, a) (W, b) = true := by
  unfold pair
  show ((isBas W a && isBas W b) && (W == W)) = true
  rw [ha.bas, hb.bas]; simp
theorem sum_form (ha : Form W a w na A pa) (hb : Form W b w nb B pb) : ∃ s S ps, Form W (sumOf (W, a) (W, b)).2 w s S ps ∧ (sumOf (W, a) (W, b)).1 = W ∧ (∀ i, i < na → Span s S (A i)) ∧ (∀ i, i < nb → Span s S (B i)) ∧
    ∀ (q : Nat) (T : Nat → V), (∀ i, i < na → Span q T (A i)) → (∀ i, i < nb → Span q T (B i)) → ∀ i, i < s → Span q T (S i) := by
  have e : sumOf (W, a) (W, b) = (W, spanL W a (mk nb w B)) := by
    unfold sumOf
    rw [pair_form ha hb, cond_true, ← hb.rows]
  rw [e]
  obtain ⟨s, S, ps, f, h1, h2, h3⟩ := spanL_vecs ha (T := B) (m := nb) hb.supp
  exact ⟨s, S, ps, f, rfl, h1, h2, h3⟩
theorem inter_form (ha : Form W a w na A pa) (hb : Form W b w nb B pb) : ∃ i I pi, Form W (interOf (W, a) (W, b)).2 w i I pi ∧ (interOf (W, a) (W, b)).1 = W ∧ ∀ x, Span i I x ↔ Span na A x ∧ Span nb B x := by
  obtain ⟨A1, pa1, fa, ea, sa⟩ := orth_form ha
  obtain ⟨B1, pb1, fb, eb, sb⟩ := orth_form hb
  obtain ⟨s, S, ps, fs, es, h1, h2, h3⟩ := sum_form fa fb
  obtain ⟨I, pi, fi, ei, si⟩ := orth_form fs
  have e1 : orthOf (W, a) = (W, (orthOf (W, a)).2) := Prod.ext ea rfl
  have e2 : orthOf (W, b) = (W, (orthOf (W, b)).2) := Prod.ext eb rfl
  rw [← e1, ← e2] at fs es fi ei
  have e3 : sumOf (orthOf (W, a)) (orthOf (W, b)) = (W, (sumOf (orthOf (W, a)) (orthOf (W, b))).2) := Prod.ext es rfl
  have e : interOf (W, a) (W, b) = orthOf (sumOf (orthOf (W, a)) (orthOf (W, b))) := by
    unfold interOf
    rw [pair_form ha hb, cond_true]
  rw [← e3, ← e] at fi ei
  refine ⟨w - s, I, pi, fi, ei, fun x => ?_⟩
  rw [si]
  constructor
  · intro hx
    have hd : ∀ y, Span s S y → dotw w x y = 0 := fun y hy => by
      obtain ⟨c, rfl⟩ := hy
      rw [dotw_comm, dotw_lin, sum_zero fun k hk => by rw [hx.2 k hk]; grind]
    exact ⟨(back ha hx.1).2 fun y hy => hd y (span_trans h1 ((sa y).2 hy)), (back hb hx.1).2 fun y hy => hd y (span_trans h2 ((sb y).2 hy))⟩
  · rintro ⟨hxa, hxb⟩
    have hs : Supp w x := supp_span ha.supp hxa
    refine ⟨hs, fun k hk => ?_⟩
    -- S k is a sum of something orthogonal to a and something orthogonal to b
    have h4 := h3 (w - na + (w - nb)) (fun k => if k < w - na then A1 k else B1 (k - (w - na))) (fun i hi => by
        have := span_mem (S := fun k => if k < w - na then A1 k else B1 (k - (w - na))) (show i < w - na + (w - nb) by omega)
        rwa [if_pos hi] at this) (fun i hi => by
        have := span_mem (S := fun k => if k < w - na then A1 k else B1 (k - (w - na))) (show w - na + i < w - na + (w - nb) by omega)
        rwa [if_neg (show ¬ w - na + i < w - na by omega), show w - na + i - (w - na) = i by omega] at this) k hk
    obtain ⟨c, hc⟩ := h4
    rw [hc, dotw_lin]
    refine sum_zero fun i hi => ?_
    by_cases h5 : i < w - na
    · rw [if_pos h5, dotw_comm, (back ha hs).1 hxa _ ((sa _).1 (span_mem h5))]; grind
    · rw [if_neg h5, dotw_comm, (back hb hs).1 hxb _ ((sb _).1 (span_mem (show i - (w - na) < w - nb by omega)))]; grind
theorem dims_add {s i : Nat} {S I : Nat → V} {ps pi : Nat → Nat} {rs ri : List (List Int)} (ha : Form W a w na A pa) (hb : Form W b w nb B pb) (hs : Form W rs w s S ps) (hi : Form W ri w i I pi) (h1 : ∀ k, k < na → Span s S (A k)) (h2 : ∀ k, k < nb → Span s S (B k))
    (h3 : ∀ (q : Nat) (T : Nat → V), (∀ i, i < na → Span q T (A i)) → (∀ i, i < nb → Span q T (B i)) → ∀ i, i < s → Span q T (S i)) (h4 : ∀ x, Span i I x ↔ Span na A x ∧ Span nb B x) : s + i = na + nb :=
  dims invF invF_ok ha.red.indep hb.red.indep hs.red.indep hi.red.indep ha.supp hb.supp h1 h2
    (h3 _ _ (fun k hk => by
      have := span_mem (S := fun k => if k < na then A k else B (k - na)) (show k < na + nb by omega)
      rwa [if_pos hk] at this) fun k hk => by
      have := span_mem (S := fun k => if k < na then A k else B (k - na)) (show na + k < na + nb by omega)
      rwa [if_neg (show ¬ na + k < na by omega), show na + k - na = k by omega] at this)
    (fun r hr => ((h4 _).1 (span_mem hr)).1) (fun r hr => ((h4 _).1 (span_mem hr)).2) fun v hva hvb => (h4 v).2 ⟨hva, hvb⟩
theorem sub_iff (ha : Form W a w na A pa) (hb : Form W b w nb B pb) : subOf (W, a) (W, b) = true ↔ ∀ i, i < na → Span nb B (A i) := by
  unfold subOf
  rw [pair_form ha hb, Bool.true_and, List.all_eq_true]
  show (∀ r ∈ a, contains W b r = true) ↔ _
  constructor
  · intro h i hi
    exact (hb.has (ha.supp i hi)).1 (h _ (List.mem_of_getElem? (ha.get hi)))
  · intro h r hr
    rw [ha.rows] at hr
    obtain ⟨i, hi, rfl⟩ := List.mem_map.1 hr
    have hi := List.mem_range.1 hi
    exact (hb.has (ha.supp i hi)).2 (h i hi)
theorem dim_form (h : Form W rows w n R p) : dimOf W rows = n := by
  unfold dimOf
  rw [h.bas, cond_true, h.len]
/-- What FnSubspaces asks. -/
theorem sub_law (ha : Form W a w na A pa) (hb : Form W b w nb B pb) :
    let s := sumOf (W, a) (W, b); let i := interOf (W, a) (W, b)
    dimOf s.1 s.2 + dimOf i.1 i.2 = dimOf W a + dimOf W b ∧ subOf (W, a) s = true ∧ subOf (W, b) s = true ∧ subOf i (W, a) = true ∧ subOf i (W, b) = true ∧ s = sumOf (W, b) (W, a) ∧
    innovOf (W, a) (W, b) = dimOf s.1 s.2 - dimOf W a ∧ (subOf (W, a) (W, b) = true ↔ innovOf (W, b) (W, a) = 0) := by
  obtain ⟨s, S, ps, fs, es, h1, h2, h3⟩ := sum_form ha hb
  obtain ⟨s', S', ps', fs', es', h1', h2', h3'⟩ := sum_form hb ha
  obtain ⟨i, I, pi, fi, ei, hi⟩ := inter_form ha hb
  have e1 : sumOf (W, a) (W, b) = (W, (sumOf (W, a) (W, b)).2) := Prod.ext es rfl
  have e2 : sumOf (W, b) (W, a) = (W, (sumOf (W, b) (W, a)).2) := Prod.ext es' rfl
  have e3 : interOf (W, a) (W, b) = (W, (interOf (W, a) (W, b)).2) := Prod.ext ei rfl
  have ed := dims_add ha hb fs fi h1 h2 h3 hi
  dsimp only
  rw [e1, e2, e3]
  refine ⟨?_, (sub_iff ha fs).2 h1, (sub_iff hb fs).2 h2, (sub_iff fi ha).2 fun k hk => ((hi _).1 (span_mem hk)).1, (sub_iff fi hb).2 fun k hk => ((hi _).1 (span_mem hk)).2, ?_, ?_, ?_⟩
  · rw [dim_form fs, dim_form fi, dim_form ha, dim_form hb]; omega
  · exact Prod.ext rfl (fs.same fs' (h3 _ _ h2' h1') (h3' _ _ h2 h1))
  · unfold innovOf
    rw [pair_form ha hb, cond_true, es]
  · rw [sub_iff ha hb]
    have e4 : innovOf (W, b) (W, a) = (s' : Int) - nb := by
      unfold innovOf
      rw [pair_form hb ha, cond_true, es', dim_form fs', dim_form hb]
    rw [e4]
    constructor
    · intro h
      have h5 := exchange invF invF_ok nb s' B S' fs'.red.indep (h3' _ _ (fun k hk => span_mem hk) h)
      have h6 := exchange invF invF_ok s' nb S' B hb.red.indep h1'
      omega
    · intro h k hk
      -- as many rows: b spans the sum
      have hn : s' = nb := by omega
      have h5 : ∀ j, j < s' → Span nb B (S' j) := fun j hj => Classical.byContradiction fun hne => by
        have hI := indep_more hb hne
        have h6 := exchange invF invF_ok s' (nb + 1) S' _ hI fun l hl => by
          by_cases h7 : l < nb
          · rw [if_pos h7]; exact h1' l h7
          · rw [if_neg h7]; exact span_mem hj
        omega
      exact span_trans h5 (h2' k hk)
/-- What FnOrthogonality asks. -/
theorem orth_law (h : Form W rows w n R p) : dimOf (orthOf (W, rows)).1 (orthOf (W, rows)).2 = W - dimOf W rows ∧ orthOf (orthOf (W, rows)) = (W, rows) ∧ ∀ r ∈ rows, ∀ o ∈ (orthOf (W, rows)).2, Vec.dot r o = 0 := by
  obtain ⟨R1, p1, f1, e1, s1⟩ := orth_form h
  refine ⟨?_, orth_twice h, fun r hr o ho => ?_⟩
  · rw [e1, dim_form f1, dim_form h]
    have := h.width
    have := h.red.le
    omega
  · rw [h.rows] at hr
    rw [f1.rows] at ho
    obtain ⟨i, hi, rfl⟩ := List.mem_map.1 hr
    obtain ⟨k, hk, rfl⟩ := List.mem_map.1 ho
    have hi := List.mem_range.1 hi
    have hk := List.mem_range.1 hk
    rw [dot_vec _ _ h.small]
    have := ((s1 (R1 k)).1 (span_mem hk)).2 i hi
    unfold dotw at this
    rw [this]; rfl
/-- What FnCoordinates asks. -/
theorem coords_law (h : Form W rows w n R p) {v : List Int} (hc : contains W rows v = true) (h0 : 0 < n) : (coordL rows v).length = rows.length ∧ combine rows (coordL rows v) = v ∧ spanOf rows W = (W, rows) := by
  have hF : fits W rows v = true := by
    cases e : fits W rows v
    · rw [contains_no e] at hc; cases hc
    · rfl
  obtain ⟨_, hvv, hvl⟩ := fits_iff.1 hF
  have hlw : v.length = w := by have := h.width; omega
  have hv := toV_vec hvv
  have hs := toV_supp v
  rw [hlw] at hv hs
  have hsp := (contains_iff hF h hv.symm hs).1 hc
  have hcl : coordL rows v = vec n fun i => toV v (p i) := by
    unfold coordL vec
    rw [h.rows]
    unfold MatP.mk
    rw [List.map_map]
    refine List.map_congr_left fun i hi => ?_
    have hi := List.mem_range.1 hi
    show v[(Vec.lead (vec w (R i))).toNat]?.getD 0 = _
    rw [h.lead hi, Int.toNat_natCast]
    conv => lhs; rw [← hv]
    rw [vec_get _ (h.red.lt i hi), Option.getD_some]
  have hn40 : n ≤ 40 := by have := h.red.le; have := h.small; omega
  refine ⟨by rw [hcl, vec_len, h.len], ?_, ?_⟩
  · rw [hcl]
    have h1 := combine_ok (h.get h0) h.len (by rw [h.len, vec_len]) (isVec_vec (fun i => toV v (p i)) hn40) fun ys hy => by
      have hy := List.mem_of_mem_take hy
      rw [h.rows] at hy
      obtain ⟨i, _, rfl⟩ := List.mem_map.1 hy
      rw [isVec_vec _ h.small, vec_len, vec_len]; simp
    rw [h1, List.take_of_length_le (by rw [h.len]; exact Nat.le_refl _), List.take_of_length_le (by rw [vec_len]; exact Nat.le_refl _), vec_len, h.rows, combs_mk _ _ h.small]
    refine Eq.trans ?_ hv
    rw [h.red.coeffs hsp]
    exact vec_congr fun j _ => by
      show sum n _ = sum n _
      refine sum_congr fun i hi => ?_
      rw [← h.red.coeffs hsp]
  · have hW := h.width
    subst hW
    obtain ⟨n', R', p', f, _, b, c⟩ := spanL_vecs (form_nil h.small) h.supp
    have e : spanOf rows (w : Int) = ((w : Int), spanL w [] rows) := by
      unfold spanOf
      rw [inW_form h, cond_true, cond_true]
    rw [e]
    refine Prod.ext rfl ?_
    show spanL w [] rows = rows
    rw [← h.rows] at f
    exact f.same h (c _ _ (fun i hi => by omega) fun i hi => span_mem hi) b
end Go.Proofs.YtefcfeikooknmaaGreat.Bas
namespace Go.Proofs.YtefcfeikooknmaaGreat.SubW
open Go.ChangeShapes Go.WideShapes Go.ChangeAt Go.RowKit
open Go.Proofs.YtefcfeikooknmaaGreat.Drawn Go.Proofs.YtefcfeikooknmaaGreat.Seq Go.Proofs.YtefcfeikooknmaaGreat.Help Go.Proofs.YtefcfeikooknmaaGreat.Field Go.Proofs.YtefcfeikooknmaaGreat.FieldW Go.Proofs.YtefcfeikooknmaaGreat.Vec Go.Proofs.YtefcfeikooknmaaGreat.VecW Go.Proofs.YtefcfeikooknmaaGreat.Mat Go.Proofs.YtefcfeikooknmaaGreat.MatW Go.Proofs.YtefcfeikooknmaaGreat.MatP Go.Proofs.YtefcfeikooknmaaGreat.Lin Go.Proofs.YtefcfeikooknmaaGreat.Rref Go.Proofs.YtefcfeikooknmaaGreat.RedW Go.Proofs.YtefcfeikooknmaaGreat.SolP Go.Proofs.YtefcfeikooknmaaGreat.Shape Go.Proofs.YtefcfeikooknmaaGreat.Bas Go.Proofs.YtefcfeikooknmaaGreat.BasW

theorem small_ins {W : Int} {rows : List (List Int)} (v : List Int) (h : Small rows) : Small (insertV W rows v) := BasEx.fit_ins v h
theorem spanL_s {W : Int} {rows vs : List (List Int)} {v : List Int} {j : Nat} (h : vs[j]? = some v) : spanL W rows (vs.take (j + 1)) = insertV W (spanL W rows (vs.take j)) v := by
  unfold spanL
  rw [take_more h, List.foldl_append]; rfl
set_option maxRecDepth 100000 in
set_option maxHeartbeats 3200000 in
theorem spec_span (w : World) {l h : Nat} {ad : Option Addr} {n cap : Nat} {vs : List (List Int)} (s : Sls w l h ad n cap vs) (W : Int) (h0 : -9223372036854775808 ≤ W) (h1 : W ≤ 9223372036854775807) :
    Calls Tryz.prog 38 #[.slice ad n cap, .int .i64 W] w (Ret (fun w l h u => BasisI w l h u (spanOf vs W)) w) := by
  have hbig := s.big
  have hcap := s.le
  unfold maxLen at hbig
  have HL := Lib.hid s.len
  have hR := Blk.new w (.int .i64 0) (.slice none 0 0) 26
  have hb := below_box w (.cells #[.int .i64 0, .slice none 0 0] 26)
  have hz1 : (w.alloc (.cells #[.int .i64 0, .slice none 0 0] 26)).heap.size = w.heap.size + 1 := by simp
  have HN := Lib.hid (spec_new0 (w.alloc (.cells #[.int .i64 0, .slice none 0 0] 26)) W h0 h1)
  have HI := fun w' => l1In_is w' W 0 40
  rw [show (decide (0 ≤ W) && decide (W ≤ 40)) = inW W from rfl] at HI
  have hE : spanOf vs W = (bif inW W then W else 0, bif inW W then spanL W [] vs else []) := rfl
  cases hi : inW W
  · rw [hi] at HN HI hE
    have HE := Lib.hid hE
    have HN : Hid (Calls Tryz.prog 37 #[.int .i64 W] (w.alloc (.cells #[.int .i64 0, .slice none 0 0] 26)) (Says (.agg #[.int .i64 0, .slice none 0 0]) (w.alloc (.cells #[.int .i64 0, .slice none 0 0] 26)))) := HN
    have HI := Lib.hid HI
    clear hE hi s
    go_enter Tryz.func38, Tryz.ntmps38
    go_wp2_with fail
    go_at_call 37
    generalize w.alloc (.cells #[.int .i64 0, .slice none 0 0] 26) = D at *
    refine HN.out.mono ?_
    rintro e w2 ⟨rfl, b2⟩
    have z2 := b2.size
    have hR2 := (hR.below b2 (by omega)).alloc (.cells #[.int .i64 0, .slice none 0 0] 26)
    have hO2 := Blk.new w2 (.int .i64 0) (.slice none 0 0) 26
    have hb2 := (hb.trans (b2.mono (by omega))).alloc (by omega) (.cells #[.int .i64 0, .slice none 0 0] 26)
    clear b2 hR hb HN
    obtain ⟨G, hG⟩ : ∃ G, G = w2.heap.size := ⟨_, rfl⟩
    have hGw : w.heap.size < G := by omega
    rw [← hG] at hO2
    go_wp2
    rw [← hG]
    generalize w2.alloc (.cells #[.int .i64 0, .slice none 0 0] 26) = D2 at *
    clear z2 hG
    go_loopw [6] (fun i wr => i = .int .i64 0 ∧ wr = D2) (fun _ _ => 0)
    case atStart => exact ⟨rfl, rfl⟩
    case round =>
      obtain ⟨rfl, rfl⟩ := hrel
      have c0 := hO2.c0
      have c1 := hO2.c1
      have d0 := hR2.c0
      have d1 := hR2.c1
      have f0 := hR2.f0
      have f1 := hR2.f1
      have hO9 := (hR2.set0 (.int .i64 0)).set1 (.slice none 0 0)
      have g0 := hO9.c0
      have g1 := hO9.c1
      have hm : Mv wr ((wr.setCell ⟨w.heap.size, 0, none⟩ (.int .i64 0)).setCell ⟨w.heap.size, 1, none⟩ (.slice none 0 0)) w.heap.size (w.heap.size + 1) :=
        ((Mv.refl _ _ _).setCell (p := ⟨w.heap.size, 0, none⟩) (Nat.le_refl _) (Nat.lt_succ_self _) _).setCell (p := ⟨w.heap.size, 1, none⟩) (Nat.le_refl _) (Nat.lt_succ_self _) _
      have HM := Lib.hid hm
      have HB := Lib.hid hb2
      clear hO2 hR2 hO9 hm hb2
      rcases Nat.eq_zero_or_pos n with hn0 | hn0
      case' inl =>
        subst hn0
        go_wp2
      case' inr =>
        have hn1 : decide ((0 : Int) < (n : Int)) = true := decide_eq_true (by omega)
        go_wp2_with fail
        go_at_call 62
        refine (HI.out _).mono ?_
        rintro e w' ⟨rfl, e3⟩
        obtain rfl := e3
        go_wp2
      all_goals
        generalize (wr.setCell ⟨w.heap.size, 0, none⟩ (.int .i64 0)).setCell ⟨w.heap.size, 1, none⟩ (.slice none 0 0) = W9 at *
        refine bodyPost_ret (by simp [results, Tryz.results38, go_sem, g0, g1]; rfl) rfl ?_
        rw [HE.out]
        exact ⟨_, rfl, ⟨_, rfl, ⟨by show (-9223372036854775808 : Int) ≤ 0; omega, by show (0 : Int) ≤ 9223372036854775807; omega⟩, _, _, _, rfl, (Grid.nil _ _ _ 3 61 none).sls⟩, HB.out.trans (HM.out.below (Nat.le_refl _) HB.out.size)⟩
  rw [hi] at HN HI hE
  have hE : spanOf vs W = (W, spanL W [] vs) := hE
  have HN : Hid (Calls Tryz.prog 37 #[.int .i64 W] (w.alloc (.cells #[.int .i64 0, .slice none 0 0] 26)) (Says (.agg #[.int .i64 W, .slice none 0 0]) (w.alloc (.cells #[.int .i64 0, .slice none 0 0] 26)))) := HN
  have HI := Lib.hid HI
  rw [hE]
  have HS := Lib.hid (fun w' (b : Below w.heap.size w w') => s.below b (.inr (Nat.le_refl _)))
  clear hE hi s
  go_enter Tryz.func38, Tryz.ntmps38
  go_wp2_with fail
  go_at_call 37
  generalize w.alloc (.cells #[.int .i64 0, .slice none 0 0] 26) = D at *
  refine HN.out.mono ?_
  rintro e w2 ⟨rfl, b2⟩
  have z2 := b2.size
  have hR2 := (hR.below b2 (by omega)).alloc (.cells #[.int .i64 W, .slice none 0 0] 26)
  have hO2 := Blk.new w2 (.int .i64 W) (.slice none 0 0) 26
  have hb2 := (hb.trans (b2.mono (by omega))).alloc (by omega) (.cells #[.int .i64 W, .slice none 0 0] 26)
  clear b2 hR hb HN
  obtain ⟨G, hG⟩ : ∃ G, G = w2.heap.size := ⟨_, rfl⟩
  have hGw : w.heap.size < G := by omega
  rw [← hG] at hO2
  go_wp2
  rw [← hG]
  generalize w2.alloc (.cells #[.int .i64 W, .slice none 0 0] 26) = D2 at *
  clear z2 hG
  go_loopw [6] (fun i wr => ∃ (j : Nat) (ad5 : Option Addr) (n5 cap5 : Nat) (rows : List (List Int)), j ≤ n ∧ i = .int .i64 j ∧ Blk wr w.heap.size 26 (.int .i64 0) (.slice none 0 0) ∧ Blk wr G 26 (.int .i64 W) (.slice ad5 n5 cap5) ∧
    Sls wr (G + 1) wr.heap.size ad5 n5 cap5 rows ∧ Hid (rows = spanL W [] (vs.take j)) ∧ Small rows ∧ Below w.heap.size w wr) (fun i _ => n - (intOf i).toNat)
  case atStart => exact ⟨0, none, 0, 0, [], Nat.zero_le _, rfl, hR2, hO2, (Grid.nil _ _ _ 3 61 none).sls, rfl, ⟨Nat.zero_le _, by simp⟩, hb2⟩
  case round =>
    clear hR2 hO2 hb2
    obtain ⟨j, ad5, n5, cap5, rows, hj, rfl, hZ, hO, hLr, HRW, hsm, hbr⟩ := hrel
    have zr := hbr.size
    have hGl := hO.lt
    by_cases hlt : j < n
    case neg =>
      obtain rfl : j = n := by omega
      have HRW2 : Hid (rows = spanL W [] vs) := by have := HRW.out; rwa [List.take_of_length_le (Nat.le_of_eq HL.out)] at this
      have c0 := hO.c0
      have c1 := hO.c1
      have d0 := hZ.c0
      have d1 := hZ.c1
      have f0 := hZ.f0
      have f1 := hZ.f1
      have hO9 := (hZ.set0 (.int .i64 W)).set1 (.slice ad5 n5 cap5)
      have g0 := hO9.c0
      have g1 := hO9.c1
      have HM := Lib.hid (show Mv wr ((wr.setCell ⟨w.heap.size, 0, none⟩ (.int .i64 W)).setCell ⟨w.heap.size, 1, none⟩ (.slice ad5 n5 cap5)) w.heap.size (w.heap.size + 1) from
        ((Mv.refl _ _ _).setCell (p := ⟨w.heap.size, 0, none⟩) (Nat.le_refl _) (Nat.lt_succ_self _) _).setCell (p := ⟨w.heap.size, 1, none⟩) (Nat.le_refl _) (Nat.lt_succ_self _) _)
      have HLr := Lib.hid hLr
      have HB := Lib.hid hbr
      clear hO hZ hLr hbr hO9
      go_wp2
      generalize (wr.setCell ⟨w.heap.size, 0, none⟩ (.int .i64 W)).setCell ⟨w.heap.size, 1, none⟩ (.slice ad5 n5 cap5) = W9 at *
      refine bodyPost_ret (by simp [results, Tryz.results38, go_sem, g0, g1]; rfl) rfl ?_
      have hm := HM.out
      rw [← HRW2.out]
      exact ⟨_, rfl, ⟨_, rfl, ⟨h0, h1⟩, _, _, _, rfl, (HLr.out.mv hm (by omega)).mono (by omega) (by have := hm.size; omega)⟩, HB.out.trans (hm.below (Nat.le_refl _) HB.out.size)⟩
    have hlt1 : decide ((j : Int) < (n : Int)) = true := decide_eq_true (by omega)
    go_wp2_with fail
    go_at_call 62
    refine (HI.out _).mono ?_
    rintro e w' ⟨rfl, rfl⟩
    obtain ⟨a, adv, nv, capv, xs, rfl, hx, hc⟩ := (HS.out wr hbr).at_ hlt
    have HX := Lib.hid hx.get
    have hXS := hx.sl.drewN 1
    have hOD : Blk wr.drew G 26 (.int .i64 W) (.slice ad5 n5 cap5) := ⟨hO.obj⟩
    have hZD : Blk wr.drew w.heap.size 26 (.int .i64 0) (.slice none 0 0) := ⟨hZ.obj⟩
    have hLD : Sls wr.drew (G + 1) wr.drew.heap.size ad5 n5 cap5 rows := hLr.drewN 1
    have hVD : wr.drew.cell? (a.add j) = some (.slice adv nv capv) := hc
    have hBD : Below w.heap.size w wr.drew := hbr.drew
    have hXS : Sl wr.drew l h .i64 adv nv capv xs := hXS
    have zD : w.heap.size ≤ wr.drew.heap.size := zr
    have zG : G < wr.drew.heap.size := hGl
    clear hx hc hbr hO hZ hLr zr hGl
    go_wp2
    have hV0 := hVD
    refine wp_region_held (S := fun wS => wS.cell? ⟨G, 0, none⟩ = some (.int .i64 W) ∧ wS.cell? ⟨G, 1, none⟩ = some (.slice ad5 n5 cap5) ∧ wS.cell? (a.add j) = some (.slice adv nv capv)) (by kernel_rfl) ?_
    change wpAnyH _ _ _ _ _ _ _ _ wr.drew
    generalize wr.drew = D0 at *
    obtain ⟨zH, ezH⟩ : ∃ zH, zH = D0.heap.size := ⟨_, rfl⟩
    rw [← ezH] at hLD
    have hzH : zH ≤ D0.heap.size := by omega
    clear ezH
    have HH := Lib.hid (show D0.cell? ⟨G, 0, none⟩ = some (.int .i64 W) ∧ D0.cell? ⟨G, 1, none⟩ = some (.slice ad5 n5 cap5) ∧ D0.cell? (a.add j) = some (.slice adv nv capv) from ⟨hOD.c0, hOD.c1, hVD⟩)
    refine wpAnyH_take (i := 0) (oi := ⟨some 22, _, _, _, _, _⟩) (v := ?_) rfl (by kernel_rfl) (by kernel_rfl) (by kernel_rfl) (fun _ _ _ h => h) (Or.inl ⟨by rfl, ?_⟩) HH.out ?_
    rotate_left
    · intro wS hSw
      try dsimp only at hSw
      go_simp
      all_goals (with_reducible rfl)
    simp only [Act.put, List.setIfInBounds_toArray, List.set_cons_zero, List.set_cons_succ]
    refine wpAnyH_take (i := 1) (oi := ⟨some 23, _, _, _, _, _⟩) (v := ?_) rfl (by kernel_rfl) (by kernel_rfl) (by kernel_rfl) (fun _ _ _ h => h) (Or.inl ⟨by rfl, ?_⟩) HH.out ?_
    rotate_left
    · intro wS hSw
      try dsimp only at hSw
      go_simp
      all_goals (with_reducible rfl)
    simp only [Act.put, List.setIfInBounds_toArray, List.set_cons_zero, List.set_cons_succ]
    refine wpAnyH_take (i := 2) (oi := ⟨some 24, _, _, _, _, _⟩) (v := ?_) rfl (by kernel_rfl) (by kernel_rfl) (by kernel_rfl) (fun _ _ _ h => h) (Or.inl ⟨by rfl, ?_⟩) HH.out ?_
    rotate_left
    · intro wS hSw
      try dsimp only at hSw
      go_simp
      all_goals (with_reducible rfl)
    simp only [Act.put, List.setIfInBounds_toArray, List.set_cons_zero, List.set_cons_succ]
    refine wpAnyH_take (i := 3) (oi := ⟨some 25, _, _, _, _, _⟩) (v := ?_) rfl (by kernel_rfl) (by kernel_rfl) (by kernel_rfl) (fun _ _ _ h => h) (Or.inl ⟨by rfl, ?_⟩) HH.out ?_
    rotate_left
    · intro wS hSw
      try dsimp only at hSw
      go_simp
      all_goals (with_reducible rfl)
    simp only [Act.put, List.setIfInBounds_toArray, List.set_cons_zero, List.set_cons_succ]
    refine wpAnyH_take (i := 4) (oi := ⟨some 26, _, _, _, _, _⟩) (v := ?_) rfl (by kernel_rfl) (by kernel_rfl) (by kernel_rfl) (fun _ _ _ h => h) (Or.inl ⟨by rfl, ?_⟩) HH.out ?_
    rotate_left
    · intro wS hSw
      try dsimp only at hSw
      go_simp
      all_goals (with_reducible rfl)
    simp only [Act.put, List.setIfInBounds_toArray, List.set_cons_zero, List.set_cons_succ]
    refine wpAnyH_ready (rs := [5, 9]) (by kernel_rfl) (by simp) ?_
    refine AllReadyH.cons (o := ⟨some 27, _, _, _, _, _⟩) rfl (fun Kq hKq => ?_) (AllReadyH.cons (o := ⟨some 7, _, _, _, _, _⟩) rfl (fun Kq hKq => ?_) AllReadyH.nil)
    · go_simp
      refine (spec_insert D0 (l := G + 1) (h := zH) (v := .agg #[.int .i64 W, .slice ad5 n5 cap5]) (b := (W, rows)) ⟨_, rfl, ⟨h0, h1⟩, _, _, _, rfl, hLD⟩ hsm hXS).mono ?_
      rintro e w5 ⟨u7, rfl, ⟨ad7, n7, cap7, us7, rfl, hw7, r7⟩, b7⟩
      have z7 := b7.size
      have hS7 := r7.sls
      have hOD := hOD.below b7 (by omega)
      have hZD := hZD.below b7 (by omega)
      have hVD := (b7.cell (by have := World.block_lt_of_cell? _ _ hVD; omega)).trans hVD
      have hBD := hBD.trans (b7.mono (by omega))
      clear HH b7 r7 hLD hXS
      have HH := Lib.hid (show w5.cell? ⟨G, 0, none⟩ = some (.int .i64 W) ∧ w5.cell? ⟨G, 1, none⟩ = some (.slice ad5 n5 cap5) ∧ w5.cell? (a.add j) = some (.slice adv nv capv) from ⟨hOD.c0, hOD.c1, hVD⟩)
      refine hKq.out _ _ HH.out (fun _ => ?_)
      clear hKq Kq
      refine wpAnyH_take (i := 6) (oi := ⟨some 21, _, _, _, _, _⟩) (v := ?_) rfl (by kernel_rfl) (by kernel_rfl) (by kernel_rfl) (fun _ _ _ h => h) (Or.inl ⟨by rfl, ?_⟩) HH.out ?_
      rotate_left
      · intro wS hSw
        try dsimp only at hSw
        go_simp
        all_goals (with_reducible rfl)
      simp only [Act.put, List.setIfInBounds_toArray, List.set_cons_zero, List.set_cons_succ]
      refine wpAnyH_take (i := 7) (oi := ⟨some 28, _, _, _, _, _⟩) (v := ?_) rfl (by kernel_rfl) (by kernel_rfl) (by kernel_rfl) (fun _ _ _ h => h) (Or.inl ⟨by rfl, ?_⟩) HH.out ?_
      rotate_left
      · intro wS hSw
        try dsimp only at hSw
        go_simp
        all_goals (with_reducible rfl)
      simp only [Act.put, List.setIfInBounds_toArray, List.set_cons_zero, List.set_cons_succ]
      refine wpAnyH_take (i := 8) (oi := ⟨some 29, _, _, _, _, _⟩) (v := ?_) rfl (by kernel_rfl) (by kernel_rfl) (by kernel_rfl) (fun _ _ _ h => h) (Or.inl ⟨by rfl, ?_⟩) HH.out ?_
      rotate_left
      · intro wS hSw
        try dsimp only at hSw
        go_simp
        all_goals (with_reducible rfl)
      simp only [Act.put, List.setIfInBounds_toArray, List.set_cons_zero, List.set_cons_succ]
      refine wpAnyH_ready (rs := [9]) (by kernel_rfl) (by simp) ?_
      refine AllReadyH.cons (o := ⟨some 7, _, _, _, _, _⟩) rfl (fun Kq hKq => ?_) AllReadyH.nil
      go_simp
      have hX := Blk.new w5 (.int .i64 0) (.slice none 0 0) 26
      have bx := below_box w5 (.cells #[.int .i64 0, .slice none 0 0] 26)
      have zx : (w5.alloc (.cells #[.int .i64 0, .slice none 0 0] 26)).heap.size = w5.heap.size + 1 := by simp
      obtain ⟨X, eX⟩ : ∃ X, X = w5.heap.size := ⟨_, rfl⟩
      rw [← eX] at hX
      generalize w5.alloc (.cells #[.int .i64 0, .slice none 0 0] 26) = T5 at *
      rw [← eX]
      have hX1 : w5.heap.size ≤ X := by omega
      have hX2 : X < T5.heap.size := by omega
      clear eX
      have hOD := hOD.below bx (by omega)
      have hZD := hZD.below bx (by omega)
      have hVD := (bx.cell (by have := World.block_lt_of_cell? _ _ hVD; omega)).trans hVD
      have hBD := hBD.trans (bx.mono (by omega))
      replace hS7 := hS7.below bx (.inl (by omega))
      clear HH bx
      have HH := Lib.hid (show T5.cell? ⟨G, 0, none⟩ = some (.int .i64 W) ∧ T5.cell? ⟨G, 1, none⟩ = some (.slice ad5 n5 cap5) ∧ T5.cell? (a.add j) = some (.slice adv nv capv) from ⟨hOD.c0, hOD.c1, hVD⟩)
      refine hKq.out _ _ HH.out (fun _ => ?_)
      clear hKq Kq
      try simp only [Act.put, List.setIfInBounds_toArray, List.set_cons_zero, List.set_cons_succ]
      refine wpAnyH_ready (rs := [10]) (by kernel_rfl) (by simp) ?_
      refine AllReadyH.cons (o := ⟨none, _, _, _, _, _⟩) rfl (fun Kq hKq => ?_) AllReadyH.nil
      have x0 := hX.c0
      have x1 := hX.c1
      have y0 := hX.f0
      have y1 := hX.f1
      have hX9 := (hX.set0 (.int .i64 W)).set1 (.slice ad7 n7 cap7)
      have hm9 : Mv T5 ((T5.setCell ⟨X, 0, none⟩ (.int .i64 W)).setCell ⟨X, 1, none⟩ (.slice ad7 n7 cap7)) X (X + 1) :=
        ((Mv.refl _ _ _).setCell (p := ⟨X, 0, none⟩) (Nat.le_refl _) (Nat.lt_succ_self _) _).setCell (p := ⟨X, 1, none⟩) (Nat.le_refl _) (Nat.lt_succ_self _) _
      go_simp
      generalize (T5.setCell ⟨X, 0, none⟩ (.int .i64 W)).setCell ⟨X, 1, none⟩ (.slice ad7 n7 cap7) = W9 at *
      have hOD := (hOD.mv hm9 (by omega))
      have hZD := (hZD.mv hm9 (by omega))
      have hVD := (World.cell?_of_block (a := a.add j) (hm9.block (a.add j).block (World.block_lt_of_cell? _ _ hVD) (by have := World.block_lt_of_cell? _ _ hV0; omega))).trans hVD
      have hBD := hBD.trans (hm9.below (by omega) (by omega))
      have hS9 := hS7.mv hm9 (by omega)
      clear HH x0 x1 y0 y1
      have HH := Lib.hid (show W9.cell? ⟨G, 0, none⟩ = some (.int .i64 W) ∧ W9.cell? ⟨G, 1, none⟩ = some (.slice ad5 n5 cap5) ∧ W9.cell? (a.add j) = some (.slice adv nv capv) from ⟨hOD.c0, hOD.c1, hVD⟩)
      refine hKq.out _ _ HH.out (fun _ => ?_)
      clear hKq Kq
      refine wpAnyH_take (i := 11) (oi := ⟨some 8, _, _, _, _, _⟩) (v := ?_) rfl (by kernel_rfl) (by kernel_rfl) (by kernel_rfl) (fun _ _ _ h => h) (Or.inl ⟨by rfl, ?_⟩) HH.out ?_
      rotate_left
      · intro wS hSw
        try dsimp only at hSw
        go_simp
        all_goals (with_reducible rfl)
      simp only [Act.put, List.setIfInBounds_toArray, List.set_cons_zero, List.set_cons_succ]
      refine wpAnyH_done (by kernel_rfl) ?_ _
      have x0 := hX9.c0
      have x1 := hX9.c1
      have c0 := hOD.c0
      have c1 := hOD.c1
      have f0 := hOD.f0
      have f1 := hOD.f1
      have hO8 := (hOD.set0 (.int .i64 W)).set1 (.slice ad7 n7 cap7)
      have hm8 : Mv W9 ((W9.setCell ⟨G, 0, none⟩ (.int .i64 W)).setCell ⟨G, 1, none⟩ (.slice ad7 n7 cap7)) G (G + 1) :=
        ((Mv.refl _ _ _).setCell (p := ⟨G, 0, none⟩) (Nat.le_refl _) (Nat.lt_succ_self _) _).setCell (p := ⟨G, 1, none⟩) (Nat.le_refl _) (Nat.lt_succ_self _) _
      have hZ8 := hZD.mv hm8 (by omega)
      have z8 := hm8.size
      have z9 := hm9.size
      have hS8 := (hS9.mv hm8 (by omega)).mono (l' := G + 1) (h' := ((W9.setCell ⟨G, 0, none⟩ (.int .i64 W)).setCell ⟨G, 1, none⟩ (.slice ad7 n7 cap7)).heap.size) (by omega) (by omega)
      have HB8 := Lib.hid (hBD.trans (hm8.below (by omega) (by omega)))
      have HR8 : Hid (insertV W rows xs = spanL W [] (vs.take (j + 1))) := by show _ = _; rw [spanL_s HX.out, ← HRW.out]
      have HS8 := Lib.hid hS8
      have HO8 := Lib.hid hO8
      have HZ8 := Lib.hid hZ8
      clear HH hX hX9 hO8 hZ8 hS8 hS9 hm8 hm9 hOD hZD hBD hVD hS7
      go_wp2
      go_roundw
      case rel => exact ⟨j + 1, _, _, _, _, by omega, by go_num, HZ8.out, HO8.out, HS8.out, HR8, small_ins xs hsm, HB8.out⟩
      case measure => simp [intOf]; omega
    · go_simp
      have hX := Blk.new D0 (.int .i64 0) (.slice none 0 0) 26
      have bx := below_box D0 (.cells #[.int .i64 0, .slice none 0 0] 26)
      have zx : (D0.alloc (.cells #[.int .i64 0, .slice none 0 0] 26)).heap.size = D0.heap.size + 1 := by simp
      obtain ⟨X, eX⟩ : ∃ X, X = D0.heap.size := ⟨_, rfl⟩
      rw [← eX] at hX
      generalize D0.alloc (.cells #[.int .i64 0, .slice none 0 0] 26) = T5 at *
      rw [← eX]
      have hX1 : D0.heap.size ≤ X := by omega
      have hX2 : X < T5.heap.size := by omega
      clear eX
      have hOD := hOD.below bx (by omega)
      have hZD := hZD.below bx (by omega)
      have hVD := (bx.cell (by have := World.block_lt_of_cell? _ _ hVD; omega)).trans hVD
      have hBD := hBD.trans (bx.mono (by omega))
      have hLD := hLD.below bx (by omega)
      have hXS := hXS.below bx (.inr (by omega))
      clear HH bx
      have HH := Lib.hid (show T5.cell? ⟨G, 0, none⟩ = some (.int .i64 W) ∧ T5.cell? ⟨G, 1, none⟩ = some (.slice ad5 n5 cap5) ∧ T5.cell? (a.add j) = some (.slice adv nv capv) from ⟨hOD.c0, hOD.c1, hVD⟩)
      refine hKq.out _ _ HH.out (fun _ => ?_)
      clear hKq Kq
      try simp only [Act.put, List.setIfInBounds_toArray, List.set_cons_zero, List.set_cons_succ]
      refine wpAnyH_ready (rs := [5]) (by kernel_rfl) (by simp) ?_
      refine AllReadyH.cons (o := ⟨some 27, _, _, _, _, _⟩) rfl (fun Kq hKq => ?_) AllReadyH.nil
      go_simp
      refine (spec_insert T5 (l := G + 1) (h := zH) (v := .agg #[.int .i64 W, .slice ad5 n5 cap5]) (b := (W, rows)) ⟨_, rfl, ⟨h0, h1⟩, _, _, _, rfl, hLD⟩ hsm hXS).mono ?_
      rintro e w5 ⟨u7, rfl, ⟨ad7, n7, cap7, us7, rfl, hw7, r7⟩, b7⟩
      have z7 := b7.size
      have hS7 := r7.sls
      have b7x := b7
      have hOD := hOD.below b7 (by omega)
      have hZD := hZD.below b7 (by omega)
      have hVD := (b7.cell (by have := World.block_lt_of_cell? _ _ hVD; omega)).trans hVD
      have hBD := hBD.trans (b7.mono (by omega))
      clear HH b7 r7 hLD hXS
      have HH := Lib.hid (show w5.cell? ⟨G, 0, none⟩ = some (.int .i64 W) ∧ w5.cell? ⟨G, 1, none⟩ = some (.slice ad5 n5 cap5) ∧ w5.cell? (a.add j) = some (.slice adv nv capv) from ⟨hOD.c0, hOD.c1, hVD⟩)
      
      replace hX := hX.below b7x (by omega)
      refine hKq.out _ _ HH.out (fun _ => ?_)
      clear hKq Kq
      refine wpAnyH_take (i := 6) (oi := ⟨some 21, _, _, _, _, _⟩) (v := ?_) rfl (by kernel_rfl) (by kernel_rfl) (by kernel_rfl) (fun _ _ _ h => h) (Or.inl ⟨by rfl, ?_⟩) HH.out ?_
      rotate_left
      · intro wS hSw
        try dsimp only at hSw
        go_simp
        all_goals (with_reducible rfl)
      simp only [Act.put, List.setIfInBounds_toArray, List.set_cons_zero, List.set_cons_succ]
      refine wpAnyH_take (i := 7) (oi := ⟨some 28, _, _, _, _, _⟩) (v := ?_) rfl (by kernel_rfl) (by kernel_rfl) (by kernel_rfl) (fun _ _ _ h => h) (Or.inl ⟨by rfl, ?_⟩) HH.out ?_
      rotate_left
      · intro wS hSw
        try dsimp only at hSw
        go_simp
        all_goals (with_reducible rfl)
      simp only [Act.put, List.setIfInBounds_toArray, List.set_cons_zero, List.set_cons_succ]
      refine wpAnyH_take (i := 8) (oi := ⟨some 29, _, _, _, _, _⟩) (v := ?_) rfl (by kernel_rfl) (by kernel_rfl) (by kernel_rfl) (fun _ _ _ h => h) (Or.inl ⟨by rfl, ?_⟩) HH.out ?_
      rotate_left
      · intro wS hSw
        try dsimp only at hSw
        go_simp
        all_goals (with_reducible rfl)
      simp only [Act.put, List.setIfInBounds_toArray, List.set_cons_zero, List.set_cons_succ]
      refine wpAnyH_ready (rs := [10]) (by kernel_rfl) (by simp) ?_
      refine AllReadyH.cons (o := ⟨none, _, _, _, _, _⟩) rfl (fun Kq hKq => ?_) AllReadyH.nil
      have x0 := hX.c0
      have x1 := hX.c1
      have y0 := hX.f0
      have y1 := hX.f1
      have hX9 := (hX.set0 (.int .i64 W)).set1 (.slice ad7 n7 cap7)
      have hm9 : Mv w5 ((w5.setCell ⟨X, 0, none⟩ (.int .i64 W)).setCell ⟨X, 1, none⟩ (.slice ad7 n7 cap7)) X (X + 1) :=
        ((Mv.refl _ _ _).setCell (p := ⟨X, 0, none⟩) (Nat.le_refl _) (Nat.lt_succ_self _) _).setCell (p := ⟨X, 1, none⟩) (Nat.le_refl _) (Nat.lt_succ_self _) _
      go_simp
      generalize (w5.setCell ⟨X, 0, none⟩ (.int .i64 W)).setCell ⟨X, 1, none⟩ (.slice ad7 n7 cap7) = W9 at *
      have hOD := (hOD.mv hm9 (by omega))
      have hZD := (hZD.mv hm9 (by omega))
      have hVD := (World.cell?_of_block (a := a.add j) (hm9.block (a.add j).block (World.block_lt_of_cell? _ _ hVD) (by have := World.block_lt_of_cell? _ _ hV0; omega))).trans hVD
      have hBD := hBD.trans (hm9.below (by omega) (by omega))
      have hS9 := hS7.mv hm9 (by omega)
      clear HH x0 x1 y0 y1
      have HH := Lib.hid (show W9.cell? ⟨G, 0, none⟩ = some (.int .i64 W) ∧ W9.cell? ⟨G, 1, none⟩ = some (.slice ad5 n5 cap5) ∧ W9.cell? (a.add j) = some (.slice adv nv capv) from ⟨hOD.c0, hOD.c1, hVD⟩)
      refine hKq.out _ _ HH.out (fun _ => ?_)
      clear hKq Kq
      refine wpAnyH_take (i := 11) (oi := ⟨some 8, _, _, _, _, _⟩) (v := ?_) rfl (by kernel_rfl) (by kernel_rfl) (by kernel_rfl) (fun _ _ _ h => h) (Or.inl ⟨by rfl, ?_⟩) HH.out ?_
      rotate_left
      · intro wS hSw
        try dsimp only at hSw
        go_simp
        all_goals (with_reducible rfl)
      simp only [Act.put, List.setIfInBounds_toArray, List.set_cons_zero, List.set_cons_succ]
      refine wpAnyH_done (by kernel_rfl) ?_ _
      have x0 := hX9.c0
      have x1 := hX9.c1
      have c0 := hOD.c0
      have c1 := hOD.c1
      have f0 := hOD.f0
      have f1 := hOD.f1
      have hO8 := (hOD.set0 (.int .i64 W)).set1 (.slice ad7 n7 cap7)
      have hm8 : Mv W9 ((W9.setCell ⟨G, 0, none⟩ (.int .i64 W)).setCell ⟨G, 1, none⟩ (.slice ad7 n7 cap7)) G (G + 1) :=
        ((Mv.refl _ _ _).setCell (p := ⟨G, 0, none⟩) (Nat.le_refl _) (Nat.lt_succ_self _) _).setCell (p := ⟨G, 1, none⟩) (Nat.le_refl _) (Nat.lt_succ_self _) _
      have hZ8 := hZD.mv hm8 (by omega)
      have z8 := hm8.size
      have z9 := hm9.size
      have hS8 := (hS9.mv hm8 (by omega)).mono (l' := G + 1) (h' := ((W9.setCell ⟨G, 0, none⟩ (.int .i64 W)).setCell ⟨G, 1, none⟩ (.slice ad7 n7 cap7)).heap.size) (by omega) (by omega)
      have HB8 := Lib.hid (hBD.trans (hm8.below (by omega) (by omega)))
      have HR8 : Hid (insertV W rows xs = spanL W [] (vs.take (j + 1))) := by show _ = _; rw [spanL_s HX.out, ← HRW.out]
      have HS8 := Lib.hid hS8
      have HO8 := Lib.hid hO8
      have HZ8 := Lib.hid hZ8
      clear HH hX hX9 hO8 hZ8 hS8 hS9 hm8 hm9 hOD hZD hBD hVD hS7
      go_wp2
      go_roundw
      case rel => exact ⟨j + 1, _, _, _, _, by omega, by go_num, HZ8.out, HO8.out, HS8.out, HR8, small_ins xs hsm, HB8.out⟩
      case measure => simp [intOf]; omega
set_option maxRecDepth 100000 in
set_option maxHeartbeats 3200000 in
theorem spec_sum (w : World) {l h l2 h2 : Nat} {v v2 : Value} {b b2 : Bs} (s : BasisI w l h v b) (hf : BasisF b) (s2 : BasisI w l2 h2 v2 b2) :
    Calls Tryz.prog 49 #[v, v2] w (Ret (fun w l h u => BasisI w l h u (sumOf b b2)) w) := by
  obtain ⟨W, rows0⟩ := b
  obtain ⟨W2, vs⟩ := b2
  obtain ⟨u, rfl, hw, ad, n, cap, rfl, s⟩ := s
  obtain ⟨u2, rfl, hw2, ad2, n2, cap2, rfl, s2⟩ := s2
  have h0 : -9223372036854775808 ≤ W := hw.1
  have h1 : W ≤ 9223372036854775807 := hw.2
  have hE : sumOf (W, rows0) (W2, vs) = (W, bif pairB W rows0 W2 vs then spanL W rows0 vs else rows0) := rfl
  rw [hE]
  clear hE
  have hbig := s2.big
  have hcap := s2.le
  unfold maxLen at hbig
  have HL := Lib.hid s2.len
  have hA := ((Blk.new w (.int .i64 W) (.slice ad n cap) 26).alloc (.cells #[.int .i64 W2, .slice ad2 n2 cap2] 26)).alloc (.cells #[.int .i64 0, .slice none 0 0] 26)
  have hP := (Blk.new (w.alloc (.cells #[.int .i64 W, .slice ad n cap] 26)) (.int .i64 W2) (.slice ad2 n2 cap2) 26).alloc (.cells #[.int .i64 0, .slice none 0 0] 26)
  have hR := Blk.new ((w.alloc (.cells #[.int .i64 W, .slice ad n cap] 26)).alloc (.cells #[.int .i64 W2, .slice ad2 n2 cap2] 26)) (.int .i64 0) (.slice none 0 0) 26
  have hb := ((below_box w (.cells #[.int .i64 W, .slice ad n cap] 26)).alloc (by simp) (.cells #[.int .i64 W2, .slice ad2 n2 cap2] 26)).alloc (by simp; omega) (.cells #[.int .i64 0, .slice none 0 0] 26)
  have hz1 : (((w.alloc (.cells #[.int .i64 W, .slice ad n cap] 26)).alloc (.cells #[.int .i64 W2, .slice ad2 n2 cap2] 26)).alloc (.cells #[.int .i64 0, .slice none 0 0] 26)).heap.size = w.heap.size + 3 := by simp
  simp only [World.size_alloc] at hP hR
  have HI := fun w' (b : Below w.heap.size w w') => (show BasisI w' l h (.agg #[.int .i64 W, .slice ad n cap]) (W, rows0) from ⟨_, rfl, hw, _, _, _, rfl, s.below b (.inr (Nat.le_refl _))⟩)
  have HI2 := fun w' (b : Below w.heap.size w w') => (show BasisI w' l2 h2 (.agg #[.int .i64 W2, .slice ad2 n2 cap2]) (W2, vs) from ⟨_, rfl, hw2, _, _, _, rfl, s2.below b (.inr (Nat.le_refl _))⟩)
  have HK := Lib.hid (fun w' (b : Below w.heap.size w w') => spec_pairB w' (HI w' b) (HI2 w' b))
  have HCP := Lib.hid (fun w' (b : Below w.heap.size w w') => spec_copyB w' (HI w' b) hf)
  have HS := Lib.hid (fun w' (b : Below w.heap.size w w') => s2.below b (.inr (Nat.le_refl _)))
  have hsm0 : Small rows0 := hf
  dsimp only at HK
  have hpw : pairB W rows0 W2 vs = true → W2 = W := fun e => by
    unfold pairB at e
    simp only [Bool.and_eq_true, beq_iff_eq] at e
    exact e.2.symm
  generalize pairB W rows0 W2 vs = PB at *
  clear s s2 HI HI2 hf hw2
  have c0 := hA.c0
  have c1 := hA.c1
  go_enter Tryz.func49, Tryz.ntmps49
  go_wp2_with fail
  go_at_call 81
  generalize ((w.alloc (.cells #[.int .i64 W, .slice ad n cap] 26)).alloc (.cells #[.int .i64 W2, .slice ad2 n2 cap2] 26)).alloc (.cells #[.int .i64 0, .slice none 0 0] 26) = D at *
  refine (HCP.out _ hb).mono ?_
  rintro e w2 ⟨u3, rfl, ⟨ad3, n3, cap3, us3, rfl, _, r3⟩, b2⟩
  have z2 := b2.size
  have hA2 := (hA.below b2 (by omega)).alloc (.cells #[.int .i64 W, .slice ad3 n3 cap3] 26)
  have hP2 := (hP.below b2 (by omega)).alloc (.cells #[.int .i64 W, .slice ad3 n3 cap3] 26)
  have hR2 := (hR.below b2 (by omega)).alloc (.cells #[.int .i64 W, .slice ad3 n3 cap3] 26)
  have hO2 := Blk.new w2 (.int .i64 W) (.slice ad3 n3 cap3) 26
  have hb2 := (hb.trans (b2.mono (by omega))).alloc (by omega) (.cells #[.int .i64 W, .slice ad3 n3 cap3] 26)
  have hS2 := r3.sls.below (below_box w2 (.cells #[.int .i64 W, .slice ad3 n3 cap3] 26)) (.inl (Nat.le_refl _))
  have zx : (w2.alloc (.cells #[.int .i64 W, .slice ad3 n3 cap3] 26)).heap.size = w2.heap.size + 1 := by simp
  clear b2 hA hP hR hb HCP c0 c1 r3
  obtain ⟨G, hG⟩ : ∃ G, G = w2.heap.size := ⟨_, rfl⟩
  have hGw : w.heap.size + 3 ≤ G := by omega
  have hD9 : w.heap.size + 3 = D.heap.size := by omega
  rw [← hG] at hO2 zx hS2
  rw [← hD9] at hS2
  have c0 := hA2.c0
  have c1 := hA2.c1
  have d0 := hP2.c0
  have d1 := hP2.c1
  clear hD9
  go_wp2_with fail
  go_at_call 48
  rw [← hG]
  generalize w2.alloc (.cells #[.int .i64 W, .slice ad3 n3 cap3] 26) = D2 at *
  refine (HK.out _ hb2).mono ?_
  rintro e w3 ⟨rfl, b3⟩
  have z3 := b3.size
  have hP3 := hP2.below b3 (by omega)
  have hR3 := hR2.below b3 (by omega)
  have hO3 := hO2.below b3 (by omega)
  have hb3 := hb2.trans (b3.mono (by omega))
  have hS3 := hS2.below b3 (.inr (Nat.le_refl _))
  clear b3 HK hb2 hA2 hP2 hR2 hO2 hS2 c0 c1 d0 d1 z2 hG
  cases PB
  · have hO := hO3
    have hZ := hR3
    have hLr := hS3
    have hbr := hb3
    have HRW2 : Hid (rows0 = rows0) := rfl
    clear hO3 hR3 hS3 hb3 hP3
    have c0 := hO.c0
    have c1 := hO.c1
    have d0 := hZ.c0
    have d1 := hZ.c1
    have f0 := hZ.f0
    have f1 := hZ.f1
    have hO9 := (hZ.set0 (.int .i64 W)).set1 (.slice ad3 n3 cap3)
    have g0 := hO9.c0
    have g1 := hO9.c1
    clear HRW2
    have HM := Lib.hid (show Mv w3 ((w3.setCell ⟨w.heap.size + 2, 0, none⟩ (.int .i64 W)).setCell ⟨w.heap.size + 2, 1, none⟩ (.slice ad3 n3 cap3)) (w.heap.size + 2) (w.heap.size + 3) from
      ((Mv.refl _ _ _).setCell (p := ⟨w.heap.size + 2, 0, none⟩) (Nat.le_refl _) (Nat.lt_succ_self _) _).setCell (p := ⟨w.heap.size + 2, 1, none⟩) (Nat.le_refl _) (Nat.lt_succ_self _) _)
    have HLr := Lib.hid hLr
    have HB := Lib.hid hbr
    clear hO hZ hLr hbr hO9
    go_wp2
    generalize (w3.setCell ⟨w.heap.size + 2, 0, none⟩ (.int .i64 W)).setCell ⟨w.heap.size + 2, 1, none⟩ (.slice ad3 n3 cap3) = W9 at *
    refine bodyPost_ret (by simp [results, Tryz.results49, go_sem, g0, g1]; rfl) rfl ?_
    have hm := HM.out
    exact ⟨_, rfl, ⟨_, rfl, ⟨h0, h1⟩, _, _, _, rfl, (HLr.out.mv hm (by omega)).mono (by omega) (by have := hm.size; omega)⟩, HB.out.trans (hm.below (by omega) HB.out.size)⟩
  obtain rfl := (hpw rfl).symm
  clear hpw
  go_wp2
  go_loopw [6] (fun i wr => ∃ (j : Nat) (ad5 : Option Addr) (n5 cap5 : Nat) (rows : List (List Int)) (lo hi : Nat), j ≤ n2 ∧ i = .int .i64 j ∧ Blk wr (w.heap.size + 2) 26 (.int .i64 0) (.slice none 0 0) ∧ Blk wr (w.heap.size + 1) 26 (.int .i64 W) (.slice ad2 n2 cap2) ∧ Blk wr G 26 (.int .i64 W) (.slice ad5 n5 cap5) ∧
    Sls wr lo hi ad5 n5 cap5 rows ∧ (w.heap.size + 3 ≤ lo ∧ hi ≤ wr.heap.size ∧ (hi ≤ G ∨ G + 1 ≤ lo)) ∧ Hid (rows = spanL W rows0 (vs.take j)) ∧ Small rows ∧ Below w.heap.size w wr) (fun i _ => n2 - (intOf i).toNat)
  case atStart => exact ⟨0, ad3, n3, cap3, rows0, _, _, Nat.zero_le _, rfl, hR3, hP3, hO3, hS3, ⟨Nat.le_refl _, by omega, .inl (Nat.le_refl _)⟩, rfl, hsm0, hb3⟩
  case round =>
    clear hR3 hO3 hb3 hS3 hP3
    obtain ⟨j, ad5, n5, cap5, rows, lo, hi, hj, rfl, hZ, hP, hO, hLr, hlh, HRW, hsm, hbr⟩ := hrel
    have zr := hbr.size
    have hGl := hO.lt
    have p1 := hP.c1
    by_cases hlt : j < n2
    case neg =>
      obtain rfl : j = n2 := by omega
      have HRW2 : Hid (rows = spanL W rows0 vs) := by have := HRW.out; rwa [List.take_of_length_le (Nat.le_of_eq HL.out)] at this
      have c0 := hO.c0
      have c1 := hO.c1
      have d0 := hZ.c0
      have d1 := hZ.c1
      have f0 := hZ.f0
      have f1 := hZ.f1
      have hO9 := (hZ.set0 (.int .i64 W)).set1 (.slice ad5 n5 cap5)
      have g0 := hO9.c0
      have g1 := hO9.c1
      have HM := Lib.hid (show Mv wr ((wr.setCell ⟨w.heap.size + 2, 0, none⟩ (.int .i64 W)).setCell ⟨w.heap.size + 2, 1, none⟩ (.slice ad5 n5 cap5)) (w.heap.size + 2) (w.heap.size + 3) from
        ((Mv.refl _ _ _).setCell (p := ⟨w.heap.size + 2, 0, none⟩) (Nat.le_refl _) (Nat.lt_succ_self _) _).setCell (p := ⟨w.heap.size + 2, 1, none⟩) (Nat.le_refl _) (Nat.lt_succ_self _) _)
      have HLr := Lib.hid hLr
      have HB := Lib.hid hbr
      clear hO hZ hLr hbr hO9
      go_wp2
      generalize (wr.setCell ⟨w.heap.size + 2, 0, none⟩ (.int .i64 W)).setCell ⟨w.heap.size + 2, 1, none⟩ (.slice ad5 n5 cap5) = W9 at *
      refine bodyPost_ret (by simp [results, Tryz.results49, go_sem, g0, g1]; rfl) rfl ?_
      have hm := HM.out
      rw [← HRW2.out]
      exact ⟨_, rfl, ⟨_, rfl, ⟨h0, h1⟩, _, _, _, rfl, (HLr.out.mv hm (by omega)).mono (by omega) (by have := hm.size; omega)⟩, HB.out.trans (hm.below (by omega) HB.out.size)⟩
    obtain ⟨a, adv, nv, capv, xs, rfl, hx, hc⟩ := (HS.out wr hbr).at_ hlt
    have HX := Lib.hid hx.get
    have hXS := hx.sl.drewN 1
    have hOD : Blk wr.drew G 26 (.int .i64 W) (.slice ad5 n5 cap5) := ⟨hO.obj⟩
    have hPD : Blk wr.drew (w.heap.size + 1) 26 (.int .i64 W) (.slice (some a) n2 cap2) := ⟨hP.obj⟩
    have hZD : Blk wr.drew (w.heap.size + 2) 26 (.int .i64 0) (.slice none 0 0) := ⟨hZ.obj⟩
    have hLD : Sls wr.drew lo hi ad5 n5 cap5 rows := hLr.drewN 1
    have hVD : wr.drew.cell? (a.add j) = some (.slice adv nv capv) := hc
    have hBD : Below w.heap.size w wr.drew := hbr.drew
    have hXS : Sl wr.drew l2 h2 .i64 adv nv capv xs := hXS
    have zD : w.heap.size ≤ wr.drew.heap.size := zr
    have zG : G < wr.drew.heap.size := hGl
    have hlh : w.heap.size + 3 ≤ lo ∧ hi ≤ wr.drew.heap.size ∧ (hi ≤ G ∨ G + 1 ≤ lo) := hlh
    clear hx hc hbr hO hZ hP hLr zr hGl
    go_wp2
    have hV0 := hVD
    refine wp_region_held (S := fun wS => wS.cell? ⟨G, 0, none⟩ = some (.int .i64 W) ∧ wS.cell? ⟨G, 1, none⟩ = some (.slice ad5 n5 cap5) ∧ wS.cell? ⟨w.heap.size + 1, 1, none⟩ = some (.slice (some a) n2 cap2) ∧ wS.cell? (a.add j) = some (.slice adv nv capv)) (by kernel_rfl) ?_
    change wpAnyH _ _ _ _ _ _ _ _ wr.drew
    generalize wr.drew = D0 at *
    have HH := Lib.hid (show D0.cell? ⟨G, 0, none⟩ = some (.int .i64 W) ∧ D0.cell? ⟨G, 1, none⟩ = some (.slice ad5 n5 cap5) ∧ D0.cell? ⟨w.heap.size + 1, 1, none⟩ = some (.slice (some a) n2 cap2) ∧ D0.cell? (a.add j) = some (.slice adv nv capv) from ⟨hOD.c0, hOD.c1, hPD.c1, hVD⟩)
    refine wpAnyH_take (i := 0) (oi := ⟨some 24, _, _, _, _, _⟩) (v := ?_) rfl (by kernel_rfl) (by kernel_rfl) (by kernel_rfl) (fun _ _ _ h => h) (Or.inl ⟨by rfl, ?_⟩) HH.out ?_
    rotate_left
    · intro wS hSw
      try dsimp only at hSw
      go_simp
      all_goals (with_reducible rfl)
    simp only [Act.put, List.setIfInBounds_toArray, List.set_cons_zero, List.set_cons_succ]
    refine wpAnyH_take (i := 1) (oi := ⟨some 25, _, _, _, _, _⟩) (v := ?_) rfl (by kernel_rfl) (by kernel_rfl) (by kernel_rfl) (fun _ _ _ h => h) (Or.inl ⟨by rfl, ?_⟩) HH.out ?_
    rotate_left
    · intro wS hSw
      try dsimp only at hSw
      go_simp
      all_goals (with_reducible rfl)
    simp only [Act.put, List.setIfInBounds_toArray, List.set_cons_zero, List.set_cons_succ]
    refine wpAnyH_take (i := 2) (oi := ⟨some 26, _, _, _, _, _⟩) (v := ?_) rfl (by kernel_rfl) (by kernel_rfl) (by kernel_rfl) (fun _ _ _ h => h) (Or.inl ⟨by rfl, ?_⟩) HH.out ?_
    rotate_left
    · intro wS hSw
      try dsimp only at hSw
      go_simp
      all_goals (with_reducible rfl)
    simp only [Act.put, List.setIfInBounds_toArray, List.set_cons_zero, List.set_cons_succ]
    refine wpAnyH_take (i := 3) (oi := ⟨some 27, _, _, _, _, _⟩) (v := ?_) rfl (by kernel_rfl) (by kernel_rfl) (by kernel_rfl) (fun _ _ _ h => h) (Or.inl ⟨by rfl, ?_⟩) HH.out ?_
    rotate_left
    · intro wS hSw
      try dsimp only at hSw
      go_simp
      all_goals (with_reducible rfl)
    simp only [Act.put, List.setIfInBounds_toArray, List.set_cons_zero, List.set_cons_succ]
    refine wpAnyH_take (i := 4) (oi := ⟨some 28, _, _, _, _, _⟩) (v := ?_) rfl (by kernel_rfl) (by kernel_rfl) (by kernel_rfl) (fun _ _ _ h => h) (Or.inl ⟨by rfl, ?_⟩) HH.out ?_
    rotate_left
    · intro wS hSw
      try dsimp only at hSw
      go_simp
      all_goals (with_reducible rfl)
    simp only [Act.put, List.setIfInBounds_toArray, List.set_cons_zero, List.set_cons_succ]
    refine wpAnyH_take (i := 5) (oi := ⟨some 29, _, _, _, _, _⟩) (v := ?_) rfl (by kernel_rfl) (by kernel_rfl) (by kernel_rfl) (fun _ _ _ h => h) (Or.inl ⟨by rfl, ?_⟩) HH.out ?_
    rotate_left
    · intro wS hSw
      try dsimp only at hSw
      go_simp
      all_goals (with_reducible rfl)
    simp only [Act.put, List.setIfInBounds_toArray, List.set_cons_zero, List.set_cons_succ]
    refine wpAnyH_ready (rs := [6, 10]) (by kernel_rfl) (by simp) ?_
    refine AllReadyH.cons (o := ⟨some 30, _, _, _, _, _⟩) rfl (fun Kq hKq => ?_) (AllReadyH.cons (o := ⟨some 7, _, _, _, _, _⟩) rfl (fun Kq hKq => ?_) AllReadyH.nil)
    · go_simp
      refine (spec_insert D0 (l := lo) (h := hi) (v := .agg #[.int .i64 W, .slice ad5 n5 cap5]) (b := (W, rows)) ⟨_, rfl, ⟨h0, h1⟩, _, _, _, rfl, hLD⟩ hsm hXS).mono ?_
      rintro e w5 ⟨u7, rfl, ⟨ad7, n7, cap7, us7, rfl, hw7, r7⟩, b7⟩
      have z7 := b7.size
      have hS7 := r7.sls
      have hOD := hOD.below b7 (by omega)
      have hPD := hPD.below b7 (by omega)
      have hZD := hZD.below b7 (by omega)
      have hVD := (b7.cell (by have := World.block_lt_of_cell? _ _ hVD; omega)).trans hVD
      have hBD := hBD.trans (b7.mono (by omega))
      clear HH b7 r7 hLD hXS
      have HH := Lib.hid (show w5.cell? ⟨G, 0, none⟩ = some (.int .i64 W) ∧ w5.cell? ⟨G, 1, none⟩ = some (.slice ad5 n5 cap5) ∧ w5.cell? ⟨w.heap.size + 1, 1, none⟩ = some (.slice (some a) n2 cap2) ∧ w5.cell? (a.add j) = some (.slice adv nv capv) from ⟨hOD.c0, hOD.c1, hPD.c1, hVD⟩)
      refine hKq.out _ _ HH.out (fun _ => ?_)
      clear hKq Kq
      refine wpAnyH_take (i := 7) (oi := ⟨some 23, _, _, _, _, _⟩) (v := ?_) rfl (by kernel_rfl) (by kernel_rfl) (by kernel_rfl) (fun _ _ _ h => h) (Or.inl ⟨by rfl, ?_⟩) HH.out ?_
      rotate_left
      · intro wS hSw
        try dsimp only at hSw
        go_simp
        all_goals (with_reducible rfl)
      simp only [Act.put, List.setIfInBounds_toArray, List.set_cons_zero, List.set_cons_succ]
      refine wpAnyH_take (i := 8) (oi := ⟨some 31, _, _, _, _, _⟩) (v := ?_) rfl (by kernel_rfl) (by kernel_rfl) (by kernel_rfl) (fun _ _ _ h => h) (Or.inl ⟨by rfl, ?_⟩) HH.out ?_
      rotate_left
      · intro wS hSw
        try dsimp only at hSw
        go_simp
        all_goals (with_reducible rfl)
      simp only [Act.put, List.setIfInBounds_toArray, List.set_cons_zero, List.set_cons_succ]
      refine wpAnyH_take (i := 9) (oi := ⟨some 32, _, _, _, _, _⟩) (v := ?_) rfl (by kernel_rfl) (by kernel_rfl) (by kernel_rfl) (fun _ _ _ h => h) (Or.inl ⟨by rfl, ?_⟩) HH.out ?_
      rotate_left
      · intro wS hSw
        try dsimp only at hSw
        go_simp
        all_goals (with_reducible rfl)
      simp only [Act.put, List.setIfInBounds_toArray, List.set_cons_zero, List.set_cons_succ]
      refine wpAnyH_ready (rs := [10]) (by kernel_rfl) (by simp) ?_
      refine AllReadyH.cons (o := ⟨some 7, _, _, _, _, _⟩) rfl (fun Kq hKq => ?_) AllReadyH.nil
      go_simp
      have hX := Blk.new w5 (.int .i64 0) (.slice none 0 0) 26
      have bx := below_box w5 (.cells #[.int .i64 0, .slice none 0 0] 26)
      have zx : (w5.alloc (.cells #[.int .i64 0, .slice none 0 0] 26)).heap.size = w5.heap.size + 1 := by simp
      obtain ⟨X, eX⟩ : ∃ X, X = w5.heap.size := ⟨_, rfl⟩
      rw [← eX] at hX
      generalize w5.alloc (.cells #[.int .i64 0, .slice none 0 0] 26) = T5 at *
      rw [← eX]
      have hX1 : w5.heap.size ≤ X := by omega
      have hX2 : X < T5.heap.size := by omega
      clear eX
      have hOD := hOD.below bx (by omega)
      have hPD := hPD.below bx (by omega)
      have hZD := hZD.below bx (by omega)
      have hVD := (bx.cell (by have := World.block_lt_of_cell? _ _ hVD; omega)).trans hVD
      have hBD := hBD.trans (bx.mono (by omega))
      replace hS7 := hS7.below bx (.inl (by omega))
      clear HH bx
      have HH := Lib.hid (show T5.cell? ⟨G, 0, none⟩ = some (.int .i64 W) ∧ T5.cell? ⟨G, 1, none⟩ = some (.slice ad5 n5 cap5) ∧ T5.cell? ⟨w.heap.size + 1, 1, none⟩ = some (.slice (some a) n2 cap2) ∧ T5.cell? (a.add j) = some (.slice adv nv capv) from ⟨hOD.c0, hOD.c1, hPD.c1, hVD⟩)
      refine hKq.out _ _ HH.out (fun _ => ?_)
      clear hKq Kq
      try simp only [Act.put, List.setIfInBounds_toArray, List.set_cons_zero, List.set_cons_succ]
      refine wpAnyH_ready (rs := [11]) (by kernel_rfl) (by simp) ?_
      refine AllReadyH.cons (o := ⟨none, _, _, _, _, _⟩) rfl (fun Kq hKq => ?_) AllReadyH.nil
      have x0 := hX.c0
      have x1 := hX.c1
      have y0 := hX.f0
      have y1 := hX.f1
      have hX9 := (hX.set0 (.int .i64 W)).set1 (.slice ad7 n7 cap7)
      have hm9 : Mv T5 ((T5.setCell ⟨X, 0, none⟩ (.int .i64 W)).setCell ⟨X, 1, none⟩ (.slice ad7 n7 cap7)) X (X + 1) :=
        ((Mv.refl _ _ _).setCell (p := ⟨X, 0, none⟩) (Nat.le_refl _) (Nat.lt_succ_self _) _).setCell (p := ⟨X, 1, none⟩) (Nat.le_refl _) (Nat.lt_succ_self _) _
      go_simp
      generalize (T5.setCell ⟨X, 0, none⟩ (.int .i64 W)).setCell ⟨X, 1, none⟩ (.slice ad7 n7 cap7) = W9 at *
      have hOD := (hOD.mv hm9 (by omega))
      have hPD := (hPD.mv hm9 (by omega))
      have hZD := (hZD.mv hm9 (by omega))
      have hVD := (World.cell?_of_block (a := a.add j) (hm9.block (a.add j).block (World.block_lt_of_cell? _ _ hVD) (by have := World.block_lt_of_cell? _ _ hV0; omega))).trans hVD
      have hBD := hBD.trans (hm9.below (by omega) (by omega))
      have hS9 := hS7.mv hm9 (by omega)
      clear HH x0 x1 y0 y1
      have HH := Lib.hid (show W9.cell? ⟨G, 0, none⟩ = some (.int .i64 W) ∧ W9.cell? ⟨G, 1, none⟩ = some (.slice ad5 n5 cap5) ∧ W9.cell? ⟨w.heap.size + 1, 1, none⟩ = some (.slice (some a) n2 cap2) ∧ W9.cell? (a.add j) = some (.slice adv nv capv) from ⟨hOD.c0, hOD.c1, hPD.c1, hVD⟩)
      refine hKq.out _ _ HH.out (fun _ => ?_)
      clear hKq Kq
      refine wpAnyH_take (i := 12) (oi := ⟨some 8, _, _, _, _, _⟩) (v := ?_) rfl (by kernel_rfl) (by kernel_rfl) (by kernel_rfl) (fun _ _ _ h => h) (Or.inl ⟨by rfl, ?_⟩) HH.out ?_
      rotate_left
      · intro wS hSw
        try dsimp only at hSw
        go_simp
        all_goals (with_reducible rfl)
      simp only [Act.put, List.setIfInBounds_toArray, List.set_cons_zero, List.set_cons_succ]
      refine wpAnyH_done (by kernel_rfl) ?_ _
      have x0 := hX9.c0
      have x1 := hX9.c1
      have c0 := hOD.c0
      have c1 := hOD.c1
      have f0 := hOD.f0
      have f1 := hOD.f1
      have hO8 := (hOD.set0 (.int .i64 W)).set1 (.slice ad7 n7 cap7)
      have hm8 : Mv W9 ((W9.setCell ⟨G, 0, none⟩ (.int .i64 W)).setCell ⟨G, 1, none⟩ (.slice ad7 n7 cap7)) G (G + 1) :=
        ((Mv.refl _ _ _).setCell (p := ⟨G, 0, none⟩) (Nat.le_refl _) (Nat.lt_succ_self _) _).setCell (p := ⟨G, 1, none⟩) (Nat.le_refl _) (Nat.lt_succ_self _) _
      have hZ8 := hZD.mv hm8 (by omega)
      have hP8 := hPD.mv hm8 (by omega)
      have HP8 := Lib.hid hP8
      have z8 := hm8.size
      have z9 := hm9.size
      have hS8 := (hS9.mv hm8 (by omega)).mono (l' := G + 1) (h' := ((W9.setCell ⟨G, 0, none⟩ (.int .i64 W)).setCell ⟨G, 1, none⟩ (.slice ad7 n7 cap7)).heap.size) (by omega) (by omega)
      have HB8 := Lib.hid (hBD.trans (hm8.below (by omega) (by omega)))
      have HR8 : Hid (insertV W rows xs = spanL W rows0 (vs.take (j + 1))) := by show _ = _; rw [spanL_s HX.out, ← HRW.out]
      have HS8 := Lib.hid hS8
      have HO8 := Lib.hid hO8
      have HZ8 := Lib.hid hZ8
      clear HH hX hX9 hPD hP8 hO8 hZ8 hS8 hS9 hm8 hm9 hOD hZD hBD hVD hS7
      go_wp2
      go_roundw
      case rel => exact ⟨j + 1, _, _, _, _, _, _, by omega, by go_num, HZ8.out, HP8.out, HO8.out, HS8.out, ⟨by omega, Nat.le_refl _, .inr (Nat.le_refl _)⟩, HR8, small_ins xs hsm, HB8.out⟩
      case measure => simp [intOf]; omega
    · go_simp
      have hX := Blk.new D0 (.int .i64 0) (.slice none 0 0) 26
      have bx := below_box D0 (.cells #[.int .i64 0, .slice none 0 0] 26)
      have zx : (D0.alloc (.cells #[.int .i64 0, .slice none 0 0] 26)).heap.size = D0.heap.size + 1 := by simp
      obtain ⟨X, eX⟩ : ∃ X, X = D0.heap.size := ⟨_, rfl⟩
      rw [← eX] at hX
      generalize D0.alloc (.cells #[.int .i64 0, .slice none 0 0] 26) = T5 at *
      rw [← eX]
      have hX1 : D0.heap.size ≤ X := by omega
      have hX2 : X < T5.heap.size := by omega
      clear eX
      have hOD := hOD.below bx (by omega)
      have hPD := hPD.below bx (by omega)
      have hZD := hZD.below bx (by omega)
      have hVD := (bx.cell (by have := World.block_lt_of_cell? _ _ hVD; omega)).trans hVD
      have hBD := hBD.trans (bx.mono (by omega))
      have hLD := hLD.below bx (by omega)
      have hXS := hXS.below bx (.inr (by omega))
      clear HH bx
      have HH := Lib.hid (show T5.cell? ⟨G, 0, none⟩ = some (.int .i64 W) ∧ T5.cell? ⟨G, 1, none⟩ = some (.slice ad5 n5 cap5) ∧ T5.cell? ⟨w.heap.size + 1, 1, none⟩ = some (.slice (some a) n2 cap2) ∧ T5.cell? (a.add j) = some (.slice adv nv capv) from ⟨hOD.c0, hOD.c1, hPD.c1, hVD⟩)
      refine hKq.out _ _ HH.out (fun _ => ?_)
      clear hKq Kq
      try simp only [Act.put, List.setIfInBounds_toArray, List.set_cons_zero, List.set_cons_succ]
      refine wpAnyH_ready (rs := [6]) (by kernel_rfl) (by simp) ?_
      refine AllReadyH.cons (o := ⟨some 30, _, _, _, _, _⟩) rfl (fun Kq hKq => ?_) AllReadyH.nil
      go_simp
      refine (spec_insert T5 (l := lo) (h := hi) (v := .agg #[.int .i64 W, .slice ad5 n5 cap5]) (b := (W, rows)) ⟨_, rfl, ⟨h0, h1⟩, _, _, _, rfl, hLD⟩ hsm hXS).mono ?_
      rintro e w5 ⟨u7, rfl, ⟨ad7, n7, cap7, us7, rfl, hw7, r7⟩, b7⟩
      have z7 := b7.size
      have hS7 := r7.sls
      have b7x := b7
      have hOD := hOD.below b7 (by omega)
      have hPD := hPD.below b7 (by omega)
      have hZD := hZD.below b7 (by omega)
      have hVD := (b7.cell (by have := World.block_lt_of_cell? _ _ hVD; omega)).trans hVD
      have hBD := hBD.trans (b7.mono (by omega))
      clear HH b7 r7 hLD hXS
      have HH := Lib.hid (show w5.cell? ⟨G, 0, none⟩ = some (.int .i64 W) ∧ w5.cell? ⟨G, 1, none⟩ = some (.slice ad5 n5 cap5) ∧ w5.cell? ⟨w.heap.size + 1, 1, none⟩ = some (.slice (some a) n2 cap2) ∧ w5.cell? (a.add j) = some (.slice adv nv capv) from ⟨hOD.c0, hOD.c1, hPD.c1, hVD⟩)
      
      replace hX := hX.below b7x (by omega)
      refine hKq.out _ _ HH.out (fun _ => ?_)
      clear hKq Kq
      refine wpAnyH_take (i := 7) (oi := ⟨some 23, _, _, _, _, _⟩) (v := ?_) rfl (by kernel_rfl) (by kernel_rfl) (by kernel_rfl) (fun _ _ _ h => h) (Or.inl ⟨by rfl, ?_⟩) HH.out ?_
      rotate_left
      · intro wS hSw
        try dsimp only at hSw
        go_simp
        all_goals (with_reducible rfl)
      simp only [Act.put, List.setIfInBounds_toArray, List.set_cons_zero, List.set_cons_succ]
      refine wpAnyH_take (i := 8) (oi := ⟨some 31, _, _, _, _, _⟩) (v := ?_) rfl (by kernel_rfl) (by kernel_rfl) (by kernel_rfl) (fun _ _ _ h => h) (Or.inl ⟨by rfl, ?_⟩) HH.out ?_
      rotate_left
      · intro wS hSw
        try dsimp only at hSw
        go_simp
        all_goals (with_reducible rfl)
      simp only [Act.put, List.setIfInBounds_toArray, List.set_cons_zero, List.set_cons_succ]
      refine wpAnyH_take (i := 9) (oi := ⟨some 32, _, _, _, _, _⟩) (v := ?_) rfl (by kernel_rfl) (by kernel_rfl) (by kernel_rfl) (fun _ _ _ h => h) (Or.inl ⟨by rfl, ?_⟩) HH.out ?_
      rotate_left
      · intro wS hSw
        try dsimp only at hSw
        go_simp
        all_goals (with_reducible rfl)
      simp only [Act.put, List.setIfInBounds_toArray, List.set_cons_zero, List.set_cons_succ]
      refine wpAnyH_ready (rs := [11]) (by kernel_rfl) (by simp) ?_
      refine AllReadyH.cons (o := ⟨none, _, _, _, _, _⟩) rfl (fun Kq hKq => ?_) AllReadyH.nil
      have x0 := hX.c0
      have x1 := hX.c1
      have y0 := hX.f0
      have y1 := hX.f1
      have hX9 := (hX.set0 (.int .i64 W)).set1 (.slice ad7 n7 cap7)
      have hm9 : Mv w5 ((w5.setCell ⟨X, 0, none⟩ (.int .i64 W)).setCell ⟨X, 1, none⟩ (.slice ad7 n7 cap7)) X (X + 1) :=
        ((Mv.refl _ _ _).setCell (p := ⟨X, 0, none⟩) (Nat.le_refl _) (Nat.lt_succ_self _) _).setCell (p := ⟨X, 1, none⟩) (Nat.le_refl _) (Nat.lt_succ_self _) _
      go_simp
      generalize (w5.setCell ⟨X, 0, none⟩ (.int .i64 W)).setCell ⟨X, 1, none⟩ (.slice ad7 n7 cap7) = W9 at *
      have hOD := (hOD.mv hm9 (by omega))
      have hPD := (hPD.mv hm9 (by omega))
      have hZD := (hZD.mv hm9 (by omega))
      have hVD := (World.cell?_of_block (a := a.add j) (hm9.block (a.add j).block (World.block_lt_of_cell? _ _ hVD) (by have := World.block_lt_of_cell? _ _ hV0; omega))).trans hVD
      have hBD := hBD.trans (hm9.below (by omega) (by omega))
      have hS9 := hS7.mv hm9 (by omega)
      clear HH x0 x1 y0 y1
      have HH := Lib.hid (show W9.cell? ⟨G, 0, none⟩ = some (.int .i64 W) ∧ W9.cell? ⟨G, 1, none⟩ = some (.slice ad5 n5 cap5) ∧ W9.cell? ⟨w.heap.size + 1, 1, none⟩ = some (.slice (some a) n2 cap2) ∧ W9.cell? (a.add j) = some (.slice adv nv capv) from ⟨hOD.c0, hOD.c1, hPD.c1, hVD⟩)
      refine hKq.out _ _ HH.out (fun _ => ?_)
      clear hKq Kq
      refine wpAnyH_take (i := 12) (oi := ⟨some 8, _, _, _, _, _⟩) (v := ?_) rfl (by kernel_rfl) (by kernel_rfl) (by kernel_rfl) (fun _ _ _ h => h) (Or.inl ⟨by rfl, ?_⟩) HH.out ?_
      rotate_left
      · intro wS hSw
        try dsimp only at hSw
        go_simp
        all_goals (with_reducible rfl)
      simp only [Act.put, List.setIfInBounds_toArray, List.set_cons_zero, List.set_cons_succ]
      refine wpAnyH_done (by kernel_rfl) ?_ _
      have x0 := hX9.c0
      have x1 := hX9.c1
      have c0 := hOD.c0
      have c1 := hOD.c1
      have f0 := hOD.f0
      have f1 := hOD.f1
      have hO8 := (hOD.set0 (.int .i64 W)).set1 (.slice ad7 n7 cap7)
      have hm8 : Mv W9 ((W9.setCell ⟨G, 0, none⟩ (.int .i64 W)).setCell ⟨G, 1, none⟩ (.slice ad7 n7 cap7)) G (G + 1) :=
        ((Mv.refl _ _ _).setCell (p := ⟨G, 0, none⟩) (Nat.le_refl _) (Nat.lt_succ_self _) _).setCell (p := ⟨G, 1, none⟩) (Nat.le_refl _) (Nat.lt_succ_self _) _
      have hZ8 := hZD.mv hm8 (by omega)
      have hP8 := hPD.mv hm8 (by omega)
      have HP8 := Lib.hid hP8
      have z8 := hm8.size
      have z9 := hm9.size
      have hS8 := (hS9.mv hm8 (by omega)).mono (l' := G + 1) (h' := ((W9.setCell ⟨G, 0, none⟩ (.int .i64 W)).setCell ⟨G, 1, none⟩ (.slice ad7 n7 cap7)).heap.size) (by omega) (by omega)
      have HB8 := Lib.hid (hBD.trans (hm8.below (by omega) (by omega)))
      have HR8 : Hid (insertV W rows xs = spanL W rows0 (vs.take (j + 1))) := by show _ = _; rw [spanL_s HX.out, ← HRW.out]
      have HS8 := Lib.hid hS8
      have HO8 := Lib.hid hO8
      have HZ8 := Lib.hid hZ8
      clear HH hX hX9 hPD hP8 hO8 hZ8 hS8 hS9 hm8 hm9 hOD hZD hBD hVD hS7
      go_wp2
      go_roundw
      case rel => exact ⟨j + 1, _, _, _, _, _, _, by omega, by go_num, HZ8.out, HP8.out, HO8.out, HS8.out, ⟨by omega, Nat.le_refl _, .inr (Nat.le_refl _)⟩, HR8, small_ins xs hsm, HB8.out⟩
      case measure => simp [intOf]; omega
end Go.Proofs.YtefcfeikooknmaaGreat.SubW
namespace Go.Proofs.YtefcfeikooknmaaGreat.SubW
open Go.ChangeShapes Go.WideShapes Go.ChangeAt Go.RowKit
open Go.Proofs.YtefcfeikooknmaaGreat.Drawn Go.Proofs.YtefcfeikooknmaaGreat.Seq Go.Proofs.YtefcfeikooknmaaGreat.Help Go.Proofs.YtefcfeikooknmaaGreat.Field Go.Proofs.YtefcfeikooknmaaGreat.FieldW Go.Proofs.YtefcfeikooknmaaGreat.Vec Go.Proofs.YtefcfeikooknmaaGreat.VecW Go.Proofs.YtefcfeikooknmaaGreat.Mat Go.Proofs.YtefcfeikooknmaaGreat.MatW Go.Proofs.YtefcfeikooknmaaGreat.MatP Go.Proofs.YtefcfeikooknmaaGreat.Lin Go.Proofs.YtefcfeikooknmaaGreat.Rref Go.Proofs.YtefcfeikooknmaaGreat.RedW Go.Proofs.YtefcfeikooknmaaGreat.SolP Go.Proofs.YtefcfeikooknmaaGreat.Shape Go.Proofs.YtefcfeikooknmaaGreat.Bas Go.Proofs.YtefcfeikooknmaaGreat.BasW

theorem coord_more {rows : List (List Int)} {r v : List Int} {j : Nat} (h : rows[j]? = some r) : coordL (rows.take (j + 1)) v = coordL (rows.take j) v ++ [v[(Vec.lead r).toNat]?.getD 0] := by
  unfold coordL
  rw [take_more h, List.map_append]; rfl
theorem dim_in {W : Int} {rows : List (List Int)} (h : Small rows) : 0 ≤ dimOf W rows ∧ dimOf W rows ≤ 1048576 := by
  have := h.len
  unfold dimOf
  cases isBas W rows
  · exact ⟨Int.le_refl _, by show (0 : Int) ≤ 1048576; omega⟩
  · exact ⟨by show (0 : Int) ≤ rows.length; omega, by show (rows.length : Int) ≤ 1048576; omega⟩
theorem small_span {W : Int} : ∀ (vs : List (List Int)) {rows : List (List Int)}, Small rows → Small (spanL W rows vs)
  | [], _, h => h
  | v :: vs, _, h => small_span vs (small_ins v h)
theorem small_sum {b b2 : Bs} (h : BasisF b) : Small (sumOf b b2).2 := by
  unfold sumOf
  cases pair b b2
  · exact h
  · exact small_span _ h
end Go.Proofs.YtefcfeikooknmaaGreat.SubW
namespace Go.Proofs.YtefcfeikooknmaaGreat.SubW
open Go.ChangeShapes Go.WideShapes Go.ChangeAt Go.RowKit
open Go.Proofs.YtefcfeikooknmaaGreat.Drawn Go.Proofs.YtefcfeikooknmaaGreat.Seq Go.Proofs.YtefcfeikooknmaaGreat.Help Go.Proofs.YtefcfeikooknmaaGreat.Field Go.Proofs.YtefcfeikooknmaaGreat.FieldW Go.Proofs.YtefcfeikooknmaaGreat.Vec Go.Proofs.YtefcfeikooknmaaGreat.VecW Go.Proofs.YtefcfeikooknmaaGreat.Mat Go.Proofs.YtefcfeikooknmaaGreat.MatW Go.Proofs.YtefcfeikooknmaaGreat.MatP Go.Proofs.YtefcfeikooknmaaGreat.Lin Go.Proofs.YtefcfeikooknmaaGreat.Rref Go.Proofs.YtefcfeikooknmaaGreat.RedW Go.Proofs.YtefcfeikooknmaaGreat.SolP Go.Proofs.YtefcfeikooknmaaGreat.Shape Go.Proofs.YtefcfeikooknmaaGreat.Bas Go.Proofs.YtefcfeikooknmaaGreat.BasW

theorem small_span0 {W : Int} (vs : List (List Int)) : Small (spanOf vs W).2 := by
  unfold spanOf
  cases inW W
  · exact ⟨Nat.zero_le _, by simp⟩
  · exact small_span vs ⟨Nat.zero_le _, by simp⟩
theorem small_orth (b : Bs) : BasisF (orthOf b) := by
  show Small (orthOf b).2
  unfold orthOf
  cases isBas b.1 b.2
  · exact ⟨Nat.zero_le _, by simp⟩
  · exact small_span0 _
set_option maxRecDepth 100000 in
set_option maxHeartbeats 1600000 in
theorem spec_orth (w : World) {l h : Nat} {v : Value} {b : Bs} (s : BasisI w l h v b) : Calls Tryz.prog 15 #[v] w (Ret (fun w l h u => BasisI w l h u (orthOf b)) w) := by
  obtain ⟨W, rows⟩ := b
  obtain ⟨u, rfl, hw, ad, n, cap, rfl, s⟩ := s
  have h0 : -9223372036854775808 ≤ W := hw.1
  have h1 : W ≤ 9223372036854775807 := hw.2
  have hE : orthOf (W, rows) = bif isBas W rows then spanOf (bif decide (rows.length = 0) then identity W else nullOf rows) W else (0, []) := rfl
  rw [s.len] at hE
  have hbig := s.big
  have hcap := s.le
  unfold maxLen at hbig
  have hA := (Blk.new w (.int .i64 W) (.slice ad n cap) 26).alloc (.cells #[.int .i64 0, .slice none 0 0] 26)
  have hR := Blk.new (w.alloc (.cells #[.int .i64 W, .slice ad n cap] 26)) (.int .i64 0) (.slice none 0 0) 26
  have hb := (below_box w (.cells #[.int .i64 W, .slice ad n cap] 26)).alloc (by simp) (.cells #[.int .i64 0, .slice none 0 0] 26)
  have hz1 : ((w.alloc (.cells #[.int .i64 W, .slice ad n cap] 26)).alloc (.cells #[.int .i64 0, .slice none 0 0] 26)).heap.size = w.heap.size + 2 := by simp
  simp only [World.size_alloc] at hR
  have HK := Lib.hid (spec_isBas ((w.alloc (.cells #[.int .i64 W, .slice ad n cap] 26)).alloc (.cells #[.int .i64 0, .slice none 0 0] 26)) (l := l) (h := h) (v := .agg #[.int .i64 W, .slice ad n cap]) (b := (W, rows)) ⟨_, rfl, hw, _, _, _, rfl, s.below hb (.inr (Nat.le_refl _))⟩)
  have HS := Lib.hid (fun w' (b : Below w.heap.size w w') => s.below b (.inr (Nat.le_refl _)))
  dsimp only at HK
  have c0 := hA.c0
  have c1 := hA.c1
  clear s
  cases hI : isBas W rows
  · rw [hI] at HK hE
    have hE : orthOf (W, rows) = (0, []) := hE
    rw [hE]
    have HN := fun w' => spec_new0 w' 0 (by omega) (by omega)
    rw [show (bif inW 0 then (0 : Int) else 0) = 0 by cases inW 0 <;> rfl] at HN
    have HN := Lib.hid HN
    clear hE hI
    go_enter Tryz.func15, Tryz.ntmps15
    go_wp2_with fail
    go_at_call 36
    generalize (w.alloc (.cells #[.int .i64 W, .slice ad n cap] 26)).alloc (.cells #[.int .i64 0, .slice none 0 0] 26) = D at *
    refine HK.out.mono ?_
    rintro e w1 ⟨rfl, b1⟩
    have z1 := b1.size
    have hR1 := hR.below b1 (by omega)
    have hb1 := hb.trans (b1.mono (by omega))
    clear b1 hA hR hb HK c0 c1
    go_wp2_with fail
    go_at_call 37
    refine (HN.out _).mono ?_
    rintro e w5 ⟨rfl, b5⟩
    have z5 := b5.size
    have hZ := hR1.below b5 (by omega)
    have hbr := hb1.trans (b5.mono (by omega))
    have hLr := (Grid.nil w5 w.heap.size w.heap.size 3 61 none).sls
    clear hR1 hb1 b5
    have y0 := hZ.c0
    have y1 := hZ.c1
    have f0 := hZ.f0
    have f1 := hZ.f1
    go_wp2
    have hO9 := (hZ.set0 (.int .i64 0)).set1 (.slice none 0 0)
    have g0 := hO9.c0
    have g1 := hO9.c1
    have HM := Lib.hid (show Mv w5 ((w5.setCell ⟨w.heap.size + 1, 0, none⟩ (.int .i64 0)).setCell ⟨w.heap.size + 1, 1, none⟩ (.slice none 0 0)) (w.heap.size + 1) (w.heap.size + 1 + 1) from
      ((Mv.refl _ _ _).setCell (p := ⟨w.heap.size + 1, 0, none⟩) (Nat.le_refl _) (Nat.lt_succ_self _) _).setCell (p := ⟨w.heap.size + 1, 1, none⟩) (Nat.le_refl _) (Nat.lt_succ_self _) _)
    have HLr := Lib.hid hLr
    have HB := Lib.hid hbr
    clear hZ hLr hbr hO9
    generalize (w5.setCell ⟨w.heap.size + 1, 0, none⟩ (.int .i64 0)).setCell ⟨w.heap.size + 1, 1, none⟩ (.slice none 0 0) = W9 at *
    refine bodyPost_ret (by simp [results, Tryz.results15, go_sem, g0, g1]; rfl) rfl ?_
    have hm := HM.out
    exact ⟨_, rfl, ⟨_, rfl, ⟨by show (-9223372036854775808 : Int) ≤ 0; omega, by show (0 : Int) ≤ 9223372036854775807; omega⟩, _, _, _, rfl, (HLr.out.mv hm (by omega)).mono (by omega) (by have := hm.size; omega)⟩, HB.out.trans (hm.below (by omega) HB.out.size)⟩
  rw [hI] at HK hE
  have hE : orthOf (W, rows) = spanOf (bif decide (n = 0) then identity W else nullOf rows) W := hE
  rw [hE]
  clear hE hI
  by_cases hn : n = 0
  · subst hn
    have HID := Lib.hid (fun w' => spec_identity w' W h0 h1)
    have HSP := Lib.hid (fun (w' : World) (l' h' : Nat) (ad' : Option Addr) (n' cap' : Nat) (s' : Sls w' l' h' ad' n' cap' (identity W)) => spec_span w' s' W h0 h1)
    rw [show (bif decide ((0 : Nat) = 0) then identity W else nullOf rows) = identity W from rfl]
    go_enter Tryz.func15, Tryz.ntmps15
    go_wp2_with fail
    go_at_call 36
    generalize (w.alloc (.cells #[.int .i64 W, .slice ad 0 cap] 26)).alloc (.cells #[.int .i64 0, .slice none 0 0] 26) = D at *
    refine HK.out.mono ?_
    rintro e w1 ⟨rfl, b1⟩
    have z1 := b1.size
    have hA1 := hA.below b1 (by omega)
    have hR1 := hR.below b1 (by omega)
    have hb1 := hb.trans (b1.mono (by omega))
    clear b1 hA hR hb HK c0 c1
    have c1 := hA1.c1
    have e1 : w1.drew.cell? ⟨w.heap.size, 0, none⟩ = some (.int .i64 W) := hA1.c0
    have e2 : w1.drew.cell? ⟨w.heap.size, 1, none⟩ = some (.slice ad 0 cap) := hA1.c1
    have hRD : Blk w1.drew (w.heap.size + 1) 26 (.int .i64 0) (.slice none 0 0) := ⟨hR1.obj⟩
    have hbD : Below w.heap.size w w1.drew := hb1.drew
    have zD : w.heap.size + 2 ≤ w1.drew.heap.size := by show w.heap.size + 2 ≤ w1.heap.size; omega
    clear hA1 hR1 hb1
    go_wp2
    refine wp_region_last (S := fun w' => w'.cell? ⟨w.heap.size, 0, none⟩ = some (.int .i64 W) ∧ w'.cell? ⟨w.heap.size, 1, none⟩ = some (.slice ad 0 cap)) 6 (by kernel_rfl) (by kernel_rfl) rfl ?_
    clear c1
    generalize w1.drew = D1 at *
    have HH := Lib.hid (show D1.cell? ⟨w.heap.size, 0, none⟩ = some (.int .i64 W) ∧ D1.cell? ⟨w.heap.size, 1, none⟩ = some (.slice ad 0 cap) from ⟨e1, e2⟩)
    refine wpAnyH_take (i := 0) (oi := ⟨some 11, _, _, _, _, _⟩) (v := ?_) rfl (by kernel_rfl) (by kernel_rfl) (by kernel_rfl) (fun _ _ _ h => h) (Or.inl ⟨by rfl, ?_⟩) HH.out ?_
    rotate_left
    · intro wS hSw
      try dsimp only at hSw
      go_simp
      all_goals (with_reducible rfl)
    simp only [Act.put, List.setIfInBounds_toArray, List.set_cons_zero, List.set_cons_succ]
    refine wpAnyH_take (i := 1) (oi := ⟨some 12, _, _, _, _, _⟩) (v := ?_) rfl (by kernel_rfl) (by kernel_rfl) (by kernel_rfl) (fun _ _ _ h => h) (Or.inl ⟨by rfl, ?_⟩) HH.out ?_
    rotate_left
    · intro wS hSw
      try dsimp only at hSw
      go_simp
      all_goals (with_reducible rfl)
    simp only [Act.put, List.setIfInBounds_toArray, List.set_cons_zero, List.set_cons_succ]
    refine wpAnyH_take (i := 3) (oi := ⟨some 14, _, _, _, _, _⟩) (v := ?_) rfl (by kernel_rfl) (by kernel_rfl) (by kernel_rfl) (fun _ _ _ h => h) (Or.inl ⟨by rfl, ?_⟩) HH.out ?_
    rotate_left
    · intro wS hSw
      try dsimp only at hSw
      go_simp
      all_goals (with_reducible rfl)
    simp only [Act.put, List.setIfInBounds_toArray, List.set_cons_zero, List.set_cons_succ]
    refine wpAnyH_take (i := 4) (oi := ⟨some 15, _, _, _, _, _⟩) (v := ?_) rfl (by kernel_rfl) (by kernel_rfl) (by kernel_rfl) (fun _ _ _ h => h) (Or.inl ⟨by rfl, ?_⟩) HH.out ?_
    rotate_left
    · intro wS hSw
      try dsimp only at hSw
      go_simp
      all_goals (with_reducible rfl)
    simp only [Act.put, List.setIfInBounds_toArray, List.set_cons_zero, List.set_cons_succ]
    refine wpAnyH_ready (rs := [2]) (by kernel_rfl) (by simp) ?_
    refine AllReadyH.cons (o := ⟨some 13, _, _, _, _, _⟩) rfl (fun Kq hKq => ?_) AllReadyH.nil
    go_simp
    refine (HID.out D1).mono ?_
    rintro e w5 ⟨ad5, n5, cap5, us5, rfl, r5, b5⟩
    have z5 := b5.size
    have f1 := (b5.cell (World.block_lt_of_cell? _ _ e1)).trans e1
    have f2 := (b5.cell (World.block_lt_of_cell? _ _ e2)).trans e2
    have hR5 := hRD.below b5 (by omega)
    have hb5 := hbD.trans (b5.mono (by omega))
    have s5 := r5.sls
    clear e1 e2 hRD hbD b5 r5 HH
    have HH := Lib.hid (show w5.cell? ⟨w.heap.size, 0, none⟩ = some (.int .i64 W) ∧ w5.cell? ⟨w.heap.size, 1, none⟩ = some (.slice ad 0 cap) from ⟨f1, f2⟩)
    refine hKq.out _ _ HH.out (fun _ => ?_)
    clear hKq Kq
    try simp only [Act.put, List.setIfInBounds_toArray, List.set_cons_zero, List.set_cons_succ]
    refine wpAnyH_ready (rs := [5]) (by kernel_rfl) (by simp) ?_
    refine AllReadyH.cons (o := ⟨some 16, _, _, _, _, _⟩) rfl (fun Kq hKq => ?_) AllReadyH.nil
    go_simp
    refine (HSP.out _ _ _ _ _ _ s5).mono ?_
    rintro e w6 ⟨u6, rfl, ⟨v6, rfl, hw6, ad6, n6, cap6, rfl, s6⟩, b6⟩
    have z6 := b6.size
    have g1 := (b6.cell (World.block_lt_of_cell? _ _ f1)).trans f1
    have g2 := (b6.cell (World.block_lt_of_cell? _ _ f2)).trans f2
    have hZ := hR5.below b6 (by omega)
    have hbr := hb5.trans (b6.mono (by omega))
    have hLr := s6
    have y0 := hZ.c0
    have y1 := hZ.c1
    have f0 := hZ.f0
    have f9 := hZ.f1
    clear f1 f2 hR5 hb5 b6 s5 HH
    have HH := Lib.hid (show w6.cell? ⟨w.heap.size, 0, none⟩ = some (.int .i64 W) ∧ w6.cell? ⟨w.heap.size, 1, none⟩ = some (.slice ad 0 cap) from ⟨g1, g2⟩)
    refine hKq.out _ _ HH.out (fun _ => ?_)
    clear hKq Kq
    try simp only [Act.put, List.setIfInBounds_toArray, List.set_cons_zero, List.set_cons_succ]
    refine wpAnyH_ready (rs := [6]) (by kernel_rfl) (by simp) ?_
    refine AllReadyH.cons (o := ⟨none, .move (.const (.bool false)), _, _, _, _⟩) rfl (fun Kq hKq => ?_) AllReadyH.nil
    go_simp
    refine hKq.out _ _ HH.out (fun _ => ?_)
    clear hKq Kq
    refine wpAnyH_done (by kernel_rfl) ?_ _
    refine ⟨_, rfl, ?_⟩
    go_simp
    clear g1 g2
    have hO9 := (hZ.set0 (.int .i64 (spanOf (identity W) W).1)).set1 (.slice ad6 n6 cap6)
    have g0 := hO9.c0
    have g1 := hO9.c1
    have HM := Lib.hid (show Mv w6 ((w6.setCell ⟨w.heap.size + 1, 0, none⟩ (.int .i64 (spanOf (identity W) W).1)).setCell ⟨w.heap.size + 1, 1, none⟩ (.slice ad6 n6 cap6)) (w.heap.size + 1) (w.heap.size + 1 + 1) from
      ((Mv.refl _ _ _).setCell (p := ⟨w.heap.size + 1, 0, none⟩) (Nat.le_refl _) (Nat.lt_succ_self _) _).setCell (p := ⟨w.heap.size + 1, 1, none⟩) (Nat.le_refl _) (Nat.lt_succ_self _) _)
    have HLr := Lib.hid hLr
    have HB := Lib.hid hbr
    clear hZ hLr hbr hO9
    go_wp2
    generalize (w6.setCell ⟨w.heap.size + 1, 0, none⟩ (.int .i64 (spanOf (identity W) W).1)).setCell ⟨w.heap.size + 1, 1, none⟩ (.slice ad6 n6 cap6) = W9 at *
    refine bodyPost_ret (by simp [results, Tryz.results15, go_sem, g0, g1]; rfl) rfl ?_
    have hm := HM.out
    exact ⟨_, rfl, ⟨_, rfl, hw6, _, _, _, rfl, (HLr.out.mv hm (by omega)).mono (by omega) (by have := hm.size; omega)⟩, HB.out.trans (hm.below (by omega) HB.out.size)⟩
  · have hn2 : ((n : Int) == 0) = false := by simp; omega
    rw [show (bif decide (n = 0) then identity W else nullOf rows) = nullOf rows by rw [decide_eq_false hn]; rfl]
    have HID := Lib.hid (fun (w' : World) (l' h' : Nat) (s' : Sls w' l' h' ad n cap rows) => spec_null w' s')
    have HSP := Lib.hid (fun (w' : World) (l' h' : Nat) (ad' : Option Addr) (n' cap' : Nat) (s' : Sls w' l' h' ad' n' cap' (nullOf rows)) => spec_span w' s' W h0 h1)
    go_enter Tryz.func15, Tryz.ntmps15
    go_wp2_with fail
    go_at_call 36
    generalize (w.alloc (.cells #[.int .i64 W, .slice ad n cap] 26)).alloc (.cells #[.int .i64 0, .slice none 0 0] 26) = D at *
    refine HK.out.mono ?_
    rintro e w1 ⟨rfl, b1⟩
    have z1 := b1.size
    have hA1 := hA.below b1 (by omega)
    have hR1 := hR.below b1 (by omega)
    have hb1 := hb.trans (b1.mono (by omega))
    clear b1 hA hR hb HK c0 c1
    have c1 := hA1.c1
    have e1 : w1.drew.cell? ⟨w.heap.size, 0, none⟩ = some (.int .i64 W) := hA1.c0
    have e2 : w1.drew.cell? ⟨w.heap.size, 1, none⟩ = some (.slice ad n cap) := hA1.c1
    have hRD : Blk w1.drew (w.heap.size + 1) 26 (.int .i64 0) (.slice none 0 0) := ⟨hR1.obj⟩
    have hbD : Below w.heap.size w w1.drew := hb1.drew
    have zD : w.heap.size + 2 ≤ w1.drew.heap.size := by show w.heap.size + 2 ≤ w1.heap.size; omega
    clear hA1 hR1 hb1
    go_wp2
    refine wp_region_last (S := fun w' => w'.cell? ⟨w.heap.size, 0, none⟩ = some (.int .i64 W) ∧ w'.cell? ⟨w.heap.size, 1, none⟩ = some (.slice ad n cap)) 6 (by kernel_rfl) (by kernel_rfl) rfl ?_
    clear c1
    generalize w1.drew = D1 at *
    have HH := Lib.hid (show D1.cell? ⟨w.heap.size, 0, none⟩ = some (.int .i64 W) ∧ D1.cell? ⟨w.heap.size, 1, none⟩ = some (.slice ad n cap) from ⟨e1, e2⟩)
    refine wpAnyH_take (i := 0) (oi := ⟨some 17, _, _, _, _, _⟩) (v := ?_) rfl (by kernel_rfl) (by kernel_rfl) (by kernel_rfl) (fun _ _ _ h => h) (Or.inl ⟨by rfl, ?_⟩) HH.out ?_
    rotate_left
    · intro wS hSw
      try dsimp only at hSw
      go_simp
      all_goals (with_reducible rfl)
    simp only [Act.put, List.setIfInBounds_toArray, List.set_cons_zero, List.set_cons_succ]
    refine wpAnyH_take (i := 1) (oi := ⟨some 18, _, _, _, _, _⟩) (v := ?_) rfl (by kernel_rfl) (by kernel_rfl) (by kernel_rfl) (fun _ _ _ h => h) (Or.inl ⟨by rfl, ?_⟩) HH.out ?_
    rotate_left
    · intro wS hSw
      try dsimp only at hSw
      go_simp
      all_goals (with_reducible rfl)
    simp only [Act.put, List.setIfInBounds_toArray, List.set_cons_zero, List.set_cons_succ]
    refine wpAnyH_take (i := 3) (oi := ⟨some 20, _, _, _, _, _⟩) (v := ?_) rfl (by kernel_rfl) (by kernel_rfl) (by kernel_rfl) (fun _ _ _ h => h) (Or.inl ⟨by rfl, ?_⟩) HH.out ?_
    rotate_left
    · intro wS hSw
      try dsimp only at hSw
      go_simp
      all_goals (with_reducible rfl)
    simp only [Act.put, List.setIfInBounds_toArray, List.set_cons_zero, List.set_cons_succ]
    refine wpAnyH_take (i := 4) (oi := ⟨some 21, _, _, _, _, _⟩) (v := ?_) rfl (by kernel_rfl) (by kernel_rfl) (by kernel_rfl) (fun _ _ _ h => h) (Or.inl ⟨by rfl, ?_⟩) HH.out ?_
    rotate_left
    · intro wS hSw
      try dsimp only at hSw
      go_simp
      all_goals (with_reducible rfl)
    simp only [Act.put, List.setIfInBounds_toArray, List.set_cons_zero, List.set_cons_succ]
    refine wpAnyH_ready (rs := [2]) (by kernel_rfl) (by simp) ?_
    refine AllReadyH.cons (o := ⟨some 19, _, _, _, _, _⟩) rfl (fun Kq hKq => ?_) AllReadyH.nil
    go_simp
    refine (HID.out D1 _ _ (HS.out D1 hbD)).mono ?_
    rintro e w5 ⟨ad5, n5, cap5, us5, rfl, r5, b5⟩
    have z5 := b5.size
    have f1 := (b5.cell (World.block_lt_of_cell? _ _ e1)).trans e1
    have f2 := (b5.cell (World.block_lt_of_cell? _ _ e2)).trans e2
    have hR5 := hRD.below b5 (by omega)
    have hb5 := hbD.trans (b5.mono (by omega))
    have s5 := r5.sls
    clear e1 e2 hRD hbD b5 r5 HH
    have HH := Lib.hid (show w5.cell? ⟨w.heap.size, 0, none⟩ = some (.int .i64 W) ∧ w5.cell? ⟨w.heap.size, 1, none⟩ = some (.slice ad n cap) from ⟨f1, f2⟩)
    refine hKq.out _ _ HH.out (fun _ => ?_)
    clear hKq Kq
    try simp only [Act.put, List.setIfInBounds_toArray, List.set_cons_zero, List.set_cons_succ]
    refine wpAnyH_ready (rs := [5]) (by kernel_rfl) (by simp) ?_
    refine AllReadyH.cons (o := ⟨some 22, _, _, _, _, _⟩) rfl (fun Kq hKq => ?_) AllReadyH.nil
    go_simp
    refine (HSP.out _ _ _ _ _ _ s5).mono ?_
    rintro e w6 ⟨u6, rfl, ⟨v6, rfl, hw6, ad6, n6, cap6, rfl, s6⟩, b6⟩
    have z6 := b6.size
    have g1 := (b6.cell (World.block_lt_of_cell? _ _ f1)).trans f1
    have g2 := (b6.cell (World.block_lt_of_cell? _ _ f2)).trans f2
    have hZ := hR5.below b6 (by omega)
    have hbr := hb5.trans (b6.mono (by omega))
    have hLr := s6
    have y0 := hZ.c0
    have y1 := hZ.c1
    have f0 := hZ.f0
    have f9 := hZ.f1
    clear f1 f2 hR5 hb5 b6 s5 HH
    have HH := Lib.hid (show w6.cell? ⟨w.heap.size, 0, none⟩ = some (.int .i64 W) ∧ w6.cell? ⟨w.heap.size, 1, none⟩ = some (.slice ad n cap) from ⟨g1, g2⟩)
    refine hKq.out _ _ HH.out (fun _ => ?_)
    clear hKq Kq
    try simp only [Act.put, List.setIfInBounds_toArray, List.set_cons_zero, List.set_cons_succ]
    refine wpAnyH_ready (rs := [6]) (by kernel_rfl) (by simp) ?_
    refine AllReadyH.cons (o := ⟨none, .move (.const (.bool false)), _, _, _, _⟩) rfl (fun Kq hKq => ?_) AllReadyH.nil
    go_simp
    refine hKq.out _ _ HH.out (fun _ => ?_)
    clear hKq Kq
    refine wpAnyH_done (by kernel_rfl) ?_ _
    refine ⟨_, rfl, ?_⟩
    go_simp
    clear g1 g2
    have hO9 := (hZ.set0 (.int .i64 (spanOf (nullOf rows) W).1)).set1 (.slice ad6 n6 cap6)
    have g0 := hO9.c0
    have g1 := hO9.c1
    have HM := Lib.hid (show Mv w6 ((w6.setCell ⟨w.heap.size + 1, 0, none⟩ (.int .i64 (spanOf (nullOf rows) W).1)).setCell ⟨w.heap.size + 1, 1, none⟩ (.slice ad6 n6 cap6)) (w.heap.size + 1) (w.heap.size + 1 + 1) from
      ((Mv.refl _ _ _).setCell (p := ⟨w.heap.size + 1, 0, none⟩) (Nat.le_refl _) (Nat.lt_succ_self _) _).setCell (p := ⟨w.heap.size + 1, 1, none⟩) (Nat.le_refl _) (Nat.lt_succ_self _) _)
    have HLr := Lib.hid hLr
    have HB := Lib.hid hbr
    clear hZ hLr hbr hO9
    go_wp2
    generalize (w6.setCell ⟨w.heap.size + 1, 0, none⟩ (.int .i64 (spanOf (nullOf rows) W).1)).setCell ⟨w.heap.size + 1, 1, none⟩ (.slice ad6 n6 cap6) = W9 at *
    refine bodyPost_ret (by simp [results, Tryz.results15, go_sem, g0, g1]; rfl) rfl ?_
    have hm := HM.out
    exact ⟨_, rfl, ⟨_, rfl, hw6, _, _, _, rfl, (HLr.out.mv hm (by omega)).mono (by omega) (by have := hm.size; omega)⟩, HB.out.trans (hm.below (by omega) HB.out.size)⟩
set_option maxRecDepth 100000 in
set_option maxHeartbeats 1600000 in
theorem spec_inter (w : World) {l h l2 h2 : Nat} {v v2 : Value} {b b2 : Bs} (s : BasisI w l h v b) (s2 : BasisI w l2 h2 v2 b2) :
    Calls Tryz.prog 21 #[v, v2] w (Ret (fun w l h u => BasisI w l h u (interOf b b2)) w) := by
  obtain ⟨W, rows0⟩ := b
  obtain ⟨W2, vs⟩ := b2
  obtain ⟨u, rfl, hw, ad, n, cap, rfl, s⟩ := s
  obtain ⟨u2, rfl, hw2, ad2, n2, cap2, rfl, s2⟩ := s2
  have hE : interOf (W, rows0) (W2, vs) = bif pairB W rows0 W2 vs then orthOf (sumOf (orthOf (W, rows0)) (orthOf (W2, vs))) else (0, []) := rfl
  have hA := ((Blk.new w (.int .i64 W) (.slice ad n cap) 26).alloc (.cells #[.int .i64 W2, .slice ad2 n2 cap2] 26)).alloc (.cells #[.int .i64 0, .slice none 0 0] 26)
  have hP := (Blk.new (w.alloc (.cells #[.int .i64 W, .slice ad n cap] 26)) (.int .i64 W2) (.slice ad2 n2 cap2) 26).alloc (.cells #[.int .i64 0, .slice none 0 0] 26)
  have hR := Blk.new ((w.alloc (.cells #[.int .i64 W, .slice ad n cap] 26)).alloc (.cells #[.int .i64 W2, .slice ad2 n2 cap2] 26)) (.int .i64 0) (.slice none 0 0) 26
  have hb := ((below_box w (.cells #[.int .i64 W, .slice ad n cap] 26)).alloc (by simp) (.cells #[.int .i64 W2, .slice ad2 n2 cap2] 26)).alloc (by simp; omega) (.cells #[.int .i64 0, .slice none 0 0] 26)
  have hz1 : (((w.alloc (.cells #[.int .i64 W, .slice ad n cap] 26)).alloc (.cells #[.int .i64 W2, .slice ad2 n2 cap2] 26)).alloc (.cells #[.int .i64 0, .slice none 0 0] 26)).heap.size = w.heap.size + 3 := by simp
  simp only [World.size_alloc] at hP hR
  have HI := fun w' (b : Below w.heap.size w w') => (show BasisI w' l h (.agg #[.int .i64 W, .slice ad n cap]) (W, rows0) from ⟨_, rfl, hw, _, _, _, rfl, s.below b (.inr (Nat.le_refl _))⟩)
  have HI2 := fun w' (b : Below w.heap.size w w') => (show BasisI w' l2 h2 (.agg #[.int .i64 W2, .slice ad2 n2 cap2]) (W2, vs) from ⟨_, rfl, hw2, _, _, _, rfl, s2.below b (.inr (Nat.le_refl _))⟩)
  have HK := Lib.hid (fun w' (b : Below w.heap.size w w') => spec_pairB w' (HI w' b) (HI2 w' b))
  have HOA := Lib.hid (fun w' (b : Below w.heap.size w w') => spec_orth w' (HI w' b))
  have HOB := Lib.hid (fun w' (b : Below w.heap.size w w') => spec_orth w' (HI2 w' b))
  dsimp only at HK
  have hfa := small_orth (W, rows0)
  generalize orthOf (W, rows0) = OA at *
  generalize orthOf (W2, vs) = OB at *
  generalize pairB W rows0 W2 vs = PB at *
  have HSU := Lib.hid (fun (w' : World) (l1 h1 l2 h2 : Nat) (u1 u2 : Value) (s1 : BasisI w' l1 h1 u1 OA) (s2 : BasisI w' l2 h2 u2 OB) => spec_sum w' s1 hfa s2)
  generalize sumOf OA OB = SB at *
  have HOO := Lib.hid (fun (w' : World) (l1 h1 : Nat) (u1 : Value) (s1 : BasisI w' l1 h1 u1 SB) => spec_orth w' s1)
  generalize orthOf SB = RB at *
  obtain ⟨RW, RR⟩ := RB
  have HE := Lib.hid hE
  have c0 := hA.c0
  have c1 := hA.c1
  have p0 := hP.c0
  have p1 := hP.c1
  clear s s2 HI HI2 hw2 hE
  rw [HE.out]
  go_enter Tryz.func21, Tryz.ntmps21
  go_wp2_with fail
  go_at_call 48
  generalize ((w.alloc (.cells #[.int .i64 W, .slice ad n cap] 26)).alloc (.cells #[.int .i64 W2, .slice ad2 n2 cap2] 26)).alloc (.cells #[.int .i64 0, .slice none 0 0] 26) = D at *
  refine (HK.out _ hb).mono ?_
  rintro e w1 ⟨rfl, b1⟩
  have z1 := b1.size
  have hA1 := hA.below b1 (by omega)
  have hP1 := hP.below b1 (by omega)
  have hR1 := hR.below b1 (by omega)
  have hb1 := hb.trans (b1.mono (by omega))
  clear b1 hA hP hR hb HK c0 c1 p0 p1
  cases PB
  · have HN := fun w' => spec_new0 w' 0 (by omega) (by omega)
    rw [show (bif inW 0 then (0 : Int) else 0) = 0 by cases inW 0 <;> rfl] at HN
    have HN := Lib.hid HN
    have hbr1 := hb1
    clear hA1 hP1 hb1
    go_wp2_with fail
    go_at_call 37
    refine (HN.out _).mono ?_
    rintro e w5 ⟨rfl, b5⟩
    have z5 := b5.size
    have hZ := hR1.below b5 (by omega)
    have hbr := hbr1.trans (b5.mono (by omega))
    have hLr := (Grid.nil w5 w.heap.size w.heap.size 3 61 none).sls
    clear hR1 hbr1 b5
    have y0 := hZ.c0
    have y1 := hZ.c1
    have f0 := hZ.f0
    have f1 := hZ.f1
    go_wp2
    have hO9 := (hZ.set0 (.int .i64 0)).set1 (.slice none 0 0)
    have g0 := hO9.c0
    have g1 := hO9.c1
    have HM := Lib.hid (show Mv w5 ((w5.setCell ⟨w.heap.size + 2, 0, none⟩ (.int .i64 0)).setCell ⟨w.heap.size + 2, 1, none⟩ (.slice none 0 0)) (w.heap.size + 2) (w.heap.size + 2 + 1) from
      ((Mv.refl _ _ _).setCell (p := ⟨w.heap.size + 2, 0, none⟩) (Nat.le_refl _) (Nat.lt_succ_self _) _).setCell (p := ⟨w.heap.size + 2, 1, none⟩) (Nat.le_refl _) (Nat.lt_succ_self _) _)
    have HLr := Lib.hid hLr
    have HB := Lib.hid hbr
    clear hZ hLr hbr hO9
    generalize (w5.setCell ⟨w.heap.size + 2, 0, none⟩ (.int .i64 0)).setCell ⟨w.heap.size + 2, 1, none⟩ (.slice none 0 0) = W9 at *
    refine bodyPost_ret (by simp [results, Tryz.results21, go_sem, g0, g1]; rfl) rfl ?_
    have hm := HM.out
    exact ⟨_, rfl, ⟨_, rfl, ⟨by show (-9223372036854775808 : Int) ≤ 0; omega, by show (0 : Int) ≤ 9223372036854775807; omega⟩, _, _, _, rfl, (HLr.out.mv hm (by omega)).mono (by omega) (by have := hm.size; omega)⟩, HB.out.trans (hm.below (by omega) HB.out.size)⟩
  have e1 : w1.drew.cell? ⟨w.heap.size, 0, none⟩ = some (.int .i64 W) := hA1.c0
  have e2 : w1.drew.cell? ⟨w.heap.size, 1, none⟩ = some (.slice ad n cap) := hA1.c1
  have e3 : w1.drew.cell? ⟨w.heap.size + 1, 0, none⟩ = some (.int .i64 W2) := hP1.c0
  have e4 : w1.drew.cell? ⟨w.heap.size + 1, 1, none⟩ = some (.slice ad2 n2 cap2) := hP1.c1
  have hRD : Blk w1.drew (w.heap.size + 2) 26 (.int .i64 0) (.slice none 0 0) := ⟨hR1.obj⟩
  have hbD : Below w.heap.size w w1.drew := hb1.drew
  have zD : w.heap.size + 3 ≤ w1.drew.heap.size := by show w.heap.size + 3 ≤ w1.heap.size; omega
  clear hA1 hP1 hR1 hb1
  go_wp2
  refine wp_region_last (S := fun w' => w'.cell? ⟨w.heap.size, 0, none⟩ = some (.int .i64 W) ∧ w'.cell? ⟨w.heap.size, 1, none⟩ = some (.slice ad n cap) ∧ w'.cell? ⟨w.heap.size + 1, 0, none⟩ = some (.int .i64 W2) ∧ w'.cell? ⟨w.heap.size + 1, 1, none⟩ = some (.slice ad2 n2 cap2)) 6 (by kernel_rfl) (by kernel_rfl) rfl ?_
  generalize w1.drew = D1 at *
  have HH := Lib.hid (show D1.cell? ⟨w.heap.size, 0, none⟩ = some (.int .i64 W) ∧ D1.cell? ⟨w.heap.size, 1, none⟩ = some (.slice ad n cap) ∧ D1.cell? ⟨w.heap.size + 1, 0, none⟩ = some (.int .i64 W2) ∧ D1.cell? ⟨w.heap.size + 1, 1, none⟩ = some (.slice ad2 n2 cap2) from ⟨e1, e2, e3, e4⟩)
  refine wpAnyH_take (i := 0) (oi := ⟨some 10, _, _, _, _, _⟩) (v := ?_) rfl (by kernel_rfl) (by kernel_rfl) (by kernel_rfl) (fun _ _ _ h => h) (Or.inl ⟨by rfl, ?_⟩) HH.out ?_
  rotate_left
  · intro wS hSw
    try dsimp only at hSw
    go_simp
    all_goals (with_reducible rfl)
  simp only [Act.put, List.setIfInBounds_toArray, List.set_cons_zero, List.set_cons_succ]
  refine wpAnyH_take (i := 2) (oi := ⟨some 12, _, _, _, _, _⟩) (v := ?_) rfl (by kernel_rfl) (by kernel_rfl) (by kernel_rfl) (fun _ _ _ h => h) (Or.inl ⟨by rfl, ?_⟩) HH.out ?_
  rotate_left
  · intro wS hSw
    try dsimp only at hSw
    go_simp
    all_goals (with_reducible rfl)
  simp only [Act.put, List.setIfInBounds_toArray, List.set_cons_zero, List.set_cons_succ]
  refine wpAnyH_ready (rs := [1]) (by kernel_rfl) (by simp) ?_
  refine AllReadyH.cons (o := ⟨some 11, _, _, _, _, _⟩) rfl (fun Kq hKq => ?_) AllReadyH.nil
  go_simp
  refine (HOA.out _ hbD).mono ?_
  rintro e w3 ⟨u3, rfl, s3, b3⟩
  have zb3 := b3.size
  have f1 := (b3.cell (World.block_lt_of_cell? _ _ e1)).trans e1
  have f2 := (b3.cell (World.block_lt_of_cell? _ _ e2)).trans e2
  have f3 := (b3.cell (World.block_lt_of_cell? _ _ e3)).trans e3
  have f4 := (b3.cell (World.block_lt_of_cell? _ _ e4)).trans e4
  have hR3 := hRD.below b3 (by omega)
  have hb3 := hbD.trans (b3.mono (by omega))
  clear e1 e2 e3 e4 HH hRD hbD b3
  have HH := Lib.hid (show w3.cell? ⟨w.heap.size, 0, none⟩ = some (.int .i64 W) ∧ w3.cell? ⟨w.heap.size, 1, none⟩ = some (.slice ad n cap) ∧ w3.cell? ⟨w.heap.size + 1, 0, none⟩ = some (.int .i64 W2) ∧ w3.cell? ⟨w.heap.size + 1, 1, none⟩ = some (.slice ad2 n2 cap2) from ⟨f1, f2, f3, f4⟩)
  refine hKq.out _ _ HH.out (fun _ => ?_)
  clear hKq Kq
  try simp only [Act.put, List.setIfInBounds_toArray, List.set_cons_zero, List.set_cons_succ]
  refine wpAnyH_ready (rs := [3]) (by kernel_rfl) (by simp) ?_
  refine AllReadyH.cons (o := ⟨some 13, _, _, _, _, _⟩) rfl (fun Kq hKq => ?_) AllReadyH.nil
  go_simp
  refine (HOB.out _ hb3).mono ?_
  rintro e w4 ⟨u4, rfl, s4, b4⟩
  have zb4 := b4.size
  have i1 := (b4.cell (World.block_lt_of_cell? _ _ f1)).trans f1
  have i2 := (b4.cell (World.block_lt_of_cell? _ _ f2)).trans f2
  have i3 := (b4.cell (World.block_lt_of_cell? _ _ f3)).trans f3
  have i4 := (b4.cell (World.block_lt_of_cell? _ _ f4)).trans f4
  have hR4 := hR3.below b4 (by omega)
  have hb4 := hb3.trans (b4.mono (by omega))
  have s5 := BasisI_below s3 b4 (.inr (Nat.le_refl _))
  clear f1 f2 f3 f4 HH hR3 hb3 b4
  have HH := Lib.hid (show w4.cell? ⟨w.heap.size, 0, none⟩ = some (.int .i64 W) ∧ w4.cell? ⟨w.heap.size, 1, none⟩ = some (.slice ad n cap) ∧ w4.cell? ⟨w.heap.size + 1, 0, none⟩ = some (.int .i64 W2) ∧ w4.cell? ⟨w.heap.size + 1, 1, none⟩ = some (.slice ad2 n2 cap2) from ⟨i1, i2, i3, i4⟩)
  refine hKq.out _ _ HH.out (fun _ => ?_)
  clear hKq Kq
  try simp only [Act.put, List.setIfInBounds_toArray, List.set_cons_zero, List.set_cons_succ]
  refine wpAnyH_ready (rs := [4]) (by kernel_rfl) (by simp) ?_
  refine AllReadyH.cons (o := ⟨some 14, _, _, _, _, _⟩) rfl (fun Kq hKq => ?_) AllReadyH.nil
  go_simp
  refine (HSU.out _ _ _ _ _ _ _ s5 s4).mono ?_
  rintro e w5 ⟨u5, rfl, s6, b5⟩
  have zb5 := b5.size
  have m1 := (b5.cell (World.block_lt_of_cell? _ _ i1)).trans i1
  have m2 := (b5.cell (World.block_lt_of_cell? _ _ i2)).trans i2
  have m3 := (b5.cell (World.block_lt_of_cell? _ _ i3)).trans i3
  have m4 := (b5.cell (World.block_lt_of_cell? _ _ i4)).trans i4
  have hR5 := hR4.below b5 (by omega)
  have hb5 := hb4.trans (b5.mono (by omega))
  clear i1 i2 i3 i4 HH hR4 hb4 b5
  have HH := Lib.hid (show w5.cell? ⟨w.heap.size, 0, none⟩ = some (.int .i64 W) ∧ w5.cell? ⟨w.heap.size, 1, none⟩ = some (.slice ad n cap) ∧ w5.cell? ⟨w.heap.size + 1, 0, none⟩ = some (.int .i64 W2) ∧ w5.cell? ⟨w.heap.size + 1, 1, none⟩ = some (.slice ad2 n2 cap2) from ⟨m1, m2, m3, m4⟩)
  refine hKq.out _ _ HH.out (fun _ => ?_)
  clear hKq Kq
  try simp only [Act.put, List.setIfInBounds_toArray, List.set_cons_zero, List.set_cons_succ]
  refine wpAnyH_ready (rs := [5]) (by kernel_rfl) (by simp) ?_
  refine AllReadyH.cons (o := ⟨some 15, _, _, _, _, _⟩) rfl (fun Kq hKq => ?_) AllReadyH.nil
  go_simp
  refine (HOO.out _ _ _ _ s6).mono ?_
  rintro e w6 ⟨u6, rfl, ⟨v6, rfl, hw6, ad6, n6, cap6, rfl, s7⟩, b6⟩
  have zb6 := b6.size
  have k1 := (b6.cell (World.block_lt_of_cell? _ _ m1)).trans m1
  have k2 := (b6.cell (World.block_lt_of_cell? _ _ m2)).trans m2
  have k3 := (b6.cell (World.block_lt_of_cell? _ _ m3)).trans m3
  have k4 := (b6.cell (World.block_lt_of_cell? _ _ m4)).trans m4
  have hZ := hR5.below b6 (by omega)
  have hbr := hb5.trans (b6.mono (by omega))
  have hLr := s7
  have y0 := hZ.c0
  have y1 := hZ.c1
  have g0 := hZ.f0
  have g1 := hZ.f1
  clear m1 m2 m3 m4 HH hR5 hb5 b6
  have HH := Lib.hid (show w6.cell? ⟨w.heap.size, 0, none⟩ = some (.int .i64 W) ∧ w6.cell? ⟨w.heap.size, 1, none⟩ = some (.slice ad n cap) ∧ w6.cell? ⟨w.heap.size + 1, 0, none⟩ = some (.int .i64 W2) ∧ w6.cell? ⟨w.heap.size + 1, 1, none⟩ = some (.slice ad2 n2 cap2) from ⟨k1, k2, k3, k4⟩)
  refine hKq.out _ _ HH.out (fun _ => ?_)
  clear hKq Kq
  refine wpAnyH_ready (rs := [6]) (by kernel_rfl) (by simp) ?_
  refine AllReadyH.cons (o := ⟨none, .move (.const (.bool false)), _, _, _, _⟩) rfl (fun Kq hKq => ?_) AllReadyH.nil
  go_simp
  refine hKq.out _ _ HH.out (fun _ => ?_)
  clear hKq Kq
  refine wpAnyH_done (by kernel_rfl) ?_ _
  refine ⟨_, rfl, ?_⟩
  go_simp
  clear k1 k2 k3 k4 s3 s4 s5 s6
  have hO9 := (hZ.set0 (.int .i64 RW)).set1 (.slice ad6 n6 cap6)
  have q0 := hO9.c0
  have q1 := hO9.c1
  have HM := Lib.hid (show Mv w6 ((w6.setCell ⟨w.heap.size + 2, 0, none⟩ (.int .i64 RW)).setCell ⟨w.heap.size + 2, 1, none⟩ (.slice ad6 n6 cap6)) (w.heap.size + 2) (w.heap.size + 2 + 1) from
    ((Mv.refl _ _ _).setCell (p := ⟨w.heap.size + 2, 0, none⟩) (Nat.le_refl _) (Nat.lt_succ_self _) _).setCell (p := ⟨w.heap.size + 2, 1, none⟩) (Nat.le_refl _) (Nat.lt_succ_self _) _)
  have HLr := Lib.hid hLr
  have HB := Lib.hid hbr
  clear hZ hLr hbr hO9
  go_wp2
  generalize (w6.setCell ⟨w.heap.size + 2, 0, none⟩ (.int .i64 RW)).setCell ⟨w.heap.size + 2, 1, none⟩ (.slice ad6 n6 cap6) = W9 at *
  refine bodyPost_ret (by simp [results, Tryz.results21, go_sem, q0, q1]; rfl) rfl ?_
  have hm := HM.out
  exact ⟨_, rfl, ⟨_, rfl, hw6, _, _, _, rfl, (HLr.out.mv hm (by omega)).mono (by omega) (by have := hm.size; omega)⟩, HB.out.trans (hm.below (by omega) HB.out.size)⟩
end Go.Proofs.YtefcfeikooknmaaGreat.SubW
namespace Go.Proofs.YtefcfeikooknmaaGreat.SubW
open Go.ChangeShapes Go.WideShapes Go.ChangeAt Go.RowKit
open Go.Proofs.YtefcfeikooknmaaGreat.Seq Go.Proofs.YtefcfeikooknmaaGreat.Help Go.Proofs.YtefcfeikooknmaaGreat.Vec Go.Proofs.YtefcfeikooknmaaGreat.Shape Go.Proofs.YtefcfeikooknmaaGreat.Bas Go.Proofs.YtefcfeikooknmaaGreat.BasW

def SpanOp : Prop := ∀ (w : World) {l h : Nat} {v : Value} {vs : List (List Int)} (_ : IntSSI w l h v vs) (_ : IntSSF vs) (W : Int) (_ : -9223372036854775808 ≤ W) (_ : W ≤ 9223372036854775807), Calls Tryz.prog 44 #[v, .int .i64 W] w (Ret (fun w l h u => BasisO w l h u (spanOf vs W)) w)
def SumOp : Prop := ∀ (w : World) {l h l2 h2 : Nat} {v v2 : Value} {b b2 : Bs} (_ : BasisI w l h v b) (_ : BasisF b) (_ : BasisI w l2 h2 v2 b2) (_ : BasisF b2), Calls Tryz.prog 8 #[v, v2] w (Ret (fun w l h u => BasisO w l h u (sumOf b b2)) w)
def SubOp : Prop := ∀ (w : World) {l h l2 h2 : Nat} {v v2 : Value} {b b2 : Bs} (_ : BasisI w l h v b) (_ : BasisF b) (_ : BasisI w l2 h2 v2 b2) (_ : BasisF b2), Calls Tryz.prog 11 #[v, v2] w (Says (.bool (subOf b b2)) w)
def OrthOp : Prop := ∀ (w : World) {l h : Nat} {v : Value} {b : Bs} (_ : BasisI w l h v b) (_ : BasisF b), Calls Tryz.prog 17 #[v] w (Ret (fun w l h u => BasisO w l h u (orthOf b)) w)
def InterOp : Prop := ∀ (w : World) {l h l2 h2 : Nat} {v v2 : Value} {b b2 : Bs} (_ : BasisI w l h v b) (_ : BasisF b) (_ : BasisI w l2 h2 v2 b2) (_ : BasisF b2), Calls Tryz.prog 9 #[v, v2] w (Ret (fun w l h u => BasisO w l h u (interOf b b2)) w)
def InnovOp : Prop := ∀ (w : World) {l h l2 h2 : Nat} {v v2 : Value} {b b2 : Bs} (_ : BasisI w l h v b) (_ : BasisF b) (_ : BasisI w l2 h2 v2 b2) (_ : BasisF b2), Calls Tryz.prog 13 #[v, v2] w (Says (.int .i64 (innovOf b b2)) w)
variable {l h l2 h2 : Nat} {v v2 : Value} {b b2 : Bs} {xs : List Int} {vs : List (List Int)}
theorem fit_coords (h : BasisF b) : IntSF (coordsOf b xs) := by
  unfold coordsOf
  cases contains b.1 b.2 xs
  · exact Nat.zero_le _
  · show (coordL b.2 xs).length ≤ 1048576
    unfold coordL
    rw [List.length_map]; exact Small.len h
noncomputable def coordR (b : Bs) (xs : List Int) : List Int × Bool := (coordsOf b xs, contains b.1 b.2 xs)
theorem fit_sum (h : BasisF b) : BasisF (sumOf b b2) := small_sum h
theorem fit_inter : BasisF (interOf b b2) := by
  unfold interOf
  cases pair b b2
  · exact ⟨Nat.zero_le _, by simp⟩
  · exact small_orth _
theorem spanS (w : World) (s : IntSSI w l h v vs) (_ : IntSSF vs) (W : Int) (h0 : -9223372036854775808 ≤ W) (h1 : W ≤ 9223372036854775807) : Calls Tryz.prog 38 #[v, .int .i64 W] w (Ret (fun w l h u => BasisI w l h u (spanOf vs W)) w) := by
  obtain ⟨_, _, _, rfl, s⟩ := s
  exact spec_span w s W h0 h1
theorem sumS (w : World) (s : BasisI w l h v b) (f : BasisF b) (s2 : BasisI w l2 h2 v2 b2) (_ : BasisF b2) : Calls Tryz.prog 49 #[v, v2] w (Ret (fun w l h u => BasisI w l h u (sumOf b b2)) w) := spec_sum w s f s2
theorem orthS (w : World) (s : BasisI w l h v b) (_ : BasisF b) : Calls Tryz.prog 15 #[v] w (Ret (fun w l h u => BasisI w l h u (orthOf b)) w) := spec_orth w s
theorem interS (w : World) (s : BasisI w l h v b) (_ : BasisF b) (s2 : BasisI w l2 h2 v2 b2) (_ : BasisF b2) : Calls Tryz.prog 21 #[v, v2] w (Ret (fun w l h u => BasisI w l h u (interOf b b2)) w) := spec_inter w s s2
end Go.Proofs.YtefcfeikooknmaaGreat.SubW
