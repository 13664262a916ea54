/-
  A region that draws its order and whose last operation is a store that waits for all the others: the others are walked under a condition on the world, the store behind them. No program.
-/
import Derived.Deep.RegionHeld3
import Derived.Test.YthhnfbhpdcemfaaProg
namespace Go.Proofs.Ythhnfbhpdcemfaa.Drawn

variable {P : Program} {ops : Array Oper} {Q : Exit → Act → World → Prop} {md : Region.Mode}

/-- In the store's place: nothing. -/
def idle (o : Oper) : Oper := { o with op := .move (.const (.bool false)), dst := none, guard := none }
def cutAt (ops : Array Oper) (s : Nat) : Array Oper := match ops[s]? with | some o => ops.setIfInBounds s (idle o) | none => ops
/-- Edges lead to earlier operations; the last operation waits for all; it has no guard and yields nothing. -/
def lastB (md : Region.Mode) (ops : Array Oper) (s : Nat) : Bool :=
  (List.range ops.size).all (fun i => match ops[i]? with | some o => o.after.all fun e => decide (e.on < i) | none => true) &&
  (match ops[s]? with | some o => (List.range ops.size).all (fun j => j == s || o.after.any fun e => Region.binds md e && e.on == j) && o.dst.isNone && o.guard.isNone | none => false)

theorem cut_ne {s i : Nat} (h : i ≠ s) : (cutAt ops s)[i]? = ops[i]? := by
  unfold cutAt
  split
  · rw [Array.getElem?_setIfInBounds_ne (Ne.symm h)]
  · rfl
theorem cut_at {s : Nat} {o : Oper} (h : ops[s]? = some o) : (cutAt ops s)[s]? = some (idle o) := by
  have hlt := (Array.getElem?_eq_some_iff.1 h).1
  unfold cutAt
  rw [h]
  simp [hlt]
theorem cut_size {s : Nat} : (cutAt ops s).size = ops.size := by
  unfold cutAt; split <;> simp
theorem cut_ready {s : Nat} (listed : Array Bool) : Region.ready md (cutAt ops s) listed = Region.ready md ops listed := by
  unfold Region.ready
  rw [cut_size]
  apply List.filter_congr
  intro j _
  by_cases hj : j = s
  · subst hj
    cases ho : ops[j]? with
    | none => rw [show cutAt ops j = ops by unfold cutAt; rw [ho]]; rw [ho]
    | some o => rw [cut_at ho]; rfl
  · rw [cut_ne hj]
theorem cut_yielded {s : Nat} {o : Oper} (h : ops[s]? = some o) (hd : o.dst = none) (tmps : Array Value) : yielded (cutAt ops s) tmps = yielded ops tmps := by
  funext j
  unfold yielded
  by_cases hj : j = s
  · subst hj; rw [cut_at h, h]; simp [idle, hd]
  · rw [cut_ne hj]

/-- The post of what is walked ahead of the store. -/
def Ahead (P : Program) (ops : Array Oper) (s : Nat) (Q : Exit → Act → World → Prop) : Exit → Act → World → Prop
  | .normal, a, w => ∃ o, ops[s]? = some o ∧ o.wp P a w (Q .normal) Q
  | e, a, w => Q e a w

theorem wp_ahead {s : Nat} {o : Oper} {a : Act} {w : World} {K : Act → World → Prop} (h : o.wp P a w K (Ahead P ops s Q)) : o.wp P a w K Q := by
  unfold Oper.wp at *
  generalize (execOp a.eval o).run P w = r at *
  cases r with
  | ok n w' =>
    cases n <;> simp only [Oper.upon] at h ⊢ <;>
      first
        | exact h
        | exact Calls.mono h (fun e w'' he => by cases e <;> exact he)
  | halt x w' => cases x <;> simp only [Oper.upon] at h ⊢ <;> exact h
theorem wpOp_ahead {s i : Nat} {a : Act} {w : World} {K : Act → World → Prop} {o : Oper} (ho : ops[s]? = some o) (hd : o.dst = none) (hi : i ≠ s) (h : wpOp P (cutAt ops s) (Ahead P ops s Q) i K a w) : wpOp P ops Q i K a w := by
  unfold wpOp at *
  rw [cut_ne hi, cut_yielded ho hd] at h
  cases hoi : ops[i]? with
  | none => rw [hoi] at h; exact h
  | some oi =>
    rw [hoi] at h
    dsimp only at h ⊢
    split
    · rename_i hw
      rw [if_pos hw] at h
      exact h.imp wp_ahead id
    · rename_i hw
      rw [if_neg hw] at h
      exact h

theorem idle_step {o : Oper} {a : Act} {w : World} {K : Act → World → Prop} {E : Prop} (h : (idle o).wp P a w K Q ∨ ((idle o).asks P a w ∧ E)) : K a w := by
  rcases h with h | ⟨h, _⟩
  · unfold Oper.wp idle execOp at h
    simpa [Oper.upon, Act.put, Act.eval] using h
  · unfold Oper.asks idle execOp at h
    exact absurd h.1 (by show ¬ noRoomEvent ∈ (#[] : Array Event); simp)

theorem some_ready {listed : Array Bool} {s : Nat} (hb : lastB md ops s = true) (hsz : listed.size = ops.size) (hs : listed.getD s true = false) : Region.ready md ops listed ≠ [] := by
  have hex : ∀ n, ∀ i, i ≤ n → listed.getD i true = false → i < ops.size → Region.ready md ops listed ≠ [] := by
    intro n
    induction n with
    | zero =>
      intro i hi hun hlt
      obtain rfl : i = 0 := by omega
      refine List.ne_nil_of_mem (a := 0) (mem_ready.2 ⟨hun, ops[0], Array.getElem?_eq_getElem hlt, fun e he _ => ?_⟩)
      simp only [lastB, Bool.and_eq_true, List.all_eq_true, List.mem_range] at hb
      have := hb.1 0 hlt
      rw [Array.getElem?_eq_getElem hlt] at this
      have := Array.all_eq_true'.1 this e he
      simp at this
    | succ n ih =>
      intro i hi hun hlt
      by_cases hall : ∀ j, j < i → listed.getD j true = true
      · refine List.ne_nil_of_mem (a := i) (mem_ready.2 ⟨hun, ops[i], Array.getElem?_eq_getElem hlt, fun e he _ => ?_⟩)
        simp only [lastB, Bool.and_eq_true, List.all_eq_true, List.mem_range] at hb
        have h1 := hb.1 i hlt
        rw [Array.getElem?_eq_getElem hlt] at h1
        have h2 := Array.all_eq_true'.1 h1 e he
        simp only [decide_eq_true_eq] at h2
        have h3 := hall e.on h2
        have h4 : e.on < listed.size := by omega
        simpa [h4] using h3
      · simp only [Classical.not_forall, Bool.not_eq_true] at hall
        obtain ⟨j, hj, hjf⟩ := hall
        exact ih j (by omega) hjf (by omega)
  have hlt : s < ops.size := by
    rcases Nat.lt_or_ge s listed.size with h | h
    · omega
    · simp [Array.getElem?_eq_none h] at hs
  exact hex s s (Nat.le_refl _) hs hlt

theorem wpAny_last {s : Nat} (hb : lastB md ops s = true) : ∀ (fuel : Nat) (listed : Array Bool) (a : Act) (w : World), listed.size = ops.size → listed.getD s true = false →
    wpAny P md (cutAt ops s) (Ahead P ops s Q) fuel listed a w → wpAny P md ops Q fuel listed a w := by
  have hb0 := hb
  unfold lastB at hb
  rw [Bool.and_eq_true] at hb
  obtain ⟨_, hb2⟩ := hb
  cases ho : ops[s]? with
  | none => rw [ho] at hb2; cases hb2
  | some o =>
    rw [ho] at hb2
    simp only [Bool.and_eq_true, List.all_eq_true, List.mem_range, Option.isNone_iff_eq_none] at hb2
    obtain ⟨⟨hwait, hd⟩, hg⟩ := hb2
    intro fuel
    induction fuel with
    | zero =>
      intro listed a w hsz hs h
      exact absurd (by have := h.1; rwa [cut_ready] at this) (some_ready hb0 hsz hs)
    | succ fuel ih =>
      intro listed a w hsz hs h
      refine ⟨fun h0 => absurd h0 (some_ready hb0 hsz hs), fun i hi => ?_⟩
      have hi' := h.2 i (by rw [cut_ready]; exact hi)
      by_cases his : i = s
      · subst his
        unfold wpOp at hi'
        rw [cut_at ho] at hi'
        dsimp only at hi'
        rw [if_pos (by simp [Region.wanted, idle])] at hi'
        have hK := idle_step hi'
        have hall : Region.ready md ops (listed.setIfInBounds i true) = [] := by
          rw [List.eq_nil_iff_forall_not_mem]
          intro j hj
          obtain ⟨hun, oj, hoj, _⟩ := mem_ready.1 hj
          by_cases hji : j = i
          · subst hji
            have hlt := (Array.getElem?_eq_some_iff.1 ho).1
            simp [hsz, hlt] at hun
          · rw [getD_set_ne true (Ne.symm hji)] at hun
            obtain ⟨_, oi, hoi, hon⟩ := mem_ready.1 hi
            obtain rfl := Option.some.inj (ho.symm.trans hoi)
            have h1 := hwait j (Array.getElem?_eq_some_iff.1 hoj).1
            simp only [Bool.or_eq_true, beq_iff_eq] at h1
            rcases h1 with h1 | h1
            · exact hji h1
            · obtain ⟨e, he, hbe⟩ := Array.any_eq_true'.1 h1
              simp only [Bool.and_eq_true, beq_iff_eq] at hbe
              have h2 := hon e he hbe.1
              rw [hbe.2] at h2
              have hlt := (Array.getElem?_eq_some_iff.1 hoj).1
              rw [← hsz] at hlt
              simp [hlt] at h2 hun
              rw [h2] at hun
              cases hun
        have hA : Ahead P ops i Q .normal a w := by
          cases fuel with
          | zero => exact hK.2
          | succ f => exact hK.1 (by rw [cut_ready]; exact hall)
        obtain ⟨o', ho', hwp⟩ := hA
        obtain rfl := Option.some.inj (ho.symm.trans ho')
        unfold wpOp
        rw [ho]
        dsimp only
        rw [if_pos (by simp [Region.wanted, hg])]
        exact .inl (Oper.wp_mono (fun a' w' hq => wpAny_done hall hq _) hwp)
      · refine wpOp_mono (fun a' w' h' => ih _ a' w' (by simp [hsz]) ?_ h') (wpOp_ahead ho hd his hi')
        rw [getD_set_ne true his]; exact hs

/-- The beginning, as the walk meets it. -/
theorem wp_region_last {S : World → Prop} {id : Nat} {a : Act} {w : World} (s : Nat) (hm : P.follows .mixedOrders = true) (hb : lastB .any ops s = true) (hl : (Array.replicate ops.size false).getD s true = false)
    (h : wpAnyH P .any (cutAt ops s) (Ahead P ops s Q) S ops.size (Array.replicate ops.size false) a w.drew) : (Code.region id ops true).wp P Q a w :=
  wp_region_any hm (wpAny_last hb _ _ _ _ (by simp) hl (wpAny_of_held _ _ _ _ h))
end Go.Proofs.Ythhnfbhpdcemfaa.Drawn
