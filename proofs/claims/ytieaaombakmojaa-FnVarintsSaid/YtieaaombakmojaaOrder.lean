/-
  A region that draws its order, walked over a frame that is a letter: all that is known of the frame is what stands in the slots of a list.
  An operation that looks at no memory is taken first; the others must come up alone.
-/
import Derived.Test.YtieaaombakmojaaSeq
import Derived.RegionCalls
namespace Go.Proofs.Ytieaaombakmojaa.Order

/-- What is known of a frame of N slots. -/
def Has (N : Nat) (a : Act) (L : List (Nat × Value)) : Prop := a.tmps.size = N ∧ a.defers = [] ∧ ∀ t v, L.lookup t = some v → a.tmps[t]? = some v

section
variable {P : Program} {md : Region.Mode} {ops : Array Oper} {Q : Exit → Act → World → Prop} {N : Nat} {a : Act} {w : World} {L : List (Nat × Value)} {o : Oper} {i d t : Nat} {v : Value} {fuel : Nat} {listed : Array Bool}

theorem Has.nil (h : a.tmps.size = N) (hd : a.defers = []) : Has N a [] := ⟨h, hd, fun _ _ h => by cases h⟩
theorem Has.cons (h : Has N a L) (hv : a.tmps[t]? = some v) : Has N a ((t, v) :: L) := by
  refine ⟨h.1, h.2.1, fun t' v' hl => ?_⟩
  rw [List.lookup_cons] at hl
  split at hl
  · rename_i he
    rw [beq_iff_eq] at he
    cases hl
    rw [he]; exact hv
  · exact h.2.2 _ _ hl
theorem Has.get (h : Has N a L) (hl : L.lookup t = some v) : a.tmps[t]? = some v := h.2.2 t v hl
theorem Has.eval (h : Has N a L) (hl : L.lookup t = some v) : a.eval (.tmp t) = v := by
  have := h.get hl
  show a.tmps.getD t undef = v
  simp [this]
theorem Has.put (h : Has N a L) (hd : d < N) (v : Value) : Has N (a.put (some d) v) ((d, v) :: L) := by
  refine ⟨by simp [Act.put, h.1], h.2.1, fun t' v' hl => ?_⟩
  have hN := h.1
  rw [List.lookup_cons] at hl
  split at hl
  · rename_i he
    rw [beq_iff_eq] at he
    cases hl
    subst he
    simp [Act.put, hN, hd]
  · rename_i he
    have hne : d ≠ t' := fun e => by subst e; simp at he
    simp only [Act.put]
    rw [Array.getElem?_setIfInBounds_ne hne]
    exact h.2.2 _ _ hl

theorem wanted_none (h : o.guard = none) (y : Nat → Option Bool) : Region.wanted o y = true := by
  unfold Region.wanted; rw [h]
theorem wanted_some (h : Has N a L) {g : Nat} (hg : o.guard = some (g, true)) (ht : (ops[g]?).bind (·.dst) = some t) (hl : L.lookup t = some (.bool true)) :
    Region.wanted o (yielded ops a.tmps) = true := by
  unfold Region.wanted yielded
  rw [hg]
  simp only
  rw [ht]
  simp [h.get hl]

theorem y_move {ρ : Operand → Value} {x : Operand} (h : o.op = .move x) (hv : ρ x = v) (w : World) : (execOp ρ o).run P w = .ok (.value v) w := by
  unfold execOp; rw [h]; subst hv; rfl
theorem y_assign {ρ : Operand → Value} {x : Operand} (h : o.op = .assign x) (hv : ρ x = v) (w : World) : (execOp ρ o).run P w = .ok (.value v) w := by
  unfold execOp; rw [h]; subst hv; rfl
theorem y_pick {ρ : Operand → Value} {c x y : Operand} (h : o.op = .pick c x y) (hc : ρ c = .bool true) (hv : ρ x = v) (w : World) : (execOp ρ o).run P w = .ok (.value v) w := by
  unfold execOp; rw [h]; subst hv; simp [go_sem, hc]

/-- The way in. -/
theorem start {id : Nat} (hm : P.follows .mixedOrders = true) (h : Has N a L) (k : ∀ a1, Has N a1 L → wpAny P .any ops Q ops.size (Array.replicate ops.size false) a1 w.drew) : (Code.region id ops true).wp P Q a w :=
  wp_region_any hm (k a h)

/-- One that looks at no memory: taken first. -/
theorem take (h : Has N a L) (hi : ops[i]? = some o) (hd : o.dst = some d) (hN : d < N) (hs : Region.noSelect ops = true) (hf : Region.free md ops listed i = true)
    (hr : (Region.ready md ops listed).contains i = true) (hQ : ∀ c a w, Q (.panic c) (a.put (some d) v) w → Q (.panic c) a w)
    (hw : Region.wanted o (yielded ops a.tmps) = true) (hy : ∀ w, (execOp a.eval o).run P w = .ok (.value v) w)
    (k : ∀ a1, Has N a1 ((d, v) :: L) → wpAny P md ops Q fuel (listed.setIfInBounds i true) a1 w) : wpAny P md ops Q (fuel + 1) listed a w := by
  refine wpAny_take hi hs hf hr (v := v) (by rw [hd]; exact hQ) (.inl ⟨hw, hy⟩) ?_
  rw [hd]
  exact k _ (h.put hN v)

/-- One that comes up alone, and yields a value. -/
theorem alone (h : Has N a L) (hr : Region.ready md ops listed = [i]) (hi : ops[i]? = some o) (hd : o.dst = some d) (hN : d < N) (hw : Region.wanted o (yielded ops a.tmps) = true)
    {w' : World} (hy : (execOp a.eval o).run P w = .ok (.value v) w')
    (k : ∀ a1, Has N a1 ((d, v) :: L) → wpAny P md ops Q fuel (listed.setIfInBounds i true) a1 w') : wpAny P md ops Q (fuel + 1) listed a w := by
  refine wpAny_ready hr (by simp) (AllReady.cons hi (fun K hK => ?_) AllReady.nil)
  rw [if_pos hw]
  unfold Oper.wp
  rw [hy, Oper.upon_value, hd]
  exact hK _ _ (k _ (h.put hN v))

/-- A call that comes up alone. -/
theorem call (h : Has N a L) (hr : Region.ready md ops listed = [i]) (hi : ops[i]? = some o) (hd : o.dst = some d) (hN : d < N) (hw : Region.wanted o (yielded ops a.tmps) = true)
    {f : FuncId} {args : Array Value} (hy : (execOp a.eval o).run P w = .ok (.enter f args) w)
    (k : Calls P f args w fun e w' => ∃ v, e = .returned v ∧ ∀ a1, Has N a1 ((d, v) :: L) → wpAny P md ops Q fuel (listed.setIfInBounds i true) a1 w') : wpAny P md ops Q (fuel + 1) listed a w := by
  refine wpAny_ready hr (by simp) (AllReady.cons hi (fun K hK => ?_) AllReady.nil)
  rw [if_pos hw]
  unfold Oper.wp
  rw [hy, Oper.upon_enter, hd]
  refine k.mono ?_
  rintro e w' ⟨v, rfl, k'⟩
  exact hK _ _ (k' _ (h.put hN v))
end
end Go.Proofs.Ytieaaombakmojaa.Order
