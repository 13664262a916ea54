/-
  A region that draws its order, in the body of a range over a function (a round): walked as one outside of a round. No program.
  Vectors, of the program: the pairs of two vectors (a range over a function), AddScaled, DotProduct.
  Vectors, of the program: AddScaled, AddVectors.
  Vectors, of the program: DotProduct.
  Vectors, of the program: Combine, ScaleVector.
  Matrices, of the program: the number of columns, valid matrices, identities, and what is made of a matrix row by row.
  Matrices, of the program: Vandermonde's matrices, equality.
  Matrices, of the program: products and transposed matrices.
  What a round of a range over a function keeps of cells: what is said of slices by their cells goes through. No program.
  Structs of a number and a part of one list of rows, in a slice of the call's own: all of it is the call's own. No program.
-/
import Derived.RangeFuncBox
import Derived.OwnWalkIn
import Derived.RangeFuncCalls
import Derived.Deep.RegionHeld3
import Derived.Test.YtkppkbafoeblhaaProg
import Derived.RangeFuncNested
import Derived.RangeFuncLeaves
import Derived.Shelf.Abstract
import Derived.WalkKit
import Derived.TacticsInMore
import Derived.LoopNIn
import Derived.LoopIn
import Derived.Maps.AppendAt
import Derived.Stop.RegionWithIn
import Derived.Test.YtkppkbafoeblhaaGC
import Derived.Test.YtkppkbafoeblhaaGD
import Derived.Test.YtkppkbafoeblhaaGE
import Derived.Test.YtkppkbafoeblhaaGF
namespace Go.Proofs.Ytkppkbafoeblhaa.Round
open Go.RowKit

variable {P : Program} {ops : Array Oper} {Q : Exit → Act → World → Prop} {l n : Nat}

def plain (o : Oper) : Bool := match o.op with | .defer _ => false | _ => true
theorem plain_op {o : Oper} (h : plain o = true) : ∀ c, o.op ≠ .defer c := by
  intro c hc; unfold plain at h; rw [hc] at h; cases h

theorem op_round {o : Oper} {a : Act} {w : World} {K : Act → World → Prop} (hp : plain o = true) (h : o.wp P a w K Q) : o.wpIn (Fence.wide.inRound l) n P a w K Q := by
  unfold Oper.wpIn
  refine ⟨fun _ _ => trivial, ?_⟩
  rw [show (Fence.wide.inRound l).round = some l from rfl, Oper.semAt_some l _ _ (plain_op hp)]
  unfold Oper.wp at h
  generalize (execOp a.eval o).run P w = r at *
  cases r with
  | ok x w' =>
    cases x with
    | value v => exact h
    | skip => exact h
    | «defer» d => exact h
    | enter f args => exact ⟨fun hd => (by cases hd), CallsIn.inRound l (callsIn_wide.2 h)⟩
    | row r args => exact ⟨fun hd => (by cases hd), fun c cs _ => let ⟨v, w', q, s⟩ := h c cs; ⟨v, w', q, stepsIn_wide.2 s⟩⟩
    | _ => exact h.elim
  | halt x w' =>
    cases x <;> exact h

theorem wpOp_round {i : Nat} {a : Act} {w : World} {K : Act → World → Prop} (hp : ops.all plain = true) (hQ : ∀ a w, ¬ Q .outgrown a w) (h : wpOp P ops Q i K a w) : wpOpIn (Fence.wide.inRound l) n P ops Q i K a w := by
  unfold wpOp at h
  unfold wpOpIn
  cases ho : ops[i]? with
  | none => rw [ho] at h; exact h
  | some o =>
    rw [ho] at h
    have hpo : plain o = true := by
      rw [Array.all_eq_true] at hp
      obtain ⟨hi, rfl⟩ := Array.getElem?_eq_some_iff.1 ho
      exact hp i hi
    dsimp only at h ⊢
    split
    · rename_i hw
      rw [if_pos hw] at h
      rcases h with h | ⟨_, a', w', h⟩
      · exact op_round hpo h
      · exact (hQ _ _ h).elim
    · rename_i hw
      rw [if_neg hw] at h
      exact ⟨fun _ _ => trivial, h⟩

theorem wpAny_round {md : Region.Mode} (hp : ops.all plain = true) (hQ : ∀ a w, ¬ Q .outgrown a w) : ∀ (fuel : Nat) (listed : Array Bool) (a : Act) (w : World), wpAny P md ops Q fuel listed a w → wpAnyIn (Fence.wide.inRound l) n P md ops Q fuel listed a w
  | 0, _, _, _, h => h
  | fuel + 1, _, _, _, h => ⟨h.1, fun i hi => wpOpIn_mono (fun a' w' h' => wpAny_round hp hQ fuel _ a' w' h') (wpOp_round hp hQ (h.2 i hi))⟩

/-- Its beginning, as the walk meets it. -/
theorem wanted_wp {o : Oper} {a : Act} {w : World} {K : Act → World → Prop} {E : Prop} (hg : o.guard = none) (h : o.wp P a w K Q) : if Region.wanted o (yielded ops a.tmps) = true then Oper.wp P o a w K Q else E := by
  rw [if_pos (by simp [Region.wanted, hg])]; exact h
theorem wpIn_region_here {id : Nat} {a : Act} {w : World} (hm : P.follows .mixedOrders = true) (hp : ops.all plain = true) (hQ : ∀ a w, ¬ Q .outgrown a w)
    (h : wpAny P .any ops Q ops.size (Array.replicate ops.size false) a w.drew) : (Code.region id ops true).wpIn (Fence.wide.inRound l) n P Q a w :=
  wpIn_region_any hm (wpAny_round hp hQ _ _ _ _ h)
theorem wpIn_region_held {S : World → Prop} {id : Nat} {a : Act} {w : World} (hm : P.follows .mixedOrders = true) (hp : ops.all plain = true) (hQ : ∀ a w, ¬ Q .outgrown a w)
    (h : wpAnyH P .any ops Q S ops.size (Array.replicate ops.size false) a w.drew) : (Code.region id ops true).wpIn (Fence.wide.inRound l) n P Q a w :=
  wpIn_region_any hm (wpAny_round hp hQ _ _ _ _ (wpAny_of_held _ _ _ _ h))
/-- A piece of code that goes on only. -/
theorem wp_safe {c : Code} {a : Act} {w : World} {K : Act → World → Prop} (h : c.wp P (Exit.then K (fun _ _ _ => False)) a w) : c.wp P (Exit.then K Q) a w :=
  wp_mono h fun e _ _ h => by cases e <;> first | exact h | exact h.elim
end Go.Proofs.Ytkppkbafoeblhaa.Round
namespace Go.Proofs.Ytkppkbafoeblhaa.VecI
open Go.RowKit Go.Shelf
open Go.Proofs.Ytkppkbafoeblhaa.Seq Go.Proofs.Ytkppkbafoeblhaa.Help Go.Proofs.Ytkppkbafoeblhaa.Field Go.Proofs.Ytkppkbafoeblhaa.FieldW Go.Proofs.Ytkppkbafoeblhaa.Vec Go.Proofs.Ytkppkbafoeblhaa.VecW Go.Proofs.Ytkppkbafoeblhaa.VecOps
attribute [local go_sem] Oper.semAt_some

/-- The pairs of components of two vectors that fit together. -/
def pairs (xs ys : List Int) : List (Int × Int) := bif (Vec.isVec xs && Vec.isVec ys) && (xs.length == ys.length) then List.zip xs ys else []
theorem zip_more {xs ys : List Int} {j : Nat} {x y : Int} (hx : xs[j]? = some x) (hy : ys[j]? = some y) : (List.zip xs ys).take (j + 1) = (List.zip xs ys).take j ++ [(x, y)] := by
  refine take_more ?_
  rw [List.getElem?_zip_eq_some]; exact ⟨hx, hy⟩

/-- What the iterator asks of a round: its second box, and what lay below n₀. -/
def Keeps (n₀ b : Nat) (W W' : World) : Prop := Below n₀ W W' ∧ W'.heap[b]? = W.heap[b]?
theorem Keeps.trans {n₀ b : Nat} {A B C : World} (h : Keeps n₀ b A B) (k : Keeps n₀ b B C) : Keeps n₀ b A C := ⟨h.1.trans k.1, k.2.trans h.2⟩
theorem keeps_put {n₀ b : Nat} {w : World} (h : n₀ ≤ w.heap.size) (hb : b < w.heap.size) (W : World) (l : Nat) (o o' : Obj) (hl : w.heap.size ≤ l) (ho : W.heap[l]? = some o) (h1 : o.isCells = false) (h2 : o.isWalk = false) : Keeps n₀ b W (W.putObj l o') :=
  ⟨belowK_b h W l o o' hl ho h1 h2, World.putObj_heap_other (by omega)⟩
theorem grown_of {w w' : World} (h : Below w.heap.size w w') : w.grownBy w' none := ⟨h.os, h.tape, h.output, h.size, fun k hk _ => h.block k hk⟩

end Go.Proofs.Ytkppkbafoeblhaa.VecI
namespace Go.Proofs.Ytkppkbafoeblhaa.VecI
open Go.RowKit Go.Shelf
open Go.Proofs.Ytkppkbafoeblhaa.Seq Go.Proofs.Ytkppkbafoeblhaa.Help Go.Proofs.Ytkppkbafoeblhaa.Field Go.Proofs.Ytkppkbafoeblhaa.FieldW Go.Proofs.Ytkppkbafoeblhaa.Vec Go.Proofs.Ytkppkbafoeblhaa.VecW Go.Proofs.Ytkppkbafoeblhaa.VecOps
attribute [local go_sem] Oper.semAt_some

theorem row_of {W : World} {l : Nat} {e : TypeId} {v : Value} {xs : List Int} (o : W.ownsRow l e 1 v xs.length (xs.map (.int .i64))) (hf : ∀ x ∈ xs, Fits .i64 x) :
    ∃ ad cap, v = .slice ad xs.length cap ∧ Row W l W.heap.size .i64 e ad xs.length cap xs := by
  rcases o.2 with ⟨rfl, h0⟩ | ⟨g, c', cur, rfl, g1, g2, g3, g4, g5⟩
  · exact ⟨none, 0, by rw [h0], rfl, by omega, Nat.zero_le _, hf, .inl ⟨h0, rfl⟩⟩
  · exact ⟨_, c', rfl, rfl, g3, g4, hf, .inr ⟨g, rfl, g1, owns_lt o, o⟩⟩

/-- One component. -/
def step (k : Int) (p : Int × Int) : Int := Field.add p.1 (Field.mul p.2 k)
theorem add_fits (a b : Int) : Fits .i64 (Field.add a b) := by
  refine fits_i64.2 ?_
  unfold Field.add
  cases isEl a && isEl b
  · show _ ∧ _; simp
  · simp only [cond_true]; omega
theorem fits_steps (k : Int) (pre : List (Int × Int)) : ∀ x ∈ pre.map (step k), Fits .i64 x := by
  intro x hx
  obtain ⟨p, _, rfl⟩ := List.mem_map.1 hx
  exact add_fits _ _
theorem steps {xs ys : List Int} {k : Int} (hk : isEl k = true) : (pairs xs ys).map (step k) = addScaled xs ys k := by
  unfold pairs addScaled
  rw [hk, Bool.and_true]
  cases h : (Vec.isVec xs && Vec.isVec ys) && (xs.length == ys.length)
  · rfl
  · simp only [cond_true]
    simp only [Bool.and_eq_true] at h
    obtain ⟨a, rfl, _⟩ := of_vec h.1.1
    obtain ⟨b, rfl, _⟩ := of_vec h.1.2
    obtain ⟨c, rfl⟩ := of_el hk
    unfold mac
    rw [List.zip_eq_zipWith, List.map_zipWith]
    unfold ems
    rw [List.zipWith_map, List.zipWith_map]
    congr 1; funext x y
    unfold step
    rw [mul_em, add_em, em_mac]

end Go.Proofs.Ytkppkbafoeblhaa.VecI
namespace Go.Proofs.Ytkppkbafoeblhaa.VecI
open Go.RowKit Go.Shelf
open Go.Proofs.Ytkppkbafoeblhaa.Seq Go.Proofs.Ytkppkbafoeblhaa.Help Go.Proofs.Ytkppkbafoeblhaa.Field Go.Proofs.Ytkppkbafoeblhaa.FieldW Go.Proofs.Ytkppkbafoeblhaa.Vec Go.Proofs.Ytkppkbafoeblhaa.VecW Go.Proofs.Ytkppkbafoeblhaa.VecOps
attribute [local go_sem] Oper.semAt_some

/-- The sum of the products of pairs. -/
def dotOf (ps : List (Int × Int)) : Int := ps.foldl (fun s p => Field.add s (Field.mul p.1 p.2)) 0
theorem dotOf_more (ps : List (Int × Int)) (x y : Int) : dotOf (ps ++ [(x, y)]) = Field.add (dotOf ps) (Field.mul x y) := by
  unfold dotOf; rw [List.foldl_append]; rfl
theorem dotOf_fold (a b : List F) (c : F) : (List.zip (ems a) (ems b)).foldl (fun s p => Field.add s (Field.mul p.1 p.2)) (em c) = (List.zipWith (fun x y => x * y) (ems a) (ems b)).foldl (fun s p => (s + p) % 1019) (em c) := by
  induction a generalizing b c with
  | nil => rfl
  | cons x a ih =>
    cases b with
    | nil => rfl
    | cons y b =>
      have h := ih b (c + x * y)
      have e : (em c + em x * em y) % 1019 = em (c + x * y) := by rw [em_mac]
      simp only [ems, List.map_cons, List.zip_cons_cons, List.zipWith_cons_cons, List.foldl_cons] at h ⊢
      rw [mul_em, add_em, e]
      exact h
theorem dot_pairs (xs ys : List Int) : dotOf (pairs xs ys) = Vec.dot xs ys := by
  unfold pairs Vec.dot
  cases h : (Vec.isVec xs && Vec.isVec ys) && (xs.length == ys.length)
  · rfl
  · simp only [cond_true]
    simp only [Bool.and_eq_true] at h
    obtain ⟨a, rfl, _⟩ := of_vec h.1.1
    obtain ⟨b, rfl, _⟩ := of_vec h.1.2
    exact dotOf_fold a b 0

end Go.Proofs.Ytkppkbafoeblhaa.VecI
namespace Go.Proofs.Ytkppkbafoeblhaa.VecI
open Go.ChangeShapes Go.WideShapes Go.ChangeAt Go.RowKit
open Go.Proofs.Ytkppkbafoeblhaa.Seq Go.Proofs.Ytkppkbafoeblhaa.Help Go.Proofs.Ytkppkbafoeblhaa.Field Go.Proofs.Ytkppkbafoeblhaa.FieldW Go.Proofs.Ytkppkbafoeblhaa.Vec Go.Proofs.Ytkppkbafoeblhaa.VecW Go.Proofs.Ytkppkbafoeblhaa.VecOps

theorem add_empty (ys : List Int) (k : Int) : addScaled [] ys k = [] := List.eq_nil_of_length_eq_zero (by have := addScaled_le [] ys k; simpa using this)
/-- Once empty, it stays so. -/
theorem combs_bad (ps : List (List Int × Int)) (ws : Nat) (acc : List Int) (hacc : acc.length = ws ∨ acc = []) (y : List Int) (hy : y ∈ ps.map (·.1)) (hbad : (Vec.isVec y && (y.length == ws)) = false) :
    ps.foldl (fun acc p => addScaled acc p.1 p.2) acc = [] := by
  have hnil : ∀ ps : List (List Int × Int), ps.foldl (fun acc p => addScaled acc p.1 p.2) [] = [] := by
    intro ps
    induction ps with
    | nil => rfl
    | cons p ps ih => rw [List.foldl_cons, add_empty]; exact ih
  induction ps generalizing acc with
  | nil => simp at hy
  | cons p ps ih =>
    rw [List.foldl_cons]
    rcases hacc with hacc | rfl
    · by_cases hp : y = p.1
      · have : addScaled acc p.1 p.2 = [] := by
          subst hp
          unfold addScaled
          cases h1 : Vec.isVec p.1
          · simp
          · rw [h1] at hbad
            have h2 : (acc.length == p.1.length) = false := by
              rw [Bool.true_and] at hbad
              rw [hacc]
              simp only [beq_eq_false_iff_ne, ne_eq] at hbad ⊢
              omega
            rw [h2]; simp
        rw [this]; exact hnil _
      · have hy2 : y ∈ ps.map (·.1) := by
          simp only [List.map_cons, List.mem_cons] at hy
          exact hy.resolve_left hp
        refine ih _ ?_ hy2
        unfold addScaled
        cases h : (Vec.isVec acc && Vec.isVec p.1 && (acc.length == p.1.length)) && isEl p.2
        · exact .inr rfl
        · refine .inl ?_
          simp only [Bool.and_eq_true, beq_iff_eq] at h
          show (mac acc p.1 p.2).length = ws
          rw [mac_len _ h.1.2, hacc]
    · rw [add_empty]; exact hnil _
theorem combine_combs {xss : List (List Int)} {cs xs : List Int} (h0 : xss[0]? = some xs) (hl : xss.length = cs.length) (hv : Vec.isVec cs = true) : combine xss cs = combs xs.length xss cs := by
  by_cases hok : ∀ ys ∈ xss, (Vec.isVec ys && (ys.length == xs.length)) = true
  · have := combine_ok h0 rfl hl hv (fun ys hy => hok ys (List.mem_of_mem_take hy))
    rwa [List.take_length, List.take_of_length_le (by omega)] at this
  · simp only [Classical.not_forall] at hok
    obtain ⟨ys, hy, hb⟩ := hok
    obtain ⟨j, hj⟩ := List.getElem?_of_mem hy
    rw [combine_row h0 hj (by simpa using hb)]
    refine (combs_bad _ xs.length _ (.inl (by simp)) ys ?_ (by simpa using hb)).symm
    rw [List.map_fst_zip (by omega)]; exact hy


end Go.Proofs.Ytkppkbafoeblhaa.VecI
namespace Go.Proofs.Ytkppkbafoeblhaa.MatI
open Go.ChangeShapes Go.WideShapes Go.ChangeAt Go.RowKit
open Go.Proofs.Ytkppkbafoeblhaa.Seq Go.Proofs.Ytkppkbafoeblhaa.Help Go.Proofs.Ytkppkbafoeblhaa.Field Go.Proofs.Ytkppkbafoeblhaa.FieldW Go.Proofs.Ytkppkbafoeblhaa.Vec Go.Proofs.Ytkppkbafoeblhaa.VecW Go.Proofs.Ytkppkbafoeblhaa.VecOps Go.Proofs.Ytkppkbafoeblhaa.Mat Go.Proofs.Ytkppkbafoeblhaa.MatW Go.Proofs.Ytkppkbafoeblhaa.MatOps

theorem over_z {xs ms : List Int} {n j : Nat} {x : Int} (hl : xs.length = n) (hm : ms.length = n) (hj : j < n) (hx : ms[j]? = some x) : (ms.take j ++ xs.drop j).set j x = ms.take (j + 1) ++ xs.drop (j + 1) := over2 hl hm hj hx
theorem isMat_bad {m : List (List Int)} {ys : List Int} {j : Nat} (hj : m[j]? = some ys) (h : (Vec.isVec ys && (ys.length == colsOf m)) = false) : Mat.isMat m = false := by
  have h1 : okRows (colsOf m) m = false := by
    unfold okRows
    rw [List.all_eq_false]; exact ⟨ys, List.mem_of_getElem? hj, by rw [h]; simp⟩
  unfold Mat.isMat; rw [h1]; rfl

theorem cols_is (w : World) {l h : Nat} {ad : Option Addr} {n cap : Nat} {m : List (List Int)} (s : Sls w l h ad n cap m) :
    Calls Try.prog 61 #[.slice ad n cap] w (Is (colsOf m) w) := by
  have hbig := s.big
  have hcap := s.le
  unfold maxLen at hbig
  by_cases hn0 : n = 0
  · subst hn0
    have hx0 : m = [] := List.eq_nil_of_length_eq_zero s.len
    subst hx0
    go_enter Try.func61, Try.ntmps61
    go_wp2
    go_ret
    exact ⟨rfl, rfl⟩
  · have hn00 : ((n : Int) == 0) = false := by simp; omega
    obtain ⟨a, ad0, n0, cap0, x0, rfl, hx0, hc0⟩ := s.at_ (j := 0) (by omega)
    rw [add_0] at hc0
    have H0 := Lib.hid ((colsOf_get hx0.get).trans hx0.sl.len)
    clear hx0
    rw [H0.out]
    go_enter Try.func61, Try.ntmps61
    go_wp2
    go_ret
    exact ⟨rfl, rfl⟩
theorem cols : ColsOp := fun w _ _ _ _ _ _ s _ _ => (cols_is w s).mono is_below

set_option maxRecDepth 100000 in
theorem isMat_is (w : World) {l h : Nat} {ad : Option Addr} {n cap : Nat} {m : List (List Int)} (s : Sls w l h ad n cap m) :
    Calls Try.prog 60 #[.slice ad n cap] w (IsB (Mat.isMat m) w) := by
  have hbig := s.big
  have hcap := s.le
  unfold maxLen at hbig
  have HL := Lib.hid s.len
  by_cases hl : 40 < n
  · have HE := Lib.hid (show Mat.isMat m = false from by unfold Mat.isMat; rw [decide_eq_false (by rw [HL.out]; omega), Bool.and_false])
    rw [HE.out]
    go_enter Try.func60, Try.ntmps60
    go_wp2
    go_ret
    exact ⟨rfl, rfl⟩
  have KC := Lib.hid (cols_is w s)
  go_enter Try.func60, Try.ntmps60
  go_wp2
  go_loop [10] (fun i => ∃ j : Nat, j ≤ n ∧ i = .int .i64 j ∧ Hid (∀ y ∈ m.take j, (Vec.isVec y && (y.length == colsOf m)) = true)) (fun i => n - (intOf i).toNat)
  case atStart => exact ⟨0, Nat.zero_le _, rfl, fun y hy => by simp at hy⟩
  case round =>
    obtain ⟨j, hj, rfl, HOK⟩ := hrel
    by_cases hlt : j < n
    · obtain ⟨a1, ad3, n3, cap3, xs, rfl, hx, hc⟩ := s.at_ hlt
      have hle3 := hx.sl.le
      have hbg3 := hx.sl.big
      unfold maxLen at hbg3
      have HX := Lib.hid hx.get
      have L3 := Lib.hid hx.sl.len
      have hV := VecI.isVec_is w hx.sl
      clear hx
      obtain ⟨c, hcc⟩ : ∃ c, c = colsOf m := ⟨_, rfl⟩
      have HCC := Lib.hid hcc
      clear hcc
      rw [← HCC.out] at KC
      by_cases hl3 : n3 = c
      case neg =>
        have HE := Lib.hid (isMat_bad HX.out (by rw [L3.out, ← HCC.out]; simp [hl3]))
        have hl4 : ((n3 : Int) == (c : Int)) = false := by simp; omega
        have hl5 : ((n3 : Int) != (c : Int)) = true := by simp; omega
        clear hl3 hV
        rw [HE.out]
        go_wp2_with fail
        go_at_call 61
        refine KC.out.mono ?_
        rintro e w' ⟨rfl, rfl⟩
        go_wp2
        go_ret
        exact ⟨rfl, rfl⟩
      subst hl3
      cases hvx : Vec.isVec xs
      · rw [hvx] at hV
        have HV := Lib.hid hV
        have HE := Lib.hid (isMat_bad HX.out (by rw [hvx]; rfl))
        clear hV hvx
        rw [HE.out]
        go_wp2_with fail
        go_at_call 61
        refine KC.out.mono ?_
        rintro e w' ⟨rfl, rfl⟩
        go_wp2_with fail
        go_at_call 82
        refine HV.out.mono ?_
        rintro e w' ⟨rfl, rfl⟩
        go_wp2
        go_ret
        exact ⟨rfl, rfl⟩
      · rw [hvx] at hV
        have HV := Lib.hid hV
        have HMore := Lib.hid (rows_more HX.out HOK.out (by rw [L3.out, ← HCC.out, hvx]; simp))
        clear hV hvx
        go_wp2_with fail
        go_at_call 61
        refine KC.out.mono ?_
        rintro e w' ⟨rfl, rfl⟩
        go_wp2_with fail
        go_at_call 82
        refine HV.out.mono ?_
        rintro e w' ⟨rfl, rfl⟩
        go_wp2
        go_round
        case rel => exact ⟨j + 1, by omega, by go_num, HMore.out⟩
        case measure => simp [intOf]; omega
    · obtain rfl : j = n := by omega
      have HE := Lib.hid (isMat_all HL.out rfl HOK.out)
      go_wp2
      go_ret
      exact ⟨by rw [HE.out]; simp; omega, rfl⟩
theorem isMat : IsMatOp := fun w _ _ _ _ _ _ s _ _ => (isMat_is w s).mono isB_below




end Go.Proofs.Ytkppkbafoeblhaa.MatI
namespace Go.Proofs.Ytkppkbafoeblhaa.MatI
open Go.ChangeShapes Go.WideShapes Go.ChangeAt Go.RowKit
open Go.Proofs.Ytkppkbafoeblhaa.Seq Go.Proofs.Ytkppkbafoeblhaa.Help Go.Proofs.Ytkppkbafoeblhaa.Field Go.Proofs.Ytkppkbafoeblhaa.FieldW Go.Proofs.Ytkppkbafoeblhaa.Vec Go.Proofs.Ytkppkbafoeblhaa.VecW Go.Proofs.Ytkppkbafoeblhaa.VecOps Go.Proofs.Ytkppkbafoeblhaa.Mat Go.Proofs.Ytkppkbafoeblhaa.MatW Go.Proofs.Ytkppkbafoeblhaa.MatOps



set_option maxRecDepth 100000 in
theorem eqFunc (w : World) {l h l2 h2 : Nat} {ad ad2 : Option Addr} {n cap n2 cap2 : Nat} {a b : List (List Int)} (s : Sls w l h ad n cap a) (hn : n ≤ 1099511627776) (ha : Short a) (s2 : Sls w l2 h2 ad2 n2 cap2 b) (hb2 : Short b) :
    Calls Try.prog 92 #[.slice ad n cap, .slice ad2 n2 cap2, .func (.func 93) #[] #[]] w (SaysB (sameM a b) w) := by
  have hbig := s.big
  have hcap := s.le
  have hbig2 := s2.big
  have hcap2 := s2.le
  unfold maxLen at hbig hbig2
  have HA := Lib.hid ha
  have HB := Lib.hid hb2
  clear ha hb2
  by_cases hnn : n = n2
  case neg =>
    have HE := Lib.hid (show sameM a b = false from decide_eq_false fun e => hnn (by rw [← s.len, ← s2.len, e]))
    have hn1 : ((n : Int) == n2) = false := by simp; omega
    have hn2 : ((n : Int) != n2) = true := by simp; omega
    rw [HE.out]
    go_enter Try.func92, Try.ntmps92
    go_wp2
    go_ret
    exact ⟨rfl, Below.refl _ _⟩
  subst hnn
  have HL := Lib.hid s.len
  have HL2 := Lib.hid s2.len
  go_enter Try.func92, Try.ntmps92
  go_wp2
  go_loopw [17] (fun i wr => ∃ j : Nat, j ≤ n ∧ i = .int .i64 j ∧ Hid (a.take j = b.take j) ∧ Below w.heap.size w wr) (fun i _ => n - (intOf i).toNat)
  case atStart => exact ⟨0, Nat.zero_le _, rfl, by simp [Hid], Below.refl _ _⟩
  case round =>
    obtain ⟨j, hj, rfl, HT, hw⟩ := hrel
    have zw := hw.size
    by_cases hlt : j < n
    · obtain ⟨a1, ad3, n3, cap3, x, rfl, hx, hc⟩ := (s.below hw (.inr (Nat.le_refl _))).at_ hlt
      obtain ⟨a2, ad4, n4, cap4, y, rfl, hy, hc2⟩ := (s2.below hw (.inr (Nat.le_refl _))).at_ hlt
      have hn3 : n3 ≤ 17592186044416 := by rw [← hx.sl.len]; exact HA.out _ (List.mem_of_getElem? hx.get)
      have hn4 : n4 ≤ 17592186044416 := by rw [← hy.sl.len]; exact HB.out _ (List.mem_of_getElem? hy.get)
      have hle3 := hx.sl.le
      have hbg3 := hx.sl.big
      have hle4 := hy.sl.le
      have hbg4 := hy.sl.big
      unfold maxLen at hbg3 hbg4
      have KQ := Lib.hid (VecI.eqV wr hx.sl hn3 hy.sl hn4)
      cases hxy : Eq.same x y
      · have HE := Lib.hid (rows_no hx.get hy.get hxy)
        rw [hxy] at KQ
        clear hx hy
        rw [HE.out]
        go_wp2_with fail
        go_at_call 93
        refine KQ.out.mono ?_
        rintro e w2 ⟨rfl, b2⟩
        have HB2 := Lib.hid (hw.trans (b2.mono zw))
        clear b2
        go_wp2
        go_ret
        exact ⟨rfl, HB2.out⟩
      · obtain rfl := same_iff.1 hxy
        rw [hxy] at KQ
        have HS := Lib.hid (steps HT.out hx.get hy.get)
        clear hx hy hxy
        go_wp2_with fail
        go_at_call 93
        refine KQ.out.mono ?_
        rintro e w2 ⟨rfl, b2⟩
        have HB2 := Lib.hid (hw.trans (b2.mono zw))
        clear b2
        go_wp2
        go_roundw
        case rel => exact ⟨j + 1, by omega, by go_num, HS.out, HB2.out⟩
        case measure => simp [intOf]; omega
    · obtain rfl : j = n := by omega
      have HE := Lib.hid (show sameM a b = true from decide_eq_true (by have := HT.out; rwa [List.take_of_length_le (Nat.le_of_eq HL.out), List.take_of_length_le (Nat.le_of_eq HL2.out)] at this))
      go_wp2
      go_ret
      exact ⟨by rw [HE.out]; rfl, hw⟩
theorem eqM : EqMOp := fun w l h l2 h2 ad ad2 n cap n2 cap2 a b s hn ha s2 _ hb => by
  have H := Lib.hid (eqFunc w s hn ha s2 hb)
  generalize sameM a b = r at *
  go_enter Try.func70, Try.ntmps70
  go_wp2_with fail
  go_at_call 92
  refine H.out.mono ?_
  rintro e w' ⟨rfl, bl⟩
  go_wp2
  go_ret
  exact ⟨rfl, bl⟩
end Go.Proofs.Ytkppkbafoeblhaa.MatI
namespace Go.Proofs.Ytkppkbafoeblhaa.MatI
open Go.ChangeShapes Go.WideShapes Go.ChangeAt Go.RowKit
open Go.Proofs.Ytkppkbafoeblhaa.Seq Go.Proofs.Ytkppkbafoeblhaa.Help Go.Proofs.Ytkppkbafoeblhaa.Field Go.Proofs.Ytkppkbafoeblhaa.FieldW Go.Proofs.Ytkppkbafoeblhaa.Vec Go.Proofs.Ytkppkbafoeblhaa.VecW Go.Proofs.Ytkppkbafoeblhaa.VecOps Go.Proofs.Ytkppkbafoeblhaa.Mat Go.Proofs.Ytkppkbafoeblhaa.MatW Go.Proofs.Ytkppkbafoeblhaa.MatOps

/-- A row's product by Combine. -/
theorem combine_rowMul {b : List (List Int)} {xs : List Int} (hl : b.length = xs.length) (hv : Vec.isVec xs = true) : combine b xs = rowMul xs b := by
  cases b with
  | nil => 
    obtain rfl : xs = [] := List.eq_nil_of_length_eq_zero (by simpa using hl.symm)
    rfl
  | cons y r => exact VecI.combine_combs (xs := y) rfl hl hv



end Go.Proofs.Ytkppkbafoeblhaa.MatI
namespace Go.Proofs.Ytkppkbafoeblhaa.Seq
open Go.ChangeShapes Go.WideShapes Go.ChangeAt Go.RowKit

/-- Whatever is cells lies as it lay. -/
structure Kc (X Y : World) : Prop where
  size : X.heap.size ≤ Y.heap.size
  cells : ∀ (k : Nat) (o : Obj), X.heap[k]? = some o → o.isCells = true → Y.heap[k]? = X.heap[k]?
theorem kc_of {W W' : World} {row : Option Nat} (hg : W.grownBy W' row) (hr : ∀ r, row = some r → ∃ o : Obj, W.heap[r]? = some o ∧ o.isCells = false) : Kc W W' :=
  ⟨hg.size, fun _ _ hk hc => grownBy_keeps_cells hg hr hk hc⟩
theorem own_kc {β : Type} {I : β → World → Prop} (h : ∀ s X Y, Kc X Y → I s X → I s Y) : Own I := fun s W W' _ hs hg hr => h s W W' (kc_of hg hr) hs
section
variable {w w' : World} {l h : Nat} {k : IntKind} {e e1 : TypeId} {ad : Option Addr} {n cap K : Nat} {xs : List Int} {us : List Value} {xss : List (List Int)} {u : Value}
theorem Kc.cell {p : Addr} {v : Value} (m : Kc w w') (hc : w.cell? p = some v) : w'.cell? p = some v := by
  obtain ⟨o, ho, h2⟩ := cells_of_cell hc
  exact (World.cell?_of_block (m.cells _ o ho h2)).trans hc
theorem owns_kc {base size : Nat} {v : Value} {us : List Value} (o : w.ownsRow base e size v n us) (m : Kc w w') : w'.ownsRow base e size v n us := by
  refine owns_keep o fun g hg => ?_
  rcases o.2 with ⟨rfl, _⟩ | ⟨g', c, cur, rfl, h1, h2, r⟩
  · simp [Value.ownBlock] at hg
  · obtain rfl : g' = g := by simpa [Value.ownBlock] using hg
    exact m.cells g' _ h2 rfl
theorem Sl.kc (s : Sl w l h k ad n cap xs) (m : Kc w w') : Sl w' l h k ad n cap xs := s.keep fun _ _ _ _ hc => m.cell hc
theorem SlV.kc (s : SlV w l h ad n cap us) (m : Kc w w') : SlV w' l h ad n cap us := s.keep fun _ _ _ _ hc => m.cell hc
theorem Sls.kc (s : Sls w l h ad n cap xss) (m : Kc w w') : Sls w' l h ad n cap xss := s.keep fun _ _ _ _ hc => m.cell hc
theorem Row.kc (r : Row w l h k e ad n cap xs) (m : Kc w w') : Row w' l h k e ad n cap xs := ⟨r.len, r.le, r.big, r.fits, r.own.imp id fun ⟨g, a, b, c, d⟩ => ⟨g, a, b, c, owns_kc d m⟩⟩
theorem RowV.kc (r : RowV w l h e ad n cap us) (m : Kc w w') : RowV w' l h e ad n cap us := ⟨r.len, r.le, r.big, r.one, r.own.imp id fun ⟨g, a, b, c, d⟩ => ⟨g, a, b, c, owns_kc d m⟩⟩
theorem RowK.kc (r : RowK K w l h e ad n cap us) (m : Kc w w') : RowK K w' l h e ad n cap us := ⟨r.len, r.le, r.big, r.one, r.own.imp id fun ⟨g, a, b, c, d⟩ => ⟨g, a, b, c, owns_kc d m⟩⟩
theorem OwnInts.kc (s : OwnInts w l h e u xs) (m : Kc w w') : OwnInts w' l h e u xs := s.imp fun _ _ _ _ _ r => r.kc m
theorem OwnTail.kc (s : OwnTail w l h e u xs) (m : Kc w w') : OwnTail w' l h e u xs := s.imp fun _ _ _ _ _ b1 b2 r => ⟨b1, b2, r.kc m⟩
theorem Grid.kc (r : Grid w l h e e1 ad n cap us xss) (m : Kc w w') : Grid w' l h e e1 ad n cap us xss := ⟨r.out.kc m, r.len, fun j u xs hu hx => (r.rows j u xs hu hx).kc m, r.apart, r.away⟩
theorem Net.kc (r : Net w l h e ad n cap us xss) (m : Kc w w') : Net w' l h e ad n cap us xss := ⟨r.out.kc m, r.len, fun j u xs hu hx => (r.rows j u xs hu hx).kc m, r.apart, r.away⟩
theorem box_kc {B : Nat} {t : TypeId} {v : Value} (b : Boxed w B t v) (m : Kc w w') : Boxed w' B t v := (m.cells B _ b rfl).trans b
/-- The block that a slice's address names holds cells. -/
def Solid (w : World) (ad : Option Addr) : Prop := ∀ g, ad = some ⟨g, 0, none⟩ → ∃ o : Obj, w.heap[g]? = some o ∧ o.isCells = true
theorem Solid.kc (s : Solid w ad) (m : Kc w w') : Solid w' ad := fun g e => by
  obtain ⟨o, h1, h2⟩ := s g e
  exact ⟨o, (m.cells g o h1 h2).trans h1, h2⟩
theorem owns_solid {base size : Nat} {us : List Value} {g c : Nat} (o : w.ownsRow base e size (.slice (some ⟨g, 0, none⟩) n c) n us) : ∃ o : Obj, w.heap[g]? = some o ∧ o.isCells = true := by
  rcases o.2 with ⟨hn, _⟩ | ⟨g', c', cur, hv, h1, h2, r⟩
  · simp at hn
  · simp only [Value.slice.injEq, Option.some.injEq, Addr.mk.injEq, and_true, true_and] at hv
    obtain ⟨rfl, rfl⟩ := hv
    exact ⟨_, h2, rfl⟩
theorem RowK.solid {g : Nat} (r : RowK K w l h e (some ⟨g, 0, none⟩) n cap us) (hn : 0 < n) : Solid w (some ⟨g, 0, none⟩) := fun g' e' => by
  obtain rfl := (Addr.mk.inj (Option.some.inj e')).1
  rcases r.own with ⟨h0, _⟩ | ⟨g2, h1, _, _, h4⟩
  · omega
  · exact owns_solid h4
theorem RowV.solid {g : Nat} (r : RowV w l h e (some ⟨g, 0, none⟩) n cap us) (hn : 0 < n) : Solid w (some ⟨g, 0, none⟩) := fun g' e' => by
  obtain rfl := (Addr.mk.inj (Option.some.inj e')).1
  rcases r.own with ⟨h0, _⟩ | ⟨g2, h1, _, _, h4⟩
  · omega
  · exact owns_solid h4
theorem Solid.below {B : Nat} (s : Solid w ad) (b : Below B w w') (hB : w.heap.size ≤ B) : Solid w' ad := fun g e => by
  obtain ⟨o, h1, h2⟩ := s g e
  have := (Array.getElem?_eq_some_iff.1 h1).1
  exact ⟨o, (b.block g (by omega)).trans h1, h2⟩
theorem others_below (b : Below w.heap.size w w') : KeepsOthers w w' := ⟨b.size, fun k _ hk _ => (b.block k (Array.getElem?_eq_some_iff.1 hk).1).trans hk⟩
/-- An append touches nothing but cells. -/
theorem Put.others {g : Nat} (p : Put w w' l h ad g) (s : Solid w ad) : KeepsOthers w w' := by
  rcases p with ⟨e, _, _, _, m⟩ | ⟨_, b⟩
  · refine ⟨m.size, fun k _ hk ho => ?_⟩
    obtain ⟨o2, h1, h2⟩ := s g e
    have hkg : k ≠ g := fun e => by subst e; rw [hk] at h1; cases h1; rw [ho] at h2; cases h2
    exact (m.block k (Array.getElem?_eq_some_iff.1 hk).1 (by omega)).trans hk
  · exact others_below b
/-- A box apart from where an append writes. -/
theorem Put.box {g B : Nat} {t : TypeId} {v : Value} (p : Put w w' l h ad g) (b : Boxed w B t v) (hB : B < l ∨ (h ≤ B)) : Boxed w' B t v := by
  have hBw := (Array.getElem?_eq_some_iff.1 b).1
  rcases p with ⟨e, h1, h2, _, m⟩ | ⟨_, m⟩
  · exact (m.block B hBw (by omega)).trans b
  · exact (m.block B hBw).trans b
theorem box_below {B n : Nat} {t : TypeId} {v : Value} (b : Boxed w B t v) (m : Below n w w') (hB : B < n) : Boxed w' B t v := (m.block B hB).trans b
theorem box_mv {B l' h' : Nat} {t : TypeId} {v : Value} (b : Boxed w B t v) (m : Mv w w' l' h') (hB : B < l' ∨ h' ≤ B) : Boxed w' B t v := (m.block B (Array.getElem?_eq_some_iff.1 b).1 (by omega)).trans b
theorem box_set {B : Nat} {t : TypeId} {v : Value} (b : Boxed w B t v) (u : Value) : Boxed (w.setCell ⟨B, 0, none⟩ u) B t u ∧ Mv w (w.setCell ⟨B, 0, none⟩ u) B (B + 1) :=
  ⟨Boxed.set u b, (Mv.refl _ _ _).setCell (Nat.le_refl _) (Nat.lt_succ_self _) _⟩
end
end Go.Proofs.Ytkppkbafoeblhaa.Seq
namespace Go.Proofs.Ytkppkbafoeblhaa.Deep
open Go.RowKit Go.WideShapes Go.Proofs.Ytkppkbafoeblhaa.Seq
section
variable {w : World} {lo hi hi2 : Nat} {e e2 : TypeId} {ad : Option Addr} {n cap : Nat} {us : List Value} {xss : List (List Int)}
theorem net_part (r : Net w lo hi e ad n cap us xss) {s k : Nat} (h : s + k ≤ n) (hk : 0 < k) (hm : k ≤ maxLen) : ∃ a, ad = some a ∧ ∃ ws hs, Ow w lo hi tIss none [.slice (some (a.add s)) k k] ((xss.drop s).take k) ws hs ∧ (ws.map Prod.fst).Nodup ∧
    (∀ z ∈ ws.map Prod.fst, ∃ j u, s ≤ j ∧ j < s + k ∧ us[j]? = some u ∧ blockOf u = some z.block) ∧ ∀ z ∈ hs, ∃ j, s ≤ j ∧ j < s + k ∧ z = a.add j := by
  obtain ⟨_, _, a, _, _, _, rfl, _⟩ := r.row (j := s) (by omega)
  refine ⟨a, rfl, ?_⟩
  have hl := r.len
  obtain ⟨wss, hss, o, l1, l2, hp⟩ := Ow.list (w := w) (lo := lo) (hi := hi) (t := tIs) (ad := some (a.add s)) (n := k) (cap := k) (xs := (xss.drop s).take k) (by rw [List.length_take, List.length_drop]; omega) (Nat.le_refl _) hm (fun e => by cases e)
    (P := fun j w1 h1 => ∃ u, us[s + j]? = some u ∧ (w1.map Prod.fst).Nodup ∧ (∀ z ∈ w1.map Prod.fst, blockOf u = some z.block) ∧ h1 = [a.add (s + j)]) (fun j x hx => by
      have hj : j < k := by have := (List.getElem?_eq_some_iff.1 hx).1; rw [List.length_take] at this; omega
      rw [List.getElem?_take, if_pos hj, List.getElem?_drop] at hx
      obtain ⟨u, xs, a', hu, hx', ho, ea, hc⟩ := r.row (j := s + j) (by omega)
      obtain rfl := Option.some.inj (hx.symm.trans hx')
      obtain rfl := Option.some.inj ea
      obtain ⟨ws, o, h1, h2⟩ := tail_ow ho
      obtain ⟨a', u', e', _, b1, b2, _⟩ := r.out.at_ (j := s + j) (by omega)
      obtain rfl := Option.some.inj e'
      refine ⟨a.add s, [u], ws, [a.add (s + j)], rfl, ?_, u, hu, h1, h2, rfl⟩
      rw [show j * T.K tIs = j from Nat.mul_one j, add_add]
      exact o.atl hc (by rw [add_block]; exact b1) (by rw [add_block]; exact b2))
  have hw : ∀ (j : Nat) (w1 : List (Addr × IntKind)), wss[j]? = some w1 → j < k ∧ ∃ u, us[s + j]? = some u ∧ (w1.map Prod.fst).Nodup ∧ ∀ z ∈ w1.map Prod.fst, blockOf u = some z.block := fun j w1 hj => by
    have hjn := (List.getElem?_eq_some_iff.1 hj).1
    obtain ⟨u, h1, h2, h3, _⟩ := hp j w1 _ hj (List.getElem?_eq_getElem (by omega))
    exact ⟨by omega, u, h1, h2, h3⟩
  refine ⟨wss.flatten, hss.flatten, o, flat_nodup (fun j w1 hj => (hw j w1 hj).2.elim fun _ h => h.2.1) fun i j w1 w2 hij hi hj z hz hz2 => ?_, fun z hz => ?_, fun z hz => ?_⟩
  · obtain ⟨_, u, hu, _, h1⟩ := hw i w1 hi
    obtain ⟨_, v, hv, _, h2⟩ := hw j w2 hj
    exact r.apart (s + i) (s + j) u v z.block (by omega) hu hv (h1 z hz) (h2 z hz2)
  · obtain ⟨q, hq, rfl⟩ := List.mem_map.1 hz
    obtain ⟨w1, hw1, hq⟩ := List.mem_flatten.1 hq
    obtain ⟨i, hi⟩ := List.mem_iff_getElem?.1 hw1
    obtain ⟨hik, u, hu, _, h1⟩ := hw i w1 hi
    exact ⟨s + i, u, by omega, by omega, hu, h1 q.1 (List.mem_map.2 ⟨q, hq, rfl⟩)⟩
  · obtain ⟨q, hq, hz⟩ := List.mem_flatten.1 hz
    obtain ⟨j, hj⟩ := List.mem_iff_getElem?.1 hq
    have hjn := (List.getElem?_eq_some_iff.1 hj).1
    obtain ⟨_, _, _, _, rfl⟩ := hp j _ q (List.getElem?_eq_getElem (by omega)) hj
    simp at hz
    exact ⟨s + j, by omega, by omega, hz⟩
/-- The cells of a list of structs: a number that counts on, and a value. -/
def countOn {α : Type} (F : Int) (V : α → Value) (pre : List α) (s : Nat) : List Value := (pre.zipIdx s).flatMap fun p => [.int .i64 (F + ((p.2 : Nat) : Int)), V p.1]
theorem countOn_snoc {α : Type} (F : Int) (V : α → Value) (pre : List α) (x : α) : countOn F V (pre ++ [x]) 0 = countOn F V pre 0 ++ [.int .i64 (F + (pre.length : Int)), V x] := by
  unfold countOn
  rw [List.zipIdx_append, List.flatMap_append]
  simp
theorem countOn_len {α : Type} (F : Int) (V : α → Value) : ∀ (pre : List α) (s : Nat), (countOn F V pre s).length = pre.length * 2
  | [], _ => rfl
  | x :: pre, s => by
    have h := countOn_len F V pre (s + 1)
    unfold countOn at h ⊢
    rw [List.zipIdx_cons, List.flatMap_cons, List.length_append, h]
    simp; omega
theorem countOn_get {α : Type} (F : Int) (V : α → Value) : ∀ (pre : List α) (s j : Nat) (x : α), pre[j]? = some x → (countOn F V pre s)[j * 2]? = some (.int .i64 (F + ((s + j : Nat) : Int))) ∧ (countOn F V pre s)[j * 2 + 1]? = some (V x)
  | [], _, _, _, h => by simp at h
  | y :: pre, s, 0, x, h => by
    simp at h
    subst h
    unfold countOn
    rw [List.zipIdx_cons, List.flatMap_cons]
    exact ⟨by simp, by simp⟩
  | y :: pre, s, j + 1, x, h => by
    rw [List.getElem?_cons_succ] at h
    obtain ⟨h1, h2⟩ := countOn_get F V pre (s + 1) j x h
    unfold countOn at h1 h2 ⊢
    rw [List.zipIdx_cons, List.flatMap_cons]
    refine ⟨?_, ?_⟩
    · rw [show (j + 1) * 2 = (j * 2) + 2 by omega, List.getElem?_append_right (by simp), show j * 2 + 2 - _ = j * 2 from by simp, h1]
      congr 4; omega
    · rw [show (j + 1) * 2 + 1 = (j * 2 + 1) + 2 by omega, List.getElem?_append_right (by simp), show j * 2 + 1 + 2 - _ = j * 2 + 1 from by simp, h2]
theorem own_parts {C k g N' cap' : Nat} {A : Addr} {F : Int} {V : Fin C → Value} (nt : Net w lo hi e (some A) n cap us xss) (hk : 0 < k) (hn : n ≤ maxLen) (hC : ∀ j, j < C → j * k < n) (hF : ∀ j : Nat, j < C → Fits .i64 (F + (j : Int))) (hV : ∀ j : Fin C, V j = .slice (some (A.add (j.val * k))) (min k (n - j.val * k)) (min k (n - j.val * k)))
    (r : RowK 2 w hi hi2 e2 (some ⟨g, 0, none⟩) N' cap' (countOn F V (List.finRange C) 0)) (hlh : lo ≤ hi) (hh2 : hi ≤ hi2) (hC0 : 0 < C) :
    Own w lo hi2 (.l tBas) [.slice (some ⟨g, 0, none⟩) N' cap'] ((List.range C).map fun (i : Nat) => (F + (i : Int), (xss.drop (i * k)).take k)) := by
  have hN : N' = C := by have := r.len; rw [countOn_len, List.length_finRange] at this; omega
  subst hN
  obtain ⟨g', eg, hg1, hg2⟩ := r.pos hC0
  obtain rfl := (Addr.mk.inj (Option.some.inj eg)).1
  have hxl := nt.len
  have hfz : ∀ j, w.frozen? ⟨g, j, none⟩ = false := fun j => by
    rcases r.own with ⟨h0, _⟩ | ⟨g2, h1, _, _, h4⟩
    · omega
    · exact h4.frozenAt j
  obtain ⟨a0, ea0, -⟩ : ∃ a, (some A : Option Addr) = some a ∧ True := ⟨A, rfl, trivial⟩
  obtain ⟨wss, hss, o, l1, l2, hp⟩ := Ow.list (w := w) (lo := lo) (hi := hi2) (t := tBas) (ad := some ⟨g, 0, none⟩) (n := N') (cap := cap') (xs := (List.range N').map fun (i : Nat) => (F + (i : Int), (xss.drop (i * k)).take k)) (by simp) r.le r.big (fun e => by cases e)
    (P := fun j w1 h1 => ∃ ws hs, w1 = ((⟨g, j * 2, none⟩ : Addr), IntKind.i64) :: ws ∧ h1 = (⟨g, j * 2 + 1, none⟩ : Addr) :: hs ∧ (ws.map Prod.fst).Nodup ∧ (∀ z ∈ ws.map Prod.fst, ∃ i u, j * k ≤ i ∧ i < j * k + k ∧ us[i]? = some u ∧ blockOf u = some z.block) ∧ ∀ z ∈ hs, ∃ i, z = A.add i ∧ i < n) (fun j x hx => by
      have hj : j < N' := by have := (List.getElem?_eq_some_iff.1 hx).1; simpa using this
      rw [List.getElem?_map, List.getElem?_range hj, Option.map_some] at hx
      obtain rfl := Option.some.inj hx
      have hjk := hC j hj
      obtain ⟨a, ea, ws, hs, ow, q1, q2, q3⟩ := net_part nt (s := j * k) (k := min k (n - j * k)) (by omega) (by omega) (by omega)
      obtain rfl := Option.some.inj ea
      have ht : (xss.drop (j * k)).take (min k (n - j * k)) = (xss.drop (j * k)).take k := by
        rcases Nat.le_total k (n - j * k) with h | h
        · rw [Nat.min_eq_left h]
        · rw [Nat.min_eq_right h, List.take_of_length_le (by rw [List.length_drop]; omega), List.take_of_length_le (by rw [List.length_drop]; omega)]
      rw [ht] at ow
      obtain ⟨c1, c2⟩ := countOn_get F V (List.finRange N') 0 j ⟨j, hj⟩ (by rw [List.getElem?_eq_getElem (by simpa using hj)]; simp)
      have r1 := r.sl.cells _ _ c1
      have r2 := r.sl.cells _ _ c2
      obtain ⟨_, e1, _, _, r1⟩ := r1
      obtain rfl := Option.some.inj e1
      obtain ⟨_, e1, _, _, r2⟩ := r2
      obtain rfl := Option.some.inj e1
      rw [Addr.add_lit, Nat.zero_add] at r1 r2
      rw [Nat.zero_add] at r1
      rw [hV ⟨j, hj⟩] at r2
      refine ⟨⟨g, 0, none⟩, _, _, _, rfl, ⟨[.int .i64 (F + (j : Int))], [.slice (some (A.add (j * k))) (min k (n - j * k)) (min k (n - j * k))], [((⟨g, j * 2, none⟩ : Addr), IntKind.i64)], ws, [], (⟨g, j * 2 + 1, none⟩ : Addr) :: hs, rfl, rfl, rfl, ⟨rfl, hF j hj, ?_, rfl, fun a e => ?_⟩, ?_⟩, ws, hs, rfl, rfl, q1, ?_, ?_⟩
      · rw [show j * T.K tBas = j * 2 from rfl, Addr.add_lit, Nat.zero_add]; rfl
      · obtain rfl := Option.some.inj e
        rw [show j * T.K tBas = j * 2 from rfl, Addr.add_lit, Nat.zero_add]
        exact ⟨by show lo ≤ g; omega, by show g < hi2; omega, r1, hfz _⟩
      · rw [show j * T.K tBas = j * 2 from rfl, Addr.add_lit, Nat.zero_add, Option.map_some, show (Addr.add ⟨g, j * 2, none⟩ (T.K (T.i .i64))) = ⟨g, j * 2 + 1, none⟩ from Addr.add_lit _ _ _]
        exact (ow.mono (Nat.le_refl _) hh2).atl r2 (by show lo ≤ g; omega) (by show g < hi2; omega)
      · intro z hz
        obtain ⟨i, u, h1, h2, h3, h4⟩ := q2 z hz
        exact ⟨i, u, h1, by omega, h3, h4⟩
      · intro z hz
        obtain ⟨i, h1, h2, h3⟩ := q3 z hz
        exact ⟨i, h3, by omega⟩)
  have hblk : ∀ i u b, us[i]? = some u → blockOf u = some b → b < hi ∧ b ≠ A.block := fun i u b hu hb => by
    have hi' : i < n := by rw [← nt.out.len]; exact (List.getElem?_eq_some_iff.1 hu).1
    obtain ⟨u', xs, _, hu', _, ho, _, _⟩ := nt.row hi'
    obtain rfl := Option.some.inj (hu.symm.trans hu')
    exact ⟨(ho.block hb).2.1, nt.away i u b A hu hb rfl⟩
  have hA : ∀ i, i < n → (A.add i).block = A.block ∧ A.block < hi := fun i hi' => by
    obtain ⟨a', _, e', _, _, b2, _⟩ := nt.out.at_ hi'
    obtain rfl := Option.some.inj e'
    exact ⟨add_block _ _, b2⟩
  have hmulk : ∀ i j : Nat, i < j → i * k + k ≤ j * k := fun i j h => by
    have := Nat.mul_le_mul_right k (show i + 1 ≤ j by omega)
    rw [Nat.succ_mul] at this
    exact this
  have hw : ∀ (j : Nat) (w1 : List (Addr × IntKind)), wss[j]? = some w1 → ∃ h1, hss[j]? = some h1 ∧ ∃ ws hs, w1 = ((⟨g, j * 2, none⟩ : Addr), IntKind.i64) :: ws ∧ h1 = (⟨g, j * 2 + 1, none⟩ : Addr) :: hs ∧ (ws.map Prod.fst).Nodup ∧ (∀ z ∈ ws.map Prod.fst, ∃ i u, j * k ≤ i ∧ i < j * k + k ∧ us[i]? = some u ∧ blockOf u = some z.block) ∧ ∀ z ∈ hs, ∃ i, z = A.add i ∧ i < n := fun j w1 hj => by
    have hjn := (List.getElem?_eq_some_iff.1 hj).1
    exact ⟨_, List.getElem?_eq_getElem (by omega), hp j w1 _ hj (List.getElem?_eq_getElem (by omega))⟩
  refine ⟨wss.flatten, hss.flatten, o, flat_nodup (fun j w1 hj => ?_) (fun i j w1 w2 hij hi hj z hz hz2 => ?_), fun z hz hz2 => ?_⟩
  · obtain ⟨_, _, ws, hs, rfl, _, q1, q2, _⟩ := hw j w1 hj
    rw [List.map_cons, List.nodup_cons]
    refine ⟨fun hm => ?_, q1⟩
    obtain ⟨i, u, _, _, h3, h4⟩ := q2 _ hm
    have := (hblk i u _ h3 h4).1
    dsimp only at this
    omega
  · obtain ⟨_, _, ws, hs, rfl, _, q1, q2, _⟩ := hw i w1 hi
    obtain ⟨_, _, ws', hs', rfl, _, q1', q2', _⟩ := hw j w2 hj
    rw [List.map_cons, List.mem_cons] at hz hz2
    rcases hz with rfl | hz <;> rcases hz2 with hz2 | hz2
    · have := (Addr.mk.inj hz2).2.1
      omega
    · obtain ⟨i', u, _, _, h3, h4⟩ := q2' _ hz2
      have := (hblk i' u _ h3 h4).1
      dsimp only at this
      omega
    · subst hz2
      obtain ⟨i', u, _, _, h3, h4⟩ := q2 _ hz
      have := (hblk i' u _ h3 h4).1
      dsimp only at this
      omega
    · obtain ⟨i', u, a1, a2, h3, h4⟩ := q2 _ hz
      obtain ⟨j', v, b1, b2, h3', h4'⟩ := q2' _ hz2
      have := hmulk i j hij
      exact nt.apart i' j' u v z.block (by omega) h3 h3' h4 h4'
  · obtain ⟨h1, hq, hz⟩ := List.mem_flatten.1 hz
    obtain ⟨j, hj⟩ := List.mem_iff_getElem?.1 hq
    have hjn := (List.getElem?_eq_some_iff.1 hj).1
    obtain ⟨ws, hs, _, rfl, _, _, q3⟩ := hp j _ h1 (List.getElem?_eq_getElem (by omega)) hj
    obtain ⟨p, hp1, e1⟩ := List.mem_map.1 hz2
    obtain ⟨w1, hw1, hp1⟩ := List.mem_flatten.1 hp1
    obtain ⟨i, hi⟩ := List.mem_iff_getElem?.1 hw1
    obtain ⟨_, _, ws', hs', rfl, _, _, q2', _⟩ := hw i w1 hi
    have hz2 : z ∈ (((⟨g, i * 2, none⟩ : Addr), IntKind.i64) :: ws').map Prod.fst := List.mem_map.2 ⟨p, hp1, e1⟩
    rw [List.map_cons, List.mem_cons] at hz2
    rw [List.mem_cons] at hz
    rcases hz with rfl | hz <;> rcases hz2 with hz2 | hz2
    · have := (Addr.mk.inj hz2).2.1
      omega
    · obtain ⟨i', u, _, _, h3, h4⟩ := q2' _ hz2
      have := (hblk i' u _ h3 h4).1
      dsimp only at this
      omega
    · obtain ⟨i', rfl, hi'⟩ := q3 z hz
      have h1 := congrArg Addr.block hz2
      rw [(hA i' hi').1] at h1
      have := (hA i' hi').2
      dsimp only at h1
      omega
    · obtain ⟨i', rfl, hi'⟩ := q3 z hz
      obtain ⟨j', v, _, _, h3, h4⟩ := q2' _ hz2
      exact (hblk j' v _ h3 h4).2 (hA i' hi').1
end
end Go.Proofs.Ytkppkbafoeblhaa.Deep
