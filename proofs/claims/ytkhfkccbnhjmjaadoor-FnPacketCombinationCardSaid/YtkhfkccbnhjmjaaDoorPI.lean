/-
  A region that draws its order, in the body of a range over a function (a round): walked as one outside of a round. No program.
  Vectors, of the program: valid vectors, the leading index, unit vectors, equality.
  Vectors, of the program: the pairs of two vectors (a range over a function), AddScaled, DotProduct.
  Vectors, of the program: AddScaled, AddVectors.
  Vectors, of the program: DotProduct.
  Vectors, of the program: Combine, ScaleVector.
  Matrices, of the program: the number of columns, valid matrices, identities, and what is made of a matrix row by row.
  Matrices, of the program: Vandermonde's matrices, equality.
  Matrices, of the program: products and transposed matrices.
  The program's chapter 10: the parts of a generation.
-/
import Derived.RangeFuncBox
import Derived.OwnWalkIn
import Derived.RangeFuncCalls
import Derived.Deep.RegionHeld3
import Derived.Test.YtkhfkccbnhjmjaaDoorProg
import Derived.Test.YtkhfkccbnhjmjaaDoorPC
import Derived.RangeFuncNested
import Derived.RangeFuncLeaves
import Derived.Shelf.Abstract
import Derived.WalkKit
import Derived.TacticsInMore
import Derived.LoopNIn
import Derived.LoopIn
import Derived.Maps.AppendAt
import Derived.Stop.RegionWithIn
import Derived.Test.YtkhfkccbnhjmjaaDoorPD
import Derived.Test.YtkhfkccbnhjmjaaDoorPM
namespace Go.Proofs.YtkhfkccbnhjmjaaDoor.Round
open Go.RowKit

variable {P : Program} {ops : Array Oper} {Q : Exit → Act → World → Prop} {l n : Nat}

def plain (o : Oper) : Bool := match o.op with | .defer _ => false | _ => true
theorem plain_op {o : Oper} (h : plain o = true) : ∀ c, o.op ≠ .defer c := by
  intro c hc; unfold plain at h; rw [hc] at h; cases h

theorem op_round {o : Oper} {a : Act} {w : World} {K : Act → World → Prop} (hp : plain o = true) (h : o.wp P a w K Q) : o.wpIn (Fence.wide.inRound l) n P a w K Q := by
  unfold Oper.wpIn
  refine ⟨fun _ _ => trivial, ?_⟩
  rw [show (Fence.wide.inRound l).round = some l from rfl, Oper.semAt_some l _ _ (plain_op hp)]
  unfold Oper.wp at h
  generalize (execOp a.eval o).run P w = r at *
  cases r with
  | ok x w' =>
    cases x with
    | value v => exact h
    | skip => exact h
    | «defer» d => exact h
    | enter f args => exact ⟨fun hd => (by cases hd), CallsIn.inRound l (callsIn_wide.2 h)⟩
    | row r args => exact ⟨fun hd => (by cases hd), fun c cs _ => let ⟨v, w', q, s⟩ := h c cs; ⟨v, w', q, stepsIn_wide.2 s⟩⟩
    | _ => exact h.elim
  | halt x w' =>
    cases x <;> exact h

theorem wpOp_round {i : Nat} {a : Act} {w : World} {K : Act → World → Prop} (hp : ops.all plain = true) (hQ : ∀ a w, ¬ Q .outgrown a w) (h : wpOp P ops Q i K a w) : wpOpIn (Fence.wide.inRound l) n P ops Q i K a w := by
  unfold wpOp at h
  unfold wpOpIn
  cases ho : ops[i]? with
  | none => rw [ho] at h; exact h
  | some o =>
    rw [ho] at h
    have hpo : plain o = true := by
      rw [Array.all_eq_true] at hp
      obtain ⟨hi, rfl⟩ := Array.getElem?_eq_some_iff.1 ho
      exact hp i hi
    dsimp only at h ⊢
    split
    · rename_i hw
      rw [if_pos hw] at h
      rcases h with h | ⟨_, a', w', h⟩
      · exact op_round hpo h
      · exact (hQ _ _ h).elim
    · rename_i hw
      rw [if_neg hw] at h
      exact ⟨fun _ _ => trivial, h⟩

theorem wpAny_round {md : Region.Mode} (hp : ops.all plain = true) (hQ : ∀ a w, ¬ Q .outgrown a w) : ∀ (fuel : Nat) (listed : Array Bool) (a : Act) (w : World), wpAny P md ops Q fuel listed a w → wpAnyIn (Fence.wide.inRound l) n P md ops Q fuel listed a w
  | 0, _, _, _, h => h
  | fuel + 1, _, _, _, h => ⟨h.1, fun i hi => wpOpIn_mono (fun a' w' h' => wpAny_round hp hQ fuel _ a' w' h') (wpOp_round hp hQ (h.2 i hi))⟩

/-- Its beginning, as the walk meets it. -/
theorem wanted_wp {o : Oper} {a : Act} {w : World} {K : Act → World → Prop} {E : Prop} (hg : o.guard = none) (h : o.wp P a w K Q) : if Region.wanted o (yielded ops a.tmps) = true then Oper.wp P o a w K Q else E := by
  rw [if_pos (by simp [Region.wanted, hg])]; exact h
theorem wpIn_region_here {id : Nat} {a : Act} {w : World} (hm : P.follows .mixedOrders = true) (hp : ops.all plain = true) (hQ : ∀ a w, ¬ Q .outgrown a w)
    (h : wpAny P .any ops Q ops.size (Array.replicate ops.size false) a w.drew) : (Code.region id ops true).wpIn (Fence.wide.inRound l) n P Q a w :=
  wpIn_region_any hm (wpAny_round hp hQ _ _ _ _ h)
end Go.Proofs.YtkhfkccbnhjmjaaDoor.Round
namespace Go.Proofs.YtkhfkccbnhjmjaaDoor.VecI
open Go.ChangeShapes Go.WideShapes Go.ChangeAt Go.RowKit
open Go.Proofs.YtkhfkccbnhjmjaaDoor.Seq Go.Proofs.YtkhfkccbnhjmjaaDoor.Help Go.Proofs.YtkhfkccbnhjmjaaDoor.Field Go.Proofs.YtkhfkccbnhjmjaaDoor.FieldW Go.Proofs.YtkhfkccbnhjmjaaDoor.Vec Go.Proofs.YtkhfkccbnhjmjaaDoor.VecW Go.Proofs.YtkhfkccbnhjmjaaDoor.VecOps

theorem isVec_long {xs : List Int} (h : 40 < xs.length) : isVec xs = false := by
  unfold isVec
  rw [decide_eq_false (by omega), Bool.and_false]
theorem isVec_is (w : World) {l h : Nat} {ad : Option Addr} {n cap : Nat} {xs : List Int} (s : Sl w l h .i64 ad n cap xs) :
    Calls Tryd.prog 50 #[.slice ad n cap] w (IsB (isVec xs) w) := by
  have hbig := s.big
  have hcap := s.le
  unfold maxLen at hbig
  by_cases hl : 40 < n
  · have HE := Lib.hid (isVec_long (by rw [s.len]; exact hl))
    rw [HE.out]
    go_enter Tryd.func50, Tryd.ntmps50
    go_wp2
    go_ret
    exact ⟨rfl, rfl⟩
  go_enter Tryd.func50, Tryd.ntmps50
  go_wp2
  go_loop [10] (fun i => ∃ j : Nat, j ≤ n ∧ i = .int .i64 j ∧ Hid (∀ x ∈ xs.take j, isEl x = true)) (fun i => n - (intOf i).toNat)
  case atStart => exact ⟨0, Nat.zero_le _, rfl, fun x hx => by simp at hx⟩
  case round =>
    obtain ⟨j, hj, rfl, HA⟩ := hrel
    by_cases hlt : j < n
    · obtain ⟨a, x, rfl, hx, hc⟩ := s.at_ hlt
      have hg := Lib.hid hx.get
      have hE := impl_el w x
      by_cases hb : isEl x = true
      · rw [hb] at hE
        have HE := Lib.hid hE
        have HB := Lib.hid hb
        clear hE hb
        go_wp2_with fail
        go_at_call 80
        refine HE.out.mono ?_
        rintro e w' ⟨rfl, rfl⟩
        go_wp2
        go_round
        case rel => exact ⟨j + 1, by omega, by go_num, all_more hg.out HA.out HB.out⟩
        case measure => simp [intOf]; omega
      · rw [el_no hb] at hE
        have HE := Lib.hid hE
        have HB := Lib.hid (isVec_no_at hg.out (el_no hb))
        clear hE hb
        rw [HB.out]
        go_wp2_with fail
        go_at_call 80
        refine HE.out.mono ?_
        rintro e w' ⟨rfl, rfl⟩
        go_wp2
        go_ret
        exact ⟨rfl, rfl⟩
    · obtain rfl : j = n := by omega
      have HE := Lib.hid (isVec_all s.len HA.out)
      go_wp2
      go_ret
      exact ⟨by rw [HE.out]; simp; omega, rfl⟩
end Go.Proofs.YtkhfkccbnhjmjaaDoor.VecI
namespace Go.Proofs.YtkhfkccbnhjmjaaDoor.VecI
open Go.RowKit Go.Shelf
open Go.Proofs.YtkhfkccbnhjmjaaDoor.Seq Go.Proofs.YtkhfkccbnhjmjaaDoor.Help Go.Proofs.YtkhfkccbnhjmjaaDoor.Field Go.Proofs.YtkhfkccbnhjmjaaDoor.FieldW Go.Proofs.YtkhfkccbnhjmjaaDoor.Vec Go.Proofs.YtkhfkccbnhjmjaaDoor.VecW Go.Proofs.YtkhfkccbnhjmjaaDoor.VecOps
attribute [local go_sem] Oper.semAt_some

/-- The pairs of components of two vectors that fit together. -/
def pairs (xs ys : List Int) : List (Int × Int) := bif (Vec.isVec xs && Vec.isVec ys) && (xs.length == ys.length) then List.zip xs ys else []
theorem zip_more {xs ys : List Int} {j : Nat} {x y : Int} (hx : xs[j]? = some x) (hy : ys[j]? = some y) : (List.zip xs ys).take (j + 1) = (List.zip xs ys).take j ++ [(x, y)] := by
  refine take_more ?_
  rw [List.getElem?_zip_eq_some]; exact ⟨hx, hy⟩

/-- What the iterator asks of a round: its second box, and what lay below n₀. -/
def Keeps (n₀ b : Nat) (W W' : World) : Prop := Below n₀ W W' ∧ W'.heap[b]? = W.heap[b]?
theorem Keeps.trans {n₀ b : Nat} {A B C : World} (h : Keeps n₀ b A B) (k : Keeps n₀ b B C) : Keeps n₀ b A C := ⟨h.1.trans k.1, k.2.trans h.2⟩
theorem keeps_put {n₀ b : Nat} {w : World} (h : n₀ ≤ w.heap.size) (hb : b < w.heap.size) (W : World) (l : Nat) (o o' : Obj) (hl : w.heap.size ≤ l) (ho : W.heap[l]? = some o) (h1 : o.isCells = false) (h2 : o.isWalk = false) : Keeps n₀ b W (W.putObj l o') :=
  ⟨belowK_b h W l o o' hl ho h1 h2, World.putObj_heap_other (by omega)⟩
set_option maxRecDepth 100000 in
set_option maxHeartbeats 2000000 in
theorem pairs1 (n : Nat) (hn : 1 ≤ n) (l b1 b2 n₀ : Nat) {l1 h1 l2 h2 : Nat} {ad ad2 : Option Addr} {m cap m2 cap2 : Nat} {xs ys : List Int} (J Jx : List (Int × Int) → World → Prop)
    (W : World) (s : Sl W l1 h1 .i64 ad m cap xs) (s2 : Sl W l2 h2 .i64 ad2 m2 cap2 ys) (hh1 : h1 ≤ n₀) (hh2 : h2 ≤ n₀)
    (hY : ∀ pre (x : Int × Int) W, J pre W → pre.length < 40 → YieldAt Fence.wide (n - 1) Tryd.prog l #[.int .i64 x.1, .int .i64 x.2] W fun e W' =>
      (e = .returned (.bool true) ∧ J (pre ++ [x]) W' ∧ Keeps n₀ b2 W W') ∨ (e = .returned (.bool false) ∧ Jx (pre ++ [x]) W'))
    (hc1 : W.cell? ⟨b1, 0, none⟩ = some (.slice ad m cap)) (hB2 : Boxed W b2 27 (.slice ad2 m2 cap2)) (h0 : J [] W) :
    CallsIn Fence.wide n Tryd.prog 104 #[.func (.yield l) #[] #[], .pointer (some ⟨b1, 0, none⟩), .pointer (some ⟨b2, 0, none⟩)] W fun e W' => (∃ v, e = .returned v) ∧
      ((∃ zs, zs = pairs xs ys ∧ J zs W') ∨ (∃ pre, pre <+: pairs xs ys ∧ Jx pre W')) := by
  have hc2 := hB2.cell
  have hbig := s.big
  have hcap := s.le
  have hbig2 := s2.big
  have hcap2 := s2.le
  unfold maxLen at hbig hbig2
  have v1 := isVec_is W s
  have v2 := isVec_is W s2
  by_cases hl : m = m2
  case neg =>
    have hE : pairs xs ys = [] := by
      unfold pairs
      have : (xs.length == ys.length) = false := by rw [s.len, s2.len]; simpa using hl
      rw [this, Bool.and_false]; rfl
    have hl2 : ((m : Int) != m2) = true := by simp; omega
    rw [hE]
    clear v1 v2 hE hl
    refine callsIn_of_wp Tryd.func104 rfl trivial ?_ rfl
    simp only [Tryd.ntmps104, List.size_toArray, List.length_cons, List.length_nil, Nat.reduceAdd, Nat.reduceSub, Array.replicate_succ, Array.replicate_zero, List.push_toArray, List.append_toArray, List.nil_append, List.cons_append]
    gi_wp2
    refine ⟨trivial, ?_⟩
    gi_wp2
    refine ⟨trivial, ?_⟩
    gi_wp2
    refine bodyPost_ret (results_none rfl _ _ _) rfl ?_
    exact ⟨⟨_, rfl⟩, .inl ⟨_, rfl, h0⟩⟩
  subst hl
  cases hv1 : Vec.isVec xs
  · have hE : pairs xs ys = [] := by unfold pairs; rw [hv1]; rfl
    rw [hv1] at v1
    rw [hE]
    have V1 := Lib.hid v1
    clear v1 v2 hE hv1
    refine callsIn_of_wp Tryd.func104 rfl trivial ?_ rfl
    simp only [Tryd.ntmps104, List.size_toArray, List.length_cons, List.length_nil, Nat.reduceAdd, Nat.reduceSub, Array.replicate_succ, Array.replicate_zero, List.push_toArray, List.append_toArray, List.nil_append, List.cons_append]
    gi_wp2_with fail
    refine ⟨trivial, ?_⟩
    refine (callsIn_wide.2 V1.out).mono ?_
    rintro e w2 ⟨rfl, rfl⟩
    gi_wp2
    refine ⟨trivial, ?_⟩
    gi_wp2
    refine bodyPost_ret (results_none rfl _ _ _) rfl ?_
    exact ⟨⟨_, rfl⟩, .inl ⟨_, rfl, h0⟩⟩
  cases hv2 : Vec.isVec ys
  · have hE : pairs xs ys = [] := by unfold pairs; rw [hv2, Bool.and_false]; rfl
    rw [hv1] at v1
    rw [hv2] at v2
    rw [hE]
    have V1 := Lib.hid v1
    have V2 := Lib.hid v2
    clear v1 v2 hE hv1 hv2
    refine callsIn_of_wp Tryd.func104 rfl trivial ?_ rfl
    simp only [Tryd.ntmps104, List.size_toArray, List.length_cons, List.length_nil, Nat.reduceAdd, Nat.reduceSub, Array.replicate_succ, Array.replicate_zero, List.push_toArray, List.append_toArray, List.nil_append, List.cons_append]
    gi_wp2_with fail
    refine ⟨trivial, ?_⟩
    refine (callsIn_wide.2 V1.out).mono ?_
    rintro e w2 ⟨rfl, rfl⟩
    gi_wp2_with fail
    refine ⟨trivial, ?_⟩
    refine (callsIn_wide.2 V2.out).mono ?_
    rintro e w2 ⟨rfl, rfl⟩
    gi_wp2
    refine bodyPost_ret (results_none rfl _ _ _) rfl ?_
    exact ⟨⟨_, rfl⟩, .inl ⟨_, rfl, h0⟩⟩
  have hE : pairs xs ys = List.zip xs ys := by unfold pairs; rw [hv1, hv2, s.len, s2.len]; simp
  have hm : m ≤ 40 := by rw [← s.len]; exact (isVec_iff.1 hv1).2
  have hzl : (List.zip xs ys).length = m := by rw [List.length_zip, s.len, s2.len]; omega
  rw [hv1] at v1
  rw [hv2] at v2
  rw [hE]
  have V1 := Lib.hid v1
  have V2 := Lib.hid v2
  clear v1 v2 hE hv1 hv2
  refine callsIn_of_wp Tryd.func104 rfl trivial ?_ rfl
  simp only [Tryd.ntmps104, List.size_toArray, List.length_cons, List.length_nil, Nat.reduceAdd, Nat.reduceSub, Array.replicate_succ, Array.replicate_zero, List.push_toArray, List.append_toArray, List.nil_append, List.cons_append]
  gi_wp2_with fail
  refine ⟨trivial, ?_⟩
  refine (callsIn_wide.2 V1.out).mono ?_
  rintro e w2 ⟨rfl, rfl⟩
  gi_wp2_with fail
  refine ⟨trivial, ?_⟩
  refine (callsIn_wide.2 V2.out).mono ?_
  rintro e w2 ⟨rfl, rfl⟩
  gi_wp2
  gi_loopw [23] (fun i wr => ∃ k : Nat, k ≤ m ∧ i = .int .i64 k ∧ J ((List.zip xs ys).take k) wr ∧ Keeps n₀ b2 W wr) (fun i _ => m - (intOf i).toNat)
  case atStart => exact ⟨0, Nat.zero_le _, rfl, by simpa using h0, Below.refl _ _, rfl⟩
  case round =>
    obtain ⟨k, hk, rfl, hJs, hnx⟩ := hrel
    have hnw := hnx.1.size
    have hB2' : Boxed wr b2 27 (.slice ad2 m cap2) := hnx.2.trans hB2
    have hc2' := hB2'.cell
    by_cases hlt : k < m
    · obtain ⟨a, x, rfl, hx, hc⟩ := (s.below hnx.1 (.inl hh1)).at_ hlt
      obtain ⟨a2, y, rfl, hy, hc'⟩ := (s2.below hnx.1 (.inl hh2)).at_ hlt
      have HZ := Lib.hid (zip_more hx.get hy.get)
      obtain ⟨fn, tmps, assign, body, hyl, hR⟩ := hY _ (x, y) wr hJs (by rw [List.length_take]; omega)
      dsimp only at hyl
      clear hx hy hY
      gi_wp2
      refine hR.mono ?_
      rintro e W3 (⟨rfl, hJ3, hk3⟩ | ⟨rfl, hJx3⟩)
      · gi_wp2
        go_roundw
        case rel => exact ⟨k + 1, by omega, by simp, by rw [HZ.out]; exact hJ3, hnx.trans hk3⟩
        case measure => simp [intOf]; omega
      · gi_wp2
        refine bodyPost_ret (results_none rfl _ _ _) rfl ?_
        exact ⟨⟨_, rfl⟩, .inr ⟨_, by rw [← HZ.out]; exact List.take_prefix _ _, hJx3⟩⟩
    · obtain rfl : k = m := by omega
      rw [List.take_of_length_le (Nat.le_of_eq hzl)] at hJs
      gi_wp2
      go_end0
      exact ⟨⟨_, rfl⟩, .inl ⟨_, rfl, hJs⟩⟩

/-- The two boxes that the iterator reads. -/
def boxes (w : World) (a b : Value) : World := (w.alloc (.cells #[a] 27)).alloc (.cells #[b] 27)
theorem pairsFn (w : World) (ad : Option Addr) (n cap : Nat) (ad2 : Option Addr) (n2 cap2 : Nat) :
    Calls Tryd.prog 89 #[.slice ad n cap, .slice ad2 n2 cap2] w fun e w' => e = .returned (.func (.func 104) #[] #[.pointer (some ⟨w.heap.size, 0, none⟩), .pointer (some ⟨w.heap.size + 1, 0, none⟩)]) ∧ w' = boxes w (.slice ad n cap) (.slice ad2 n2 cap2) := by
  go_enter Tryd.func89, Tryd.ntmps89
  go_wp2
  go_ret
  exact ⟨rfl, rfl⟩
end Go.Proofs.YtkhfkccbnhjmjaaDoor.VecI
namespace Go.Proofs.YtkhfkccbnhjmjaaDoor.VecI
open Go.RowKit Go.Shelf
open Go.Proofs.YtkhfkccbnhjmjaaDoor.Seq Go.Proofs.YtkhfkccbnhjmjaaDoor.Help Go.Proofs.YtkhfkccbnhjmjaaDoor.Field Go.Proofs.YtkhfkccbnhjmjaaDoor.FieldW Go.Proofs.YtkhfkccbnhjmjaaDoor.Vec Go.Proofs.YtkhfkccbnhjmjaaDoor.VecW Go.Proofs.YtkhfkccbnhjmjaaDoor.VecOps
attribute [local go_sem] Oper.semAt_some

theorem row_of {W : World} {l : Nat} {e : TypeId} {v : Value} {xs : List Int} (o : W.ownsRow l e 1 v xs.length (xs.map (.int .i64))) (hf : ∀ x ∈ xs, Fits .i64 x) :
    ∃ ad cap, v = .slice ad xs.length cap ∧ Row W l W.heap.size .i64 e ad xs.length cap xs := by
  rcases o.2 with ⟨rfl, h0⟩ | ⟨g, c', cur, rfl, g1, g2, g3, g4, g5⟩
  · exact ⟨none, 0, by rw [h0], rfl, by omega, Nat.zero_le _, hf, .inl ⟨h0, rfl⟩⟩
  · exact ⟨_, c', rfl, rfl, g3, g4, hf, .inr ⟨g, rfl, g1, owns_lt o, o⟩⟩

/-- One component. -/
def step (k : Int) (p : Int × Int) : Int := Field.add p.1 (Field.mul p.2 k)
theorem add_fits (a b : Int) : Fits .i64 (Field.add a b) := by
  refine fits_i64.2 ?_
  unfold Field.add
  cases isEl a && isEl b
  · show _ ∧ _; simp
  · simp only [cond_true]; omega
theorem fits_steps (k : Int) (pre : List (Int × Int)) : ∀ x ∈ pre.map (step k), Fits .i64 x := by
  intro x hx
  obtain ⟨p, _, rfl⟩ := List.mem_map.1 hx
  exact add_fits _ _
theorem steps {xs ys : List Int} {k : Int} (hk : isEl k = true) : (pairs xs ys).map (step k) = addScaled xs ys k := by
  unfold pairs addScaled
  rw [hk, Bool.and_true]
  cases h : (Vec.isVec xs && Vec.isVec ys) && (xs.length == ys.length)
  · rfl
  · simp only [cond_true]
    simp only [Bool.and_eq_true] at h
    obtain ⟨a, rfl, _⟩ := of_vec h.1.1
    obtain ⟨b, rfl, _⟩ := of_vec h.1.2
    obtain ⟨c, rfl⟩ := of_el hk
    unfold mac
    rw [List.zip_eq_zipWith, List.map_zipWith]
    unfold ems
    rw [List.zipWith_map, List.zipWith_map]
    congr 1; funext x y
    unfold step
    rw [mul_em, add_em, em_mac]

set_option maxRecDepth 100000 in
set_option maxHeartbeats 2000000 in
theorem adds : AddsOp := fun w l h l2 h2 ad ad2 n cap n2 cap2 xs ys s hn s2 hn2 k => by
  have v1 := fun o o1 o2 => impl_el (((w.alloc o).alloc o1).alloc o2) k
  cases hk : isEl k
  · have hE : addScaled xs ys k = [] := by unfold addScaled; rw [hk, Bool.and_false]; rfl
    rw [hk] at v1
    rw [hE]
    have V1 := Lib.hid v1
    clear v1 hE
    go_enter Tryd.func75, Tryd.ntmps75
    go_wp2_with fail
    go_at_call 80
    refine (V1.out _ _ _).mono ?_
    rintro e w' ⟨rfl, rfl⟩
    go_wp2
    go_ret
    exact ⟨_, _, _, rfl, Row.nil _ _ _ _ _ _, (((Below.refl _ _).alloc (Nat.le_refl _) _).alloc (by simp) _).alloc (by simp; omega) _⟩
  rw [hk] at v1
  have V1 := Lib.hid v1
  clear v1
  refine (callsIn_wide (n := 3)).1 ?_
  refine callsIn_of_wp_marks Tryd.func75 rfl trivial ?_ rfl
  simp only [Tryd.ntmps75, List.size_toArray, List.length_cons, List.length_nil, Nat.reduceAdd, Nat.reduceSub, Array.replicate_succ, Array.replicate_zero, List.push_toArray, List.append_toArray, List.nil_append, List.cons_append]
  gi_wp2_with fail
  refine ⟨trivial, ?_⟩
  refine (callsIn_wide.2 (V1.out _ _ _)).mono ?_
  rintro e w2 ⟨rfl, rfl⟩
  gi_wp2_with fail
  refine ⟨trivial, ?_⟩
  refine (callsIn_wide.2 (pairsFn _ ad n cap ad2 n2 cap2)).mono ?_
  rintro e w2 ⟨rfl, rfl⟩
  gi_wp2
  have o1 := World.ownsRow_lit (base := w.heap.size + 1) (e := 3) (size := 1) (w.alloc (.cells #[.int .i64 k] 3)) #[] 0 (by simp) (Nat.zero_le _) (by simp)
  rw [World.size_alloc] at o1
  have bK := (((((Boxed.new w 3 (.int .i64 k)).alloc (.cells #[] 3)).alloc (.cells #[.slice (some ⟨w.heap.size + 1, 0, none⟩) 0 0] 27)).alloc (.cells #[.slice ad n cap] 27)).alloc (.cells #[.slice ad2 n2 cap2] 27))
  have bO := ((Boxed.new ((w.alloc (.cells #[.int .i64 k] 3)).alloc (.cells #[] 3)) 27 (.slice (some ⟨w.heap.size + 1, 0, none⟩) 0 0)).alloc (.cells #[.slice ad n cap] 27)).alloc (.cells #[.slice ad2 n2 cap2] 27)
  rw [World.size_alloc, World.size_alloc] at bO
  have bA := (Boxed.new (((w.alloc (.cells #[.int .i64 k] 3)).alloc (.cells #[] 3)).alloc (.cells #[.slice (some ⟨w.heap.size + 1, 0, none⟩) 0 0] 27)) 27 (.slice ad n cap)).alloc (.cells #[.slice ad2 n2 cap2] 27)
  rw [World.size_alloc, World.size_alloc, World.size_alloc] at bA
  have bB := Boxed.new ((((w.alloc (.cells #[.int .i64 k] 3)).alloc (.cells #[] 3)).alloc (.cells #[.slice (some ⟨w.heap.size + 1, 0, none⟩) 0 0] 27)).alloc (.cells #[.slice ad n cap] 27)) 27 (.slice ad2 n2 cap2)
  rw [World.size_alloc, World.size_alloc, World.size_alloc, World.size_alloc] at bB
  have o2 := ((o1.alloc (.cells #[.slice (some ⟨w.heap.size + 1, 0, none⟩) 0 0] 27)).alloc (.cells #[.slice ad n cap] 27)).alloc (.cells #[.slice ad2 n2 cap2] 27)
  have hB : Below w.heap.size w (boxes (((w.alloc (.cells #[.int .i64 k] 3)).alloc (.cells #[] 3)).alloc (.cells #[.slice (some ⟨w.heap.size + 1, 0, none⟩) 0 0] 27)) (.slice ad n cap) (.slice ad2 n2 cap2)) :=
    (((((Below.refl _ w).alloc (Nat.le_refl _) _).alloc (by simp) _).alloc (by simp; omega) _).alloc (by simp; omega) _).alloc (by simp; omega) _
  have hsz : (boxes (((w.alloc (.cells #[.int .i64 k] 3)).alloc (.cells #[] 3)).alloc (.cells #[.slice (some ⟨w.heap.size + 1, 0, none⟩) 0 0] 27)) (.slice ad n cap) (.slice ad2 n2 cap2)).heap.size = w.heap.size + 5 := by unfold boxes; simp
  change Boxed (boxes _ _ _) _ _ _ at bK
  change Boxed (boxes _ _ _) _ _ _ at bO
  change Boxed (boxes _ _ _) _ _ _ at bA
  change Boxed (boxes _ _ _) _ _ _ at bB
  change World.ownsRow (boxes _ _ _) _ _ _ _ _ _ at o2
  generalize boxes _ _ _ = W1 at *
  refine wpIn_rangeFunc_ownG (α := Int × Int) rfl (by omega) (gf := 104) (lb := #[.pointer (some ⟨w.heap.size + 1 + 1 + 1, 0, none⟩), .pointer (some ⟨w.heap.size + 1 + 1 + 1 + 1, 0, none⟩)]) rfl trivial (enters_of Tryd.func104 (by kernel_rfl) rfl)
    (encs := fun x => #[.int .i64 x.1, .int .i64 x.2]) (Kp := Keeps w.heap.size (w.heap.size + 1 + 1 + 1 + 1)) (S := fun zs => zs = pairs xs ys) (Sp := fun pre => pre <+: pairs xs ys) (N := 40) (w0 := W1)
    (fun l3 J Jx W hW _ _ hY h0 => pairs1 2 (by omega) l3 _ _ w.heap.size J Jx W (((s.lt (Nat.le_refl _)).below hB (.inl (Nat.le_refl _))).below hW (.inl (by omega))) (((s2.lt (Nat.le_refl _)).below hB (.inl (Nat.le_refl _))).below hW (.inl (by omega))) (Nat.le_refl _) (Nat.le_refl _) hY
      ((hW.cell (p := ⟨w.heap.size + 1 + 1 + 1, 0, none⟩) (by simp; omega)).trans bA.cell) ((hW.block _ (by omega)).trans bB) h0)
    Keeps.trans (keeps_put (by omega) (by omega)) (Below.refl _ _) (fun _ => rfl)
    (fun (pre : List (Int × Int)) W => ((∃ v, Boxed W (w.heap.size + 1 + 1) 27 v ∧ W.ownsRow (w.heap.size + 1) 3 1 v (pre.map (step k)).length ((pre.map (step k)).map (Value.int .i64)) ∧ True) ∧ (Boxed W w.heap.size 3 (.int .i64 k) ∧ Boxed W (w.heap.size + 1 + 1 + 1 + 1) 27 (.slice ad2 n2 cap2))) ∧ Below w.heap.size w W)
    (fun _ _ _ => False)
    (OwnFrom.and (OwnFrom.and (Own.from (holdsRow_own (w.heap.size + 1) (w.heap.size + 1 + 1) 27 3 1 (fun (pre : List (Int × Int)) => (pre.map (step k)).length) (fun pre => (pre.map (step k)).map (Value.int .i64)) (fun _ _ => True)) _) (OwnFrom.and (Own.from (boxed_own _ _ (fun _ => _)) _) (Own.from (boxed_own _ _ (fun _ => _)) _))) (ownFrom_below (Nat.le_refl _) (by omega)))
    (fun _ _ _ _ _ hs _ _ => hs)
    ⟨⟨⟨_, bO, o2, trivial⟩, bK, bB⟩, hB⟩
    (fun x => { tmps := #[.slice ad n cap, .slice ad2 n2 cap2, .int .i64 k, undef, undef, .pointer (some ⟨w.heap.size, 0, none⟩), .slice none 0 0, .pointer (some ⟨w.heap.size + 1 + 1, 0, none⟩), .int .i64 x.1, .int .i64 x.2, .slice (some ⟨w.heap.size + 1, 0, none⟩) 0 0, .int .i64 k, .bool true, .bool false, undef, .slice ad n cap, .slice ad2 n2 cap2, .func (.func 104) #[] #[.pointer (some ⟨w.heap.size + 1 + 1 + 1, 0, none⟩), .pointer (some ⟨w.heap.size + 1 + 1 + 1 + 1, 0, none⟩)], .int .i64 x.1, .int .i64 x.2, undef, undef, undef, undef, undef, undef, undef, undef, undef], defers := [] }) ?assign ?body ?done ?stop
  case assign =>
    intro l x W K hK
    gi_wp2
    exact hK
  case body =>
    rintro l pre ⟨x, y⟩ W ⟨⟨⟨v, hv, hrow, _⟩, hKb, hB2⟩, hBW⟩ hlt
    rw [List.length_map] at hrow
    have hc := hv.cell
    have hcK := hKb.cell
    have HS := Lib.hid (show (pre ++ [(x, y)]).map (step k) = pre.map (step k) ++ [Field.add x (Field.mul y k)] by simp [step])
    have HM := Lib.hid (fun w' => impl_mul w' y k)
    have HA := Lib.hid (fun w' => impl_add w' x (Field.mul y k))
    generalize Field.add x (Field.mul y k) = z at *
    generalize Field.mul y k = z' at *
    have hzs : w.heap.size < W.heap.size := World.block_lt_of_cell? W _ hcK
    obtain ⟨i0, hi, hz0, hz1, hz2⟩ := info_parts info_int
    have hrow6 : (W.alloc (.cells #[.int .i64 z] 3)).drew.ownsRow (w.heap.size + 1) 3 1 v pre.length _ := hrow.alloc _
    have hv6 : Boxed W.drew (w.heap.size + 1 + 1) 27 v := hv
    have hc6 : (W.alloc (.cells #[.int .i64 z] 3)).drew.cell? ⟨w.heap.size + 1 + 1, 0, none⟩ = some v := (hv.alloc _).cell
    gi_wp2
    refine Round.wpIn_region_here (by kernel_rfl) (by kernel_rfl) (fun _ _ h => h) ?_
    refine wpAny_take (i := 1) (oi := ⟨some 21, .move (.tmp 8), 3, _, _, _⟩) (v := .int .i64 x) rfl (by kernel_rfl) (by kernel_rfl) (by kernel_rfl) (fun _ _ _ h => h) (Or.inl ⟨by rfl, by intro w'; go_simp⟩) ?_
    simp only [Act.put, List.setIfInBounds_toArray, List.set_cons_zero, List.set_cons_succ]
    refine wpAny_take (i := 2) (oi := ⟨some 22, .move (.tmp 9), 3, _, _, _⟩) (v := .int .i64 y) rfl (by kernel_rfl) (by kernel_rfl) (by kernel_rfl) (fun _ _ _ h => h) (Or.inl ⟨by rfl, by intro w'; go_simp⟩) ?_
    simp only [Act.put, List.setIfInBounds_toArray, List.set_cons_zero, List.set_cons_succ]
    refine wpAny_ready (rs := [0, 3]) (by kernel_rfl) (by simp) ?_
    refine AllReady.cons rfl (fun K hK => ?_) (AllReady.cons rfl (fun K hK => ?_) AllReady.nil)
    · go_simp
      refine hK _ _ ?_
      clear hK K
      refine wpAny_ready (rs := [3]) (by kernel_rfl) (by simp) ?_
      refine AllReady.cons rfl (fun K hK => ?_) AllReady.nil
      go_simp
      refine hK _ _ ?_
      clear hK K
      refine wpAny_ready (rs := [4]) (by kernel_rfl) (by simp) ?_
      refine AllReady.cons rfl (fun K hK => ?_) AllReady.nil
      go_simp
      refine (HM.out _).mono ?_
      rintro e w' ⟨rfl, rfl⟩
      refine hK _ _ ?_
      clear hK K
      refine wpAny_ready (rs := [5]) (by kernel_rfl) (by simp) ?_
      refine AllReady.cons rfl (fun K hK => ?_) AllReady.nil
      go_simp
      refine (HA.out _).mono ?_
      rintro e w' ⟨rfl, rfl⟩
      refine hK _ _ ?_
      clear hK K
      refine wpAny_ready (rs := [6]) (by kernel_rfl) (by simp) ?_
      refine AllReady.cons rfl (fun K hK => ?_) AllReady.nil
      go_simp
      refine hK _ _ ?_
      clear hK K
      refine wpAny_ready (rs := [7]) (by kernel_rfl) (by simp) ?_
      refine AllReady.cons rfl (fun K hK => ?_) AllReady.nil
      refine Round.wanted_wp rfl (wp_append_own _ (.tmp 20) (.tmp 26) 27 rfl (w.heap.size + 1) 3 i0 (.int .i64 0) 1 8 Tryd.underlying27 hi hz0 hz1 hz2 rfl (by decide) _ _ _ rfl hrow6 ⟨W.heap.size, 0, none⟩ 1 1 [.int .i64 z] rfl rfl (cell_one_new W.drew _ _) (by simp [Value.oneCell']) (by unfold maxLen; omega) (by omega) (by simp; omega) ?_)
      intro v' w1 hown' hgrow _
      obtain ⟨g', cap', rfl⟩ := ownsRow_succ hown'
      obtain ⟨hv1, hv2, hr2, hk2, hb2⟩ := hv6.appended (by decide) hrow (by simp; omega) (Nat.le_succ _) hown' hgrow
      have hc1 := hv1.cell
      have hf1 := hv1.frozen
      refine hK _ _ ?_
      clear hK K
      refine wpAny_ready (rs := [8]) (by kernel_rfl) (by simp) ?_
      refine AllReady.cons rfl (fun K hK => ?_) AllReady.nil
      go_simp
      refine hK _ _ ?_
      clear hK K
      refine wpAny_done (by kernel_rfl) ?_ _
      have hB3 := ((show Boxed W.drew _ _ _ from hB2).alloc (.cells #[.int .i64 z] 3)).kept hgrow ((show Boxed W.drew _ _ _ from hB2).not_row (by decide) hrow)
      have hB4 := hB3.other (B' := w.heap.size + 1 + 1) (by omega) (.slice (some ⟨g', 0, none⟩) (pre.length + 1) cap')
      have hb3 := ((Below.refl (w.heap.size + 1) W).drew).trans hb2
      refine ⟨((KeepsOthers.drew W).trans hk2).from _, ⟨hb3.mono (by omega), hB4.trans hB2.symm⟩, ⟨⟨⟨_, hv2, ?_, trivial⟩, (hb3.block _ (by omega)).trans hKb, hB4⟩, hBW.trans (hb3.mono (by omega))⟩⟩
      simpa only [HS.out, List.length_append, List.length_map, List.length_cons, List.length_nil, Nat.zero_add, List.map_append, List.map_cons, List.map_nil] using hr2
    · go_simp
      refine hK _ _ ?_
      clear hK K
      refine wpAny_ready (rs := [0, 4]) (by kernel_rfl) (by simp) ?_
      refine AllReady.cons rfl (fun K hK => ?_) (AllReady.cons rfl (fun K hK => ?_) AllReady.nil)
      · go_simp
        refine hK _ _ ?_
        clear hK K
        refine wpAny_ready (rs := [4]) (by kernel_rfl) (by simp) ?_
        refine AllReady.cons rfl (fun K hK => ?_) AllReady.nil
        go_simp
        refine (HM.out _).mono ?_
        rintro e w' ⟨rfl, rfl⟩
        refine hK _ _ ?_
        clear hK K
        refine wpAny_ready (rs := [5]) (by kernel_rfl) (by simp) ?_
        refine AllReady.cons rfl (fun K hK => ?_) AllReady.nil
        go_simp
        refine (HA.out _).mono ?_
        rintro e w' ⟨rfl, rfl⟩
        refine hK _ _ ?_
        clear hK K
        refine wpAny_ready (rs := [6]) (by kernel_rfl) (by simp) ?_
        refine AllReady.cons rfl (fun K hK => ?_) AllReady.nil
        go_simp
        refine hK _ _ ?_
        clear hK K
        refine wpAny_ready (rs := [7]) (by kernel_rfl) (by simp) ?_
        refine AllReady.cons rfl (fun K hK => ?_) AllReady.nil
        refine Round.wanted_wp rfl (wp_append_own _ (.tmp 20) (.tmp 26) 27 rfl (w.heap.size + 1) 3 i0 (.int .i64 0) 1 8 Tryd.underlying27 hi hz0 hz1 hz2 rfl (by decide) _ _ _ rfl hrow6 ⟨W.heap.size, 0, none⟩ 1 1 [.int .i64 z] rfl rfl (cell_one_new W.drew _ _) (by simp [Value.oneCell']) (by unfold maxLen; omega) (by omega) (by simp; omega) ?_)
        intro v' w1 hown' hgrow _
        obtain ⟨g', cap', rfl⟩ := ownsRow_succ hown'
        obtain ⟨hv1, hv2, hr2, hk2, hb2⟩ := hv6.appended (by decide) hrow (by simp; omega) (Nat.le_succ _) hown' hgrow
        have hc1 := hv1.cell
        have hf1 := hv1.frozen
        refine hK _ _ ?_
        clear hK K
        refine wpAny_ready (rs := [8]) (by kernel_rfl) (by simp) ?_
        refine AllReady.cons rfl (fun K hK => ?_) AllReady.nil
        go_simp
        refine hK _ _ ?_
        clear hK K
        refine wpAny_done (by kernel_rfl) ?_ _
        have hB3 := ((show Boxed W.drew _ _ _ from hB2).alloc (.cells #[.int .i64 z] 3)).kept hgrow ((show Boxed W.drew _ _ _ from hB2).not_row (by decide) hrow)
        have hB4 := hB3.other (B' := w.heap.size + 1 + 1) (by omega) (.slice (some ⟨g', 0, none⟩) (pre.length + 1) cap')
        have hb3 := ((Below.refl (w.heap.size + 1) W).drew).trans hb2
        refine ⟨((KeepsOthers.drew W).trans hk2).from _, ⟨hb3.mono (by omega), hB4.trans hB2.symm⟩, ⟨⟨⟨_, hv2, ?_, trivial⟩, (hb3.block _ (by omega)).trans hKb, hB4⟩, hBW.trans (hb3.mono (by omega))⟩⟩
        simpa only [HS.out, List.length_append, List.length_map, List.length_cons, List.length_nil, Nat.zero_add, List.map_append, List.map_cons, List.map_nil] using hr2
      · go_simp
        refine (HM.out _).mono ?_
        rintro e w' ⟨rfl, rfl⟩
        refine hK _ _ ?_
        clear hK K
        refine wpAny_ready (rs := [0, 5]) (by kernel_rfl) (by simp) ?_
        refine AllReady.cons rfl (fun K hK => ?_) (AllReady.cons rfl (fun K hK => ?_) AllReady.nil)
        · go_simp
          refine hK _ _ ?_
          clear hK K
          refine wpAny_ready (rs := [5]) (by kernel_rfl) (by simp) ?_
          refine AllReady.cons rfl (fun K hK => ?_) AllReady.nil
          go_simp
          refine (HA.out _).mono ?_
          rintro e w' ⟨rfl, rfl⟩
          refine hK _ _ ?_
          clear hK K
          refine wpAny_ready (rs := [6]) (by kernel_rfl) (by simp) ?_
          refine AllReady.cons rfl (fun K hK => ?_) AllReady.nil
          go_simp
          refine hK _ _ ?_
          clear hK K
          refine wpAny_ready (rs := [7]) (by kernel_rfl) (by simp) ?_
          refine AllReady.cons rfl (fun K hK => ?_) AllReady.nil
          refine Round.wanted_wp rfl (wp_append_own _ (.tmp 20) (.tmp 26) 27 rfl (w.heap.size + 1) 3 i0 (.int .i64 0) 1 8 Tryd.underlying27 hi hz0 hz1 hz2 rfl (by decide) _ _ _ rfl hrow6 ⟨W.heap.size, 0, none⟩ 1 1 [.int .i64 z] rfl rfl (cell_one_new W.drew _ _) (by simp [Value.oneCell']) (by unfold maxLen; omega) (by omega) (by simp; omega) ?_)
          intro v' w1 hown' hgrow _
          obtain ⟨g', cap', rfl⟩ := ownsRow_succ hown'
          obtain ⟨hv1, hv2, hr2, hk2, hb2⟩ := hv6.appended (by decide) hrow (by simp; omega) (Nat.le_succ _) hown' hgrow
          have hc1 := hv1.cell
          have hf1 := hv1.frozen
          refine hK _ _ ?_
          clear hK K
          refine wpAny_ready (rs := [8]) (by kernel_rfl) (by simp) ?_
          refine AllReady.cons rfl (fun K hK => ?_) AllReady.nil
          go_simp
          refine hK _ _ ?_
          clear hK K
          refine wpAny_done (by kernel_rfl) ?_ _
          have hB3 := ((show Boxed W.drew _ _ _ from hB2).alloc (.cells #[.int .i64 z] 3)).kept hgrow ((show Boxed W.drew _ _ _ from hB2).not_row (by decide) hrow)
          have hB4 := hB3.other (B' := w.heap.size + 1 + 1) (by omega) (.slice (some ⟨g', 0, none⟩) (pre.length + 1) cap')
          have hb3 := ((Below.refl (w.heap.size + 1) W).drew).trans hb2
          refine ⟨((KeepsOthers.drew W).trans hk2).from _, ⟨hb3.mono (by omega), hB4.trans hB2.symm⟩, ⟨⟨⟨_, hv2, ?_, trivial⟩, (hb3.block _ (by omega)).trans hKb, hB4⟩, hBW.trans (hb3.mono (by omega))⟩⟩
          simpa only [HS.out, List.length_append, List.length_map, List.length_cons, List.length_nil, Nat.zero_add, List.map_append, List.map_cons, List.map_nil] using hr2
        · go_simp
          refine (HA.out _).mono ?_
          rintro e w' ⟨rfl, rfl⟩
          refine hK _ _ ?_
          clear hK K
          refine wpAny_ready (rs := [0, 6]) (by kernel_rfl) (by simp) ?_
          refine AllReady.cons rfl (fun K hK => ?_) (AllReady.cons rfl (fun K hK => ?_) AllReady.nil)
          · go_simp
            refine hK _ _ ?_
            clear hK K
            refine wpAny_ready (rs := [6]) (by kernel_rfl) (by simp) ?_
            refine AllReady.cons rfl (fun K hK => ?_) AllReady.nil
            go_simp
            refine hK _ _ ?_
            clear hK K
            refine wpAny_ready (rs := [7]) (by kernel_rfl) (by simp) ?_
            refine AllReady.cons rfl (fun K hK => ?_) AllReady.nil
            refine Round.wanted_wp rfl (wp_append_own _ (.tmp 20) (.tmp 26) 27 rfl (w.heap.size + 1) 3 i0 (.int .i64 0) 1 8 Tryd.underlying27 hi hz0 hz1 hz2 rfl (by decide) _ _ _ rfl hrow6 ⟨W.heap.size, 0, none⟩ 1 1 [.int .i64 z] rfl rfl (cell_one_new W.drew _ _) (by simp [Value.oneCell']) (by unfold maxLen; omega) (by omega) (by simp; omega) ?_)
            intro v' w1 hown' hgrow _
            obtain ⟨g', cap', rfl⟩ := ownsRow_succ hown'
            obtain ⟨hv1, hv2, hr2, hk2, hb2⟩ := hv6.appended (by decide) hrow (by simp; omega) (Nat.le_succ _) hown' hgrow
            have hc1 := hv1.cell
            have hf1 := hv1.frozen
            refine hK _ _ ?_
            clear hK K
            refine wpAny_ready (rs := [8]) (by kernel_rfl) (by simp) ?_
            refine AllReady.cons rfl (fun K hK => ?_) AllReady.nil
            go_simp
            refine hK _ _ ?_
            clear hK K
            refine wpAny_done (by kernel_rfl) ?_ _
            have hB3 := ((show Boxed W.drew _ _ _ from hB2).alloc (.cells #[.int .i64 z] 3)).kept hgrow ((show Boxed W.drew _ _ _ from hB2).not_row (by decide) hrow)
            have hB4 := hB3.other (B' := w.heap.size + 1 + 1) (by omega) (.slice (some ⟨g', 0, none⟩) (pre.length + 1) cap')
            have hb3 := ((Below.refl (w.heap.size + 1) W).drew).trans hb2
            refine ⟨((KeepsOthers.drew W).trans hk2).from _, ⟨hb3.mono (by omega), hB4.trans hB2.symm⟩, ⟨⟨⟨_, hv2, ?_, trivial⟩, (hb3.block _ (by omega)).trans hKb, hB4⟩, hBW.trans (hb3.mono (by omega))⟩⟩
            simpa only [HS.out, List.length_append, List.length_map, List.length_cons, List.length_nil, Nat.zero_add, List.map_append, List.map_cons, List.map_nil] using hr2
          · go_simp
            refine hK _ _ ?_
            clear hK K
            refine wpAny_ready (rs := [0]) (by kernel_rfl) (by simp) ?_
            refine AllReady.cons rfl (fun K hK => ?_) AllReady.nil
            go_simp
            refine hK _ _ ?_
            clear hK K
            refine wpAny_ready (rs := [7]) (by kernel_rfl) (by simp) ?_
            refine AllReady.cons rfl (fun K hK => ?_) AllReady.nil
            refine Round.wanted_wp rfl (wp_append_own _ (.tmp 20) (.tmp 26) 27 rfl (w.heap.size + 1) 3 i0 (.int .i64 0) 1 8 Tryd.underlying27 hi hz0 hz1 hz2 rfl (by decide) _ _ _ rfl hrow6 ⟨W.heap.size, 0, none⟩ 1 1 [.int .i64 z] rfl rfl (cell_one_new W.drew _ _) (by simp [Value.oneCell']) (by unfold maxLen; omega) (by omega) (by simp; omega) ?_)
            intro v' w1 hown' hgrow _
            obtain ⟨g', cap', rfl⟩ := ownsRow_succ hown'
            obtain ⟨hv1, hv2, hr2, hk2, hb2⟩ := hv6.appended (by decide) hrow (by simp; omega) (Nat.le_succ _) hown' hgrow
            have hc1 := hv1.cell
            have hf1 := hv1.frozen
            refine hK _ _ ?_
            clear hK K
            refine wpAny_ready (rs := [8]) (by kernel_rfl) (by simp) ?_
            refine AllReady.cons rfl (fun K hK => ?_) AllReady.nil
            go_simp
            refine hK _ _ ?_
            clear hK K
            refine wpAny_done (by kernel_rfl) ?_ _
            have hB3 := ((show Boxed W.drew _ _ _ from hB2).alloc (.cells #[.int .i64 z] 3)).kept hgrow ((show Boxed W.drew _ _ _ from hB2).not_row (by decide) hrow)
            have hB4 := hB3.other (B' := w.heap.size + 1 + 1) (by omega) (.slice (some ⟨g', 0, none⟩) (pre.length + 1) cap')
            have hb3 := ((Below.refl (w.heap.size + 1) W).drew).trans hb2
            refine ⟨((KeepsOthers.drew W).trans hk2).from _, ⟨hb3.mono (by omega), hB4.trans hB2.symm⟩, ⟨⟨⟨_, hv2, ?_, trivial⟩, (hb3.block _ (by omega)).trans hKb, hB4⟩, hBW.trans (hb3.mono (by omega))⟩⟩
            simpa only [HS.out, List.length_append, List.length_map, List.length_cons, List.length_nil, Nat.zero_add, List.map_append, List.map_cons, List.map_nil] using hr2
  case done =>
    rintro D zs W hD rfl ⟨⟨⟨v, hv, hrow, _⟩, _⟩, hBW⟩ hK
    have hc := hv.cell
    gi_wp2
    refine ⟨by simp, .inl ⟨_, _, rfl, run_takeDeferred hK, ?_⟩⟩
    have hrow2 := ownsRow_putObj hrow (.deferred none) hK rfl
    obtain ⟨ad3, cap3, rfl, hr⟩ := row_of hrow2 (fits_steps k _)
    rw [steps hk] at hr ⊢
    exact ⟨_, results_tmp rfl _ _ _, _, _, _, rfl, hr.lo (by omega), hBW.trans (belowK_b (w := w) (Nat.le_refl _) W D _ _ (by omega) hK rfl rfl)⟩
  case stop =>
    rintro D c pre W _ _ h _
    exact h.elim

end Go.Proofs.YtkhfkccbnhjmjaaDoor.VecI
namespace Go.Proofs.YtkhfkccbnhjmjaaDoor.VecI
open Go.RowKit Go.Shelf
open Go.Proofs.YtkhfkccbnhjmjaaDoor.Seq Go.Proofs.YtkhfkccbnhjmjaaDoor.Help Go.Proofs.YtkhfkccbnhjmjaaDoor.Field Go.Proofs.YtkhfkccbnhjmjaaDoor.FieldW Go.Proofs.YtkhfkccbnhjmjaaDoor.Vec Go.Proofs.YtkhfkccbnhjmjaaDoor.VecW Go.Proofs.YtkhfkccbnhjmjaaDoor.VecOps
attribute [local go_sem] Oper.semAt_some

end Go.Proofs.YtkhfkccbnhjmjaaDoor.VecI
namespace Go.Proofs.YtkhfkccbnhjmjaaDoor.VecI
open Go.ChangeShapes Go.WideShapes Go.ChangeAt Go.RowKit
open Go.Proofs.YtkhfkccbnhjmjaaDoor.Seq Go.Proofs.YtkhfkccbnhjmjaaDoor.Help Go.Proofs.YtkhfkccbnhjmjaaDoor.Field Go.Proofs.YtkhfkccbnhjmjaaDoor.FieldW Go.Proofs.YtkhfkccbnhjmjaaDoor.Vec Go.Proofs.YtkhfkccbnhjmjaaDoor.VecW Go.Proofs.YtkhfkccbnhjmjaaDoor.VecOps

theorem add_empty (ys : List Int) (k : Int) : addScaled [] ys k = [] := List.eq_nil_of_length_eq_zero (by have := addScaled_le [] ys k; simpa using this)
/-- Once empty, it stays so. -/
theorem combs_bad (ps : List (List Int × Int)) (ws : Nat) (acc : List Int) (hacc : acc.length = ws ∨ acc = []) (y : List Int) (hy : y ∈ ps.map (·.1)) (hbad : (Vec.isVec y && (y.length == ws)) = false) :
    ps.foldl (fun acc p => addScaled acc p.1 p.2) acc = [] := by
  have hnil : ∀ ps : List (List Int × Int), ps.foldl (fun acc p => addScaled acc p.1 p.2) [] = [] := by
    intro ps
    induction ps with
    | nil => rfl
    | cons p ps ih => rw [List.foldl_cons, add_empty]; exact ih
  induction ps generalizing acc with
  | nil => simp at hy
  | cons p ps ih =>
    rw [List.foldl_cons]
    rcases hacc with hacc | rfl
    · by_cases hp : y = p.1
      · have : addScaled acc p.1 p.2 = [] := by
          subst hp
          unfold addScaled
          cases h1 : Vec.isVec p.1
          · simp
          · rw [h1] at hbad
            have h2 : (acc.length == p.1.length) = false := by
              rw [Bool.true_and] at hbad
              rw [hacc]
              simp only [beq_eq_false_iff_ne, ne_eq] at hbad ⊢
              omega
            rw [h2]; simp
        rw [this]; exact hnil _
      · have hy2 : y ∈ ps.map (·.1) := by
          simp only [List.map_cons, List.mem_cons] at hy
          exact hy.resolve_left hp
        refine ih _ ?_ hy2
        unfold addScaled
        cases h : (Vec.isVec acc && Vec.isVec p.1 && (acc.length == p.1.length)) && isEl p.2
        · exact .inr rfl
        · refine .inl ?_
          simp only [Bool.and_eq_true, beq_iff_eq] at h
          show (mac acc p.1 p.2).length = ws
          rw [mac_len _ h.1.2, hacc]
    · rw [add_empty]; exact hnil _
theorem combine_combs {xss : List (List Int)} {cs xs : List Int} (h0 : xss[0]? = some xs) (hl : xss.length = cs.length) (hv : Vec.isVec cs = true) : combine xss cs = combs xs.length xss cs := by
  by_cases hok : ∀ ys ∈ xss, (Vec.isVec ys && (ys.length == xs.length)) = true
  · have := combine_ok h0 rfl hl hv (fun ys hy => hok ys (List.mem_of_mem_take hy))
    rwa [List.take_length, List.take_of_length_le (by omega)] at this
  · simp only [Classical.not_forall] at hok
    obtain ⟨ys, hy, hb⟩ := hok
    obtain ⟨j, hj⟩ := List.getElem?_of_mem hy
    rw [combine_row h0 hj (by simpa using hb)]
    refine (combs_bad _ xs.length _ (.inl (by simp)) ys ?_ (by simpa using hb)).symm
    rw [List.map_fst_zip (by omega)]; exact hy

set_option maxRecDepth 100000 in
theorem comb : CombOp := fun w l h l2 h2 ad ad2 n cap n2 cap2 xss cs s hn hr s2 hn2 => by
  have hbig := s.big
  have hcap := s.le
  have hbig2 := s2.big
  have hcap2 := s2.le
  unfold maxLen at hbig hbig2
  have HR := Lib.hid hr
  clear hr
  by_cases hn0 : n = 0
  · subst hn0
    have hx0 : xss = [] := List.eq_nil_of_length_eq_zero s.len
    subst hx0
    go_enter Tryd.func39, Tryd.ntmps39
    go_wp2
    go_ret
    exact ⟨_, _, _, rfl, Row.nil _ _ _ _ _ _, (Below.refl _ _).alloc (Nat.le_refl _) _⟩
  by_cases hnn : n = n2
  case neg =>
    have hE := combine_len (xss := xss) (cs := cs) (by rw [s.len, s2.len]; exact hnn)
    have hnn2 : ((n : Int) == n2) = false := by simp; omega
    have hnn3 : ((n : Int) != n2) = true := by simp; omega
    have hn00 : ((n : Int) == 0) = false := by simp; omega
    rw [hE]
    clear hE hnn
    go_enter Tryd.func39, Tryd.ntmps39
    go_wp2
    go_ret
    exact ⟨_, _, _, rfl, Row.nil _ _ _ _ _ _, (Below.refl _ _).alloc (Nat.le_refl _) _⟩
  subst hnn
  have hn00 : ((n : Int) == 0) = false := by simp; omega
  have h1 := isVec_is w s2
  cases hv : Vec.isVec cs
  · rw [hv] at h1
    rw [combine_cs hv]
    have H1 := Lib.hid h1
    clear h1 hv
    go_enter Tryd.func39, Tryd.ntmps39
    go_wp2_with fail
    go_at_call 50
    refine H1.out.mono ?_
    rintro e w' ⟨rfl, rfl⟩
    go_wp2
    go_ret
    exact ⟨_, _, _, rfl, Row.nil _ _ _ _ _ _, (Below.refl _ _).alloc (Nat.le_refl _) _⟩
  rw [hv] at h1
  have H1 := Lib.hid h1
  have hn40 : n ≤ 40 := by rw [← s2.len]; exact (isVec_iff.1 hv).2
  obtain ⟨a, ad0, n0, cap0, x0, rfl, hx0, hc0⟩ := s.at_ (j := 0) (by omega)
  have HE := Lib.hid (combine_combs hx0.get (by rw [s.len, s2.len]) hv)
  have hn0m : n0 ≤ 17592186044416 := by rw [← hx0.sl.len]; exact HR.out _ (List.mem_of_getElem? hx0.get)
  have L0 := Lib.hid hx0.sl.len
  rw [add_0] at hc0
  clear hx0 h1 hv
  rw [HE.out, L0.out]
  go_enter Tryd.func39, Tryd.ntmps39
  go_wp2_with fail
  go_at_call 50
  refine H1.out.mono ?_
  rintro e w' ⟨rfl, rfl⟩
  go_wp2_with (at_make; refine wpList_mk Tryd.underlying27 info_int (fits_i64.2 (by omega)) (by unfold maxLen; omega) (by omega) rfl _ _ rfl rfl rfl ?_; intro w1 hr1 hb1)
  have hz1 := hb1.size
  have e0 : List.replicate n0 (0 : Int) = combs n0 (xss.take 0) (cs.take 0) := rfl
  rw [e0] at hr1
  go_loopw [5, 31] (fun v i wr => ∃ (j m' : Nat) (ad' : Option Addr) (cap' : Nat), j ≤ n ∧ i = .int .i64 j ∧ v = .slice ad' m' cap' ∧ m' ≤ 17592186044416 ∧ Row wr w.heap.size wr.heap.size .i64 3 ad' m' cap' (combs n0 (xss.take j) (cs.take j)) ∧ Below w.heap.size w wr) (fun _ i _ => n - (intOf i).toNat)
  case atStart => exact ⟨0, n0, _, _, Nat.zero_le _, rfl, rfl, hn0m, hr1, hb1⟩
  case round =>
    obtain ⟨j, m', ad', cap', hj, rfl, rfl, hm', hr, hb⟩ := hrel
    have zb := hb.size
    by_cases hlt : j < n
    · have t := s.below hb (.inr (Nat.le_refl _))
      obtain ⟨a1, ad3, n3, cap3, xs, e1, hx, hc⟩ := t.at_ hlt
      obtain rfl := Option.some.inj e1
      obtain ⟨a2, c, rfl, hy, hc2⟩ := (s2.below hb (.inr (Nat.le_refl _))).at_ hlt
      have hle3 := hx.sl.le
      have hbg3 := hx.sl.big
      unfold maxLen at hbg3
      have hn3m : n3 ≤ 17592186044416 := by rw [← hx.sl.len]; exact HR.out _ (List.mem_of_getElem? hx.get)
      have HC := Lib.hid (combs_more (ws := n0) hx.get hy.get)
      have hA := adds wr hr.sl hm' hx.sl hn3m c
      rw [← HC.out] at hA
      have HA := Lib.hid hA
      have hML := Lib.hid (show (combs n0 (xss.take (j + 1)) (cs.take (j + 1))).length ≤ m' by rw [HC.out, ← hr.len]; exact addScaled_le _ _ _)
      clear hA hx hy t hr
      go_wp2_with fail
      go_at_call 75
      refine HA.out.mono ?_
      rintro e w5 ⟨ad5, n5, cap5, rfl, r5, b5⟩
      have hn5 : n5 ≤ 17592186044416 := by have := r5.len; have := hML.out; omega
      have HR5 := Lib.hid (r5.lo (l' := w.heap.size) zb)
      have HB5 := Lib.hid (hb.trans (b5.mono zb))
      clear r5 b5 hb HA
      go_wp2
      go_roundw
      case rel => exact ⟨j + 1, _, _, _, by omega, by go_num, rfl, hn5, HR5.out, HB5.out⟩
      case measure => simp [intOf]; omega
    · obtain rfl : j = n := by omega
      rw [List.take_of_length_le (Nat.le_of_eq s.len), List.take_of_length_le (Nat.le_of_eq s2.len)] at hr
      have HRow := Lib.hid hr
      clear hr
      go_wp2
      go_ret
      exact ⟨_, _, _, rfl, HRow.out.lt, hb⟩

end Go.Proofs.YtkhfkccbnhjmjaaDoor.VecI
namespace Go.Proofs.YtkhfkccbnhjmjaaDoor.MatI
open Go.ChangeShapes Go.WideShapes Go.ChangeAt Go.RowKit
open Go.Proofs.YtkhfkccbnhjmjaaDoor.Seq Go.Proofs.YtkhfkccbnhjmjaaDoor.Help Go.Proofs.YtkhfkccbnhjmjaaDoor.Field Go.Proofs.YtkhfkccbnhjmjaaDoor.FieldW Go.Proofs.YtkhfkccbnhjmjaaDoor.Vec Go.Proofs.YtkhfkccbnhjmjaaDoor.VecW Go.Proofs.YtkhfkccbnhjmjaaDoor.VecOps Go.Proofs.YtkhfkccbnhjmjaaDoor.Mat Go.Proofs.YtkhfkccbnhjmjaaDoor.MatW Go.Proofs.YtkhfkccbnhjmjaaDoor.MatOps

end Go.Proofs.YtkhfkccbnhjmjaaDoor.MatI
namespace Go.Proofs.YtkhfkccbnhjmjaaDoor.MatI
open Go.ChangeShapes Go.WideShapes Go.ChangeAt Go.RowKit
open Go.Proofs.YtkhfkccbnhjmjaaDoor.Seq Go.Proofs.YtkhfkccbnhjmjaaDoor.Help Go.Proofs.YtkhfkccbnhjmjaaDoor.Field Go.Proofs.YtkhfkccbnhjmjaaDoor.FieldW Go.Proofs.YtkhfkccbnhjmjaaDoor.Vec Go.Proofs.YtkhfkccbnhjmjaaDoor.VecW Go.Proofs.YtkhfkccbnhjmjaaDoor.VecOps Go.Proofs.YtkhfkccbnhjmjaaDoor.Mat Go.Proofs.YtkhfkccbnhjmjaaDoor.MatW Go.Proofs.YtkhfkccbnhjmjaaDoor.MatOps



end Go.Proofs.YtkhfkccbnhjmjaaDoor.MatI
namespace Go.Proofs.YtkhfkccbnhjmjaaDoor.MatI
open Go.ChangeShapes Go.WideShapes Go.ChangeAt Go.RowKit
open Go.Proofs.YtkhfkccbnhjmjaaDoor.Seq Go.Proofs.YtkhfkccbnhjmjaaDoor.Help Go.Proofs.YtkhfkccbnhjmjaaDoor.Field Go.Proofs.YtkhfkccbnhjmjaaDoor.FieldW Go.Proofs.YtkhfkccbnhjmjaaDoor.Vec Go.Proofs.YtkhfkccbnhjmjaaDoor.VecW Go.Proofs.YtkhfkccbnhjmjaaDoor.VecOps Go.Proofs.YtkhfkccbnhjmjaaDoor.Mat Go.Proofs.YtkhfkccbnhjmjaaDoor.MatW Go.Proofs.YtkhfkccbnhjmjaaDoor.MatOps

end Go.Proofs.YtkhfkccbnhjmjaaDoor.MatI
namespace Go.Proofs.YtkhfkccbnhjmjaaDoor.GenI
open Go.ChangeShapes Go.WideShapes Go.ChangeAt Go.RowKit
open Go.Proofs.YtkhfkccbnhjmjaaDoor.Seq Go.Proofs.YtkhfkccbnhjmjaaDoor.Help Go.Proofs.YtkhfkccbnhjmjaaDoor.Field Go.Proofs.YtkhfkccbnhjmjaaDoor.FieldW Go.Proofs.YtkhfkccbnhjmjaaDoor.Vec Go.Proofs.YtkhfkccbnhjmjaaDoor.VecW Go.Proofs.YtkhfkccbnhjmjaaDoor.Mat Go.Proofs.YtkhfkccbnhjmjaaDoor.MatW Go.Proofs.YtkhfkccbnhjmjaaDoor.Shape Go.Proofs.YtkhfkccbnhjmjaaDoor.Gen Go.Proofs.YtkhfkccbnhjmjaaDoor.GenW

end Go.Proofs.YtkhfkccbnhjmjaaDoor.GenI
