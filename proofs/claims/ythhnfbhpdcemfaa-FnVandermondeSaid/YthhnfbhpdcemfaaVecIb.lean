/-
  Vectors, of the program: the pairs of two vectors (a range over a function), AddScaled, DotProduct.
-/
import Derived.RangeFuncBox
import Derived.RangeFuncNested
import Derived.RangeFuncLeaves
import Derived.Shelf.Abstract
import Derived.WalkKit
import Derived.OwnWalkIn
import Derived.TacticsInMore
import Derived.LoopNIn
import Derived.LoopIn
import Derived.Maps.AppendAt
import Derived.Stop.RegionWithIn
import Derived.Test.YthhnfbhpdcemfaaVecIa
namespace Go.Proofs.Ythhnfbhpdcemfaa.VecI
open Go.RowKit Go.Shelf
open Go.Proofs.Ythhnfbhpdcemfaa.Seq Go.Proofs.Ythhnfbhpdcemfaa.Help Go.Proofs.Ythhnfbhpdcemfaa.Field Go.Proofs.Ythhnfbhpdcemfaa.FieldW Go.Proofs.Ythhnfbhpdcemfaa.Vec Go.Proofs.Ythhnfbhpdcemfaa.VecW Go.Proofs.Ythhnfbhpdcemfaa.VecOps
attribute [local go_sem] Oper.semAt_some

/-- The pairs of components of two vectors that fit together. -/
def pairs (xs ys : List Int) : List (Int × Int) := bif (Vec.isVec xs && Vec.isVec ys) && (xs.length == ys.length) then List.zip xs ys else []
theorem zip_more {xs ys : List Int} {j : Nat} {x y : Int} (hx : xs[j]? = some x) (hy : ys[j]? = some y) : (List.zip xs ys).take (j + 1) = (List.zip xs ys).take j ++ [(x, y)] := by
  refine take_more ?_
  rw [List.getElem?_zip_eq_some]; exact ⟨hx, hy⟩

/-- What the iterator asks of a round: its second box, and what lay below n₀. -/
def Keeps (n₀ b : Nat) (W W' : World) : Prop := Below n₀ W W' ∧ W'.heap[b]? = W.heap[b]?
theorem Keeps.trans {n₀ b : Nat} {A B C : World} (h : Keeps n₀ b A B) (k : Keeps n₀ b B C) : Keeps n₀ b A C := ⟨h.1.trans k.1, k.2.trans h.2⟩
theorem keeps_put {n₀ b : Nat} {w : World} (h : n₀ ≤ w.heap.size) (hb : b < w.heap.size) (W : World) (l : Nat) (o o' : Obj) (hl : w.heap.size ≤ l) (ho : W.heap[l]? = some o) (h1 : o.isCells = false) (h2 : o.isWalk = false) : Keeps n₀ b W (W.putObj l o') :=
  ⟨belowK_b h W l o o' hl ho h1 h2, World.putObj_heap_other (by omega)⟩
theorem grown_of {w w' : World} (h : Below w.heap.size w w') : w.grownBy w' none := ⟨h.os, h.tape, h.output, h.size, fun k hk _ => h.block k hk⟩

set_option maxRecDepth 100000 in
set_option maxHeartbeats 2000000 in
theorem pairs1 (n : Nat) (hn : 1 ≤ n) (l b1 b2 n₀ : Nat) {l1 h1 l2 h2 : Nat} {ad ad2 : Option Addr} {m cap m2 cap2 : Nat} {xs ys : List Int} (J Jx : List (Int × Int) → World → Prop)
    (W : World) (s : Sl W l1 h1 .i64 ad m cap xs) (s2 : Sl W l2 h2 .i64 ad2 m2 cap2 ys) (hh1 : h1 ≤ n₀) (hh2 : h2 ≤ n₀)
    (hY : ∀ pre (x : Int × Int) W, J pre W → pre.length < 40 → YieldAt Fence.wide (n - 1) Try.prog l #[.int .i64 x.1, .int .i64 x.2] W fun e W' =>
      (e = .returned (.bool true) ∧ J (pre ++ [x]) W' ∧ Keeps n₀ b2 W W') ∨ (e = .returned (.bool false) ∧ Jx (pre ++ [x]) W'))
    (hc1 : W.cell? ⟨b1, 0, none⟩ = some (.slice ad m cap)) (hB2 : Boxed W b2 30 (.slice ad2 m2 cap2)) (h0 : J [] W) :
    CallsIn Fence.wide n Try.prog 92 #[.func (.yield l) #[] #[], .pointer (some ⟨b1, 0, none⟩), .pointer (some ⟨b2, 0, none⟩)] W fun e W' => (∃ v, e = .returned v) ∧
      ((∃ zs, zs = pairs xs ys ∧ J zs W') ∨ (∃ pre, pre <+: pairs xs ys ∧ Jx pre W')) := by
  have hc2 := hB2.cell
  have hbig := s.big
  have hcap := s.le
  have hbig2 := s2.big
  have hcap2 := s2.le
  unfold maxLen at hbig hbig2
  have v1 := isVec_is W s
  have v2 := isVec_is W s2
  by_cases hl : m = m2
  case neg =>
    have hE : pairs xs ys = [] := by
      unfold pairs
      have : (xs.length == ys.length) = false := by rw [s.len, s2.len]; simpa using hl
      rw [this, Bool.and_false]; rfl
    have hl2 : ((m : Int) != m2) = true := by simp; omega
    rw [hE]
    clear v1 v2 hE hl
    refine callsIn_of_wp Try.func92 rfl trivial ?_ rfl
    simp only [Try.ntmps92, List.size_toArray, List.length_cons, List.length_nil, Nat.reduceAdd, Nat.reduceSub, Array.replicate_succ, Array.replicate_zero, List.push_toArray, List.append_toArray, List.nil_append, List.cons_append]
    gi_wp2
    refine ⟨trivial, ?_⟩
    gi_wp2
    refine ⟨trivial, ?_⟩
    gi_wp2
    refine bodyPost_ret (results_none rfl _ _ _) rfl ?_
    exact ⟨⟨_, rfl⟩, .inl ⟨_, rfl, h0⟩⟩
  subst hl
  cases hv1 : Vec.isVec xs
  · have hE : pairs xs ys = [] := by unfold pairs; rw [hv1]; rfl
    rw [hv1] at v1
    rw [hE]
    have V1 := Lib.hid v1
    clear v1 v2 hE hv1
    refine callsIn_of_wp Try.func92 rfl trivial ?_ rfl
    simp only [Try.ntmps92, List.size_toArray, List.length_cons, List.length_nil, Nat.reduceAdd, Nat.reduceSub, Array.replicate_succ, Array.replicate_zero, List.push_toArray, List.append_toArray, List.nil_append, List.cons_append]
    gi_wp2_with fail
    refine ⟨trivial, ?_⟩
    refine (callsIn_wide.2 V1.out).mono ?_
    rintro e w2 ⟨rfl, rfl⟩
    gi_wp2
    refine ⟨trivial, ?_⟩
    gi_wp2
    refine bodyPost_ret (results_none rfl _ _ _) rfl ?_
    exact ⟨⟨_, rfl⟩, .inl ⟨_, rfl, h0⟩⟩
  cases hv2 : Vec.isVec ys
  · have hE : pairs xs ys = [] := by unfold pairs; rw [hv2, Bool.and_false]; rfl
    rw [hv1] at v1
    rw [hv2] at v2
    rw [hE]
    have V1 := Lib.hid v1
    have V2 := Lib.hid v2
    clear v1 v2 hE hv1 hv2
    refine callsIn_of_wp Try.func92 rfl trivial ?_ rfl
    simp only [Try.ntmps92, List.size_toArray, List.length_cons, List.length_nil, Nat.reduceAdd, Nat.reduceSub, Array.replicate_succ, Array.replicate_zero, List.push_toArray, List.append_toArray, List.nil_append, List.cons_append]
    gi_wp2_with fail
    refine ⟨trivial, ?_⟩
    refine (callsIn_wide.2 V1.out).mono ?_
    rintro e w2 ⟨rfl, rfl⟩
    gi_wp2_with fail
    refine ⟨trivial, ?_⟩
    refine (callsIn_wide.2 V2.out).mono ?_
    rintro e w2 ⟨rfl, rfl⟩
    gi_wp2
    refine bodyPost_ret (results_none rfl _ _ _) rfl ?_
    exact ⟨⟨_, rfl⟩, .inl ⟨_, rfl, h0⟩⟩
  have hE : pairs xs ys = List.zip xs ys := by unfold pairs; rw [hv1, hv2, s.len, s2.len]; simp
  have hm : m ≤ 40 := by rw [← s.len]; exact (isVec_iff.1 hv1).2
  have hzl : (List.zip xs ys).length = m := by rw [List.length_zip, s.len, s2.len]; omega
  rw [hv1] at v1
  rw [hv2] at v2
  rw [hE]
  have V1 := Lib.hid v1
  have V2 := Lib.hid v2
  clear v1 v2 hE hv1 hv2
  refine callsIn_of_wp Try.func92 rfl trivial ?_ rfl
  simp only [Try.ntmps92, List.size_toArray, List.length_cons, List.length_nil, Nat.reduceAdd, Nat.reduceSub, Array.replicate_succ, Array.replicate_zero, List.push_toArray, List.append_toArray, List.nil_append, List.cons_append]
  gi_wp2_with fail
  refine ⟨trivial, ?_⟩
  refine (callsIn_wide.2 V1.out).mono ?_
  rintro e w2 ⟨rfl, rfl⟩
  gi_wp2_with fail
  refine ⟨trivial, ?_⟩
  refine (callsIn_wide.2 V2.out).mono ?_
  rintro e w2 ⟨rfl, rfl⟩
  gi_wp2
  gi_loopw [23] (fun i wr => ∃ k : Nat, k ≤ m ∧ i = .int .i64 k ∧ J ((List.zip xs ys).take k) wr ∧ Keeps n₀ b2 W wr) (fun i _ => m - (intOf i).toNat)
  case atStart => exact ⟨0, Nat.zero_le _, rfl, by simpa using h0, Below.refl _ _, rfl⟩
  case round =>
    obtain ⟨k, hk, rfl, hJs, hnx⟩ := hrel
    have hnw := hnx.1.size
    have hB2' : Boxed wr b2 30 (.slice ad2 m cap2) := hnx.2.trans hB2
    have hc2' := hB2'.cell
    by_cases hlt : k < m
    · obtain ⟨a, x, rfl, hx, hc⟩ := (s.below hnx.1 (.inl hh1)).at_ hlt
      obtain ⟨a2, y, rfl, hy, hc'⟩ := (s2.below hnx.1 (.inl hh2)).at_ hlt
      have HZ := Lib.hid (zip_more hx.get hy.get)
      obtain ⟨fn, tmps, assign, body, hyl, hR⟩ := hY _ (x, y) wr hJs (by rw [List.length_take]; omega)
      dsimp only at hyl
      clear hx hy hY
      gi_wp2
      refine hR.mono ?_
      rintro e W3 (⟨rfl, hJ3, hk3⟩ | ⟨rfl, hJx3⟩)
      · gi_wp2
        go_roundw
        case rel => exact ⟨k + 1, by omega, by simp, by rw [HZ.out]; exact hJ3, hnx.trans hk3⟩
        case measure => simp [intOf]; omega
      · gi_wp2
        refine bodyPost_ret (results_none rfl _ _ _) rfl ?_
        exact ⟨⟨_, rfl⟩, .inr ⟨_, by rw [← HZ.out]; exact List.take_prefix _ _, hJx3⟩⟩
    · obtain rfl : k = m := by omega
      rw [List.take_of_length_le (Nat.le_of_eq hzl)] at hJs
      gi_wp2
      go_end0
      exact ⟨⟨_, rfl⟩, .inl ⟨_, rfl, hJs⟩⟩

/-- The two boxes that the iterator reads. -/
def boxes (w : World) (a b : Value) : World := (w.alloc (.cells #[a] 30)).alloc (.cells #[b] 30)
theorem pairsFn (w : World) (ad : Option Addr) (n cap : Nat) (ad2 : Option Addr) (n2 cap2 : Nat) :
    Calls Try.prog 80 #[.slice ad n cap, .slice ad2 n2 cap2] w fun e w' => e = .returned (.func (.func 92) #[] #[.pointer (some ⟨w.heap.size, 0, none⟩), .pointer (some ⟨w.heap.size + 1, 0, none⟩)]) ∧ w' = boxes w (.slice ad n cap) (.slice ad2 n2 cap2) := by
  go_enter Try.func80, Try.ntmps80
  go_wp2
  go_ret
  exact ⟨rfl, rfl⟩
end Go.Proofs.Ythhnfbhpdcemfaa.VecI
