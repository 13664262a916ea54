/-
  What closes a law's row whatever its parameters are: a call that returns true and leaves all memory that was there as it was meets 'true, and each argument reads as it read'. No program.
-/
import Derived.WalkKit
import Derived.ProofKit
import Derived.OpenShut
import Derived.Carry
import Derived.Deep.DeepHandedRow
import Derived.Deep.DeepWitnessRowRef
import Derived.SizedLaws
namespace Go.Proofs.Ythhnfbhpdcemfaa.Kit
open Go.ChangeShapes Go.WideShapes Go.ChangeAt Go.RowKit
variable {H : Type} {enc : TypeId × Value → H} {P : Program}

theorem trodAll_below (hl : laidOutB P = true) {W W' : World} (hb : Below W.heap.size W W') :
    ∀ {ts : List TypeId} {vs : List Value} {ds : List (DataW H)} {ps : List MemPlace}, (∀ t ∈ ts, P.readableRec t = true ∧ t < P.types.size) →
      DataW.TrodAll enc P W 0 (fun _ => true) true ts vs ds ps → (∀ x ∈ ps, x.block < W.heap.size) → DataW.TrodAll enc P W' 0 (fun b => decide (b < W.heap.size)) true ts vs ds ps
  | [], _, _, _, _, h, _ => by
    obtain ⟨rfl, rfl, rfl⟩ := trodAll_nil h
    exact trodAll_mk0
  | t :: ts, _, _, _, hr, h, hlt => by
    obtain ⟨v, vs', d, ds', p, q, rfl, rfl, rfl, h1, h2⟩ := trodAll_cons h
    exact trodAll_cons_mk (Below.trod hl (hr t (by simp)).1 (hr t (by simp)).2 h1 hb (fun x hx => hlt x (by simp [hx]))) (trodAll_below hl hb (fun t ht => hr t (by simp [ht])) h2 (fun x hx => hlt x (by simp [hx])))

/-- A law's end. -/
theorem law_post {f : Func} {s : ChangeSpec} {W W' : World} {args : Array Value} {ds gs : List (DataW H)} {before : List MemPlace} {tb : TypeId}
    (hl : laidOutB P = true) (hf : f.resultTypes = #[tb]) (hb : P.underlying tb = some .bool) (hvars : s.vars = [])
    (hr0 : (f.params.toList.all fun t => P.readableRec t && decide (t < P.types.size)) = true)
    (hs : s.fn H ds = { results := [.lit (.bool true)], args := ds })
    (hW : DataW.Whole enc P f.params.toList s.vars false W args.toList ds gs before) (hbel : Below W.heap.size W W') :
    s.post enc P f false true false false W args (.bool true) W' := by
  have hr : ∀ t ∈ f.params.toList, P.readableRec t = true ∧ t < P.types.size := fun t ht => by
    have := List.all_eq_true.1 hr0 t ht
    simpa using this
  have hW' := hW
  obtain ⟨p, q, hA, hV, rfl, hz, hn⟩ := hW
  rw [hvars] at hV
  obtain ⟨rfl, rfl⟩ := trodVars_none hV
  have e : s.fn H (ds ++ []) = { results := [.lit (.bool true)], args := ds } := by rw [List.append_nil]; exact hs
  refine ⟨ds, [], p ++ [], [], p, [], hW', ?_, ?_, ?_, hbel.frame _, fun h => by cases h⟩
  · rw [e, hf]
    exact trodAll_mk1 (shut_bool hb _)
  · rw [e]
    exact trodAll_below hl hbel hr hA (fun x hx => hW'.lt x (by simp [hx]))
  · rw [e, hvars]
    rfl

/-- A slice of integers that reads in a world. -/
structure IntsAt (k : IntKind) (w : World) (v : Value) (ad : Option Addr) (n cap : Nat) : Prop where
  val : v = .slice ad n cap
  len : n ≤ cap
  nil : ad = none → cap = 0
  cap : cap ≤ maxLen
  cells : ∀ j, j < n → ∃ (a : Addr) (x : Int), ad = some a ∧ (Lit.int k x).wf = true ∧ w.cell? (a.add j) = some (.int k x)

theorem ints_at {k : IntKind} {t e : TypeId} {W : World} {r : Reach} {b0 : Nat} {v : Value} {d : DataW H} {ps : List MemPlace} (ht : P.underlying t = some (.slice e)) (he : P.underlying e = some (.int k)) (hc : P.cellsOf e = 1)
    (hval : Value.okWide P W r b0 t v) (h : DataW.Trod enc P W 0 (fun _ => true) true t v d ps) : ∃ ad n cap, IntsAt k W v ad n cap := by
  obtain ⟨a, l, c, rfl⟩ := okWide_slice ht hval
  obtain ⟨fuel, hf⟩ := h
  rcases open_ints ht he hc hf with ⟨h1, _⟩ | ⟨ad, len, cap, zs, h1, _, h3, h4, h5, _, h7, h8⟩
  · have h1' : (Value.slice a l c) = .slice none 0 0 := by simpa [Value.cells] using h1
    exact ⟨_, _, _, h1', Nat.le_refl _, fun _ => rfl, Nat.zero_le _, fun j hj => by omega⟩
  · have h1' : (Value.slice a l c) = .slice (some ad) len cap := by simpa [Value.cells] using h1
    have hz : zs.length = cap := by simpa using h5
    refine ⟨_, _, _, h1', h3, fun h => by simp at h, h4, fun j hj => ⟨ad, zs.getD j 0, rfl, ?_, h7 j (by omega)⟩⟩
    have hj' : j < zs.length := by omega
    rw [List.getD_eq_getElem?_getD, List.getElem?_eq_getElem hj']
    exact h8 _ (by simp)

/-- All memory but one block is as it was; there may be new blocks, and draws. -/
structure Moved (B : Nat) (w w' : World) : Prop where
  os : w'.os = w.os
  tape : w'.tape = w.tape
  output : w'.output = w.output
  size : w.heap.size ≤ w'.heap.size
  block : ∀ k, k < w.heap.size → k ≠ B → w'.heap[k]? = w.heap[k]?

theorem Moved.refl (B : Nat) (w : World) : Moved B w w := ⟨rfl, rfl, rfl, Nat.le_refl _, fun _ _ _ => rfl⟩
theorem Moved.trans {B : Nat} {a b c : World} (h : Moved B a b) (k : Moved B b c) : Moved B a c :=
  ⟨k.os.trans h.os, k.tape.trans h.tape, k.output.trans h.output, Nat.le_trans h.size k.size, fun i hi hB => (k.block i (Nat.lt_of_lt_of_le hi h.size) hB).trans (h.block i hi hB)⟩
theorem Moved.drew {B : Nat} {a w : World} (h : Moved B a w) : Moved B a w.drew := ⟨h.os, h.tape, h.output, h.size, h.block⟩
theorem Moved.alloc {B : Nat} {a w : World} (h : Moved B a w) (o : Obj) : Moved B a (w.alloc o) :=
  h.trans ⟨rfl, rfl, rfl, by simp, fun k hk _ => Below.heap_alloc _ _ _ hk⟩
theorem Moved.setCell {B : Nat} {a w : World} (h : Moved B a w) {p : Addr} (hp : p.block = B) (u : Value) : Moved B a (w.setCell p u) :=
  h.trans ⟨rfl, rfl, rfl, by simp [World.setCell], fun k _ hB => Below.heap_setCell _ _ _ _ (by omega)⟩
theorem Moved.below {B : Nat} {w w' : World} (h : Moved B w w') {n : Nat} (hn : n ≤ w.heap.size) (hB : n ≤ B) : Below n w w' :=
  ⟨h.os, h.tape, h.output, h.size, fun k hk => h.block k (by omega) (by omega)⟩
theorem Moved.of_below {B : Nat} {w w' : World} (h : Below w.heap.size w w') : Moved B w w' := ⟨h.os, h.tape, h.output, h.size, fun k hk _ => h.block k hk⟩
theorem Moved.cell {B : Nat} {w w' : World} (h : Moved B w w') {a : Addr} {v : Value} (hc : w.cell? a = some v) (ha : a.block ≠ B) : w'.cell? a = some v :=
  (World.cell?_of_block (h.block a.block (World.block_lt_of_cell? w a hc) ha)).trans hc
end Go.Proofs.Ythhnfbhpdcemfaa.Kit
