/-
  What closes a law's row whatever its parameters are: a call that returns true and leaves all memory that was there as it was meets 'true, and each argument reads as it read'. No program.
  Masks: x & m lies in 0 .. m for every m that is not negative. No program.
  Slices of integers in memory: one that reads as a list (Sl), one that the call itself has made (Row), what a step leaves alone (Mv), and what append, make and a store do to them. No program.
  Slices of one-cell values in memory (slices of slices, of strings): one that reads as a list of values (SlV), one that the call itself has made (RowV), and what append, make and a store do to them. No program.
  Slices of slices of integers: one that reads as a list of lists (Sls), an argument (RowsAt), and one that the call itself has made (Grid). No program.
  A region that draws its order and whose last operation is a store that waits for all the others: the others are walked under a condition on the world, the store behind them. No program.
-/
import Derived.WalkKit
import Derived.ProofKit
import Derived.OpenShut
import Derived.Carry
import Derived.Deep.DeepHandedRow
import Derived.Deep.DeepWitnessRowRef
import Derived.SizedLaws
import Derived.Laws.BitsLemmas
import Derived.Laws.Bits64
import Derived.Laws.Bits128
import Derived.Laws.BitsAllLaws
import Derived.Below
import Derived.OwnWalk
import Derived.ArgAppend
import Derived.Laws.OwnMore
import Derived.Lib.Hide
import Derived.Deep.Draws
import Derived.Deep.Matrix
import Derived.Deep.RegionHeld3
import Derived.Test.YtlgmiojlpnoiaaaProg
namespace Go.Proofs.Ytlgmiojlpnoiaaa.Kit
open Go.ChangeShapes Go.WideShapes Go.ChangeAt Go.RowKit
variable {H : Type} {enc : TypeId × Value → H} {P : Program}

theorem trodAll_below (hl : laidOutB P = true) {W W' : World} (hb : Below W.heap.size W W') :
    ∀ {ts : List TypeId} {vs : List Value} {ds : List (DataW H)} {ps : List MemPlace}, (∀ t ∈ ts, P.readableRec t = true ∧ t < P.types.size) →
      DataW.TrodAll enc P W 0 (fun _ => true) true ts vs ds ps → (∀ x ∈ ps, x.block < W.heap.size) → DataW.TrodAll enc P W' 0 (fun b => decide (b < W.heap.size)) true ts vs ds ps
  | [], _, _, _, _, h, _ => by
    obtain ⟨rfl, rfl, rfl⟩ := trodAll_nil h
    exact trodAll_mk0
  | t :: ts, _, _, _, hr, h, hlt => by
    obtain ⟨v, vs', d, ds', p, q, rfl, rfl, rfl, h1, h2⟩ := trodAll_cons h
    exact trodAll_cons_mk (Below.trod hl (hr t (by simp)).1 (hr t (by simp)).2 h1 hb (fun x hx => hlt x (by simp [hx]))) (trodAll_below hl hb (fun t ht => hr t (by simp [ht])) h2 (fun x hx => hlt x (by simp [hx])))

/-- A law's end. -/
theorem law_post {f : Func} {s : ChangeSpec} {W W' : World} {args : Array Value} {ds gs : List (DataW H)} {before : List MemPlace} {tb : TypeId}
    (hl : laidOutB P = true) (hf : f.resultTypes = #[tb]) (hb : P.underlying tb = some .bool) (hvars : s.vars = [])
    (hr0 : (f.params.toList.all fun t => P.readableRec t && decide (t < P.types.size)) = true)
    (hs : s.fn H ds = { results := [.lit (.bool true)], args := ds })
    (hW : DataW.Whole enc P f.params.toList s.vars false W args.toList ds gs before) (hbel : Below W.heap.size W W') :
    s.post enc P f false true false false W args (.bool true) W' := by
  have hr : ∀ t ∈ f.params.toList, P.readableRec t = true ∧ t < P.types.size := fun t ht => by
    have := List.all_eq_true.1 hr0 t ht
    simpa using this
  have hW' := hW
  obtain ⟨p, q, hA, hV, rfl, hz, hn⟩ := hW
  rw [hvars] at hV
  obtain ⟨rfl, rfl⟩ := trodVars_none hV
  have e : s.fn H (ds ++ []) = { results := [.lit (.bool true)], args := ds } := by rw [List.append_nil]; exact hs
  refine ⟨ds, [], p ++ [], [], p, [], hW', ?_, ?_, ?_, hbel.frame _, fun h => by cases h⟩
  · rw [e, hf]
    exact trodAll_mk1 (shut_bool hb _)
  · rw [e]
    exact trodAll_below hl hbel hr hA (fun x hx => hW'.lt x (by simp [hx]))
  · rw [e, hvars]
    rfl

/-- A slice of integers that reads in a world. -/
structure IntsAt (k : IntKind) (w : World) (v : Value) (ad : Option Addr) (n cap : Nat) : Prop where
  val : v = .slice ad n cap
  len : n ≤ cap
  nil : ad = none → cap = 0
  cap : cap ≤ maxLen
  cells : ∀ j, j < n → ∃ (a : Addr) (x : Int), ad = some a ∧ (Lit.int k x).wf = true ∧ w.cell? (a.add j) = some (.int k x)

theorem ints_at {k : IntKind} {t e : TypeId} {W : World} {r : Reach} {b0 : Nat} {v : Value} {d : DataW H} {ps : List MemPlace} (ht : P.underlying t = some (.slice e)) (he : P.underlying e = some (.int k)) (hc : P.cellsOf e = 1)
    (hval : Value.okWide P W r b0 t v) (h : DataW.Trod enc P W 0 (fun _ => true) true t v d ps) : ∃ ad n cap, IntsAt k W v ad n cap := by
  obtain ⟨a, l, c, rfl⟩ := okWide_slice ht hval
  obtain ⟨fuel, hf⟩ := h
  rcases open_ints ht he hc hf with ⟨h1, _⟩ | ⟨ad, len, cap, zs, h1, _, h3, h4, h5, _, h7, h8⟩
  · have h1' : (Value.slice a l c) = .slice none 0 0 := by simpa [Value.cells] using h1
    exact ⟨_, _, _, h1', Nat.le_refl _, fun _ => rfl, Nat.zero_le _, fun j hj => by omega⟩
  · have h1' : (Value.slice a l c) = .slice (some ad) len cap := by simpa [Value.cells] using h1
    have hz : zs.length = cap := by simpa using h5
    refine ⟨_, _, _, h1', h3, fun h => by simp at h, h4, fun j hj => ⟨ad, zs.getD j 0, rfl, ?_, h7 j (by omega)⟩⟩
    have hj' : j < zs.length := by omega
    rw [List.getD_eq_getElem?_getD, List.getElem?_eq_getElem hj']
    exact h8 _ (by simp)

/-- All memory but one block is as it was; there may be new blocks, and draws. -/
structure Moved (B : Nat) (w w' : World) : Prop where
  os : w'.os = w.os
  tape : w'.tape = w.tape
  output : w'.output = w.output
  size : w.heap.size ≤ w'.heap.size
  block : ∀ k, k < w.heap.size → k ≠ B → w'.heap[k]? = w.heap[k]?

theorem Moved.refl (B : Nat) (w : World) : Moved B w w := ⟨rfl, rfl, rfl, Nat.le_refl _, fun _ _ _ => rfl⟩
theorem Moved.trans {B : Nat} {a b c : World} (h : Moved B a b) (k : Moved B b c) : Moved B a c :=
  ⟨k.os.trans h.os, k.tape.trans h.tape, k.output.trans h.output, Nat.le_trans h.size k.size, fun i hi hB => (k.block i (Nat.lt_of_lt_of_le hi h.size) hB).trans (h.block i hi hB)⟩
theorem Moved.drew {B : Nat} {a w : World} (h : Moved B a w) : Moved B a w.drew := ⟨h.os, h.tape, h.output, h.size, h.block⟩
theorem Moved.alloc {B : Nat} {a w : World} (h : Moved B a w) (o : Obj) : Moved B a (w.alloc o) :=
  h.trans ⟨rfl, rfl, rfl, by simp, fun k hk _ => Below.heap_alloc _ _ _ hk⟩
theorem Moved.setCell {B : Nat} {a w : World} (h : Moved B a w) {p : Addr} (hp : p.block = B) (u : Value) : Moved B a (w.setCell p u) :=
  h.trans ⟨rfl, rfl, rfl, by simp [World.setCell], fun k _ hB => Below.heap_setCell _ _ _ _ (by omega)⟩
theorem Moved.below {B : Nat} {w w' : World} (h : Moved B w w') {n : Nat} (hn : n ≤ w.heap.size) (hB : n ≤ B) : Below n w w' :=
  ⟨h.os, h.tape, h.output, h.size, fun k hk => h.block k (by omega) (by omega)⟩
theorem Moved.of_below {B : Nat} {w w' : World} (h : Below w.heap.size w w') : Moved B w w' := ⟨h.os, h.tape, h.output, h.size, fun k hk _ => h.block k hk⟩
theorem Moved.cell {B : Nat} {w w' : World} (h : Moved B w w') {a : Addr} {v : Value} (hc : w.cell? a = some v) (ha : a.block ≠ B) : w'.cell? a = some v :=
  (World.cell?_of_block (h.block a.block (World.block_lt_of_cell? w a hc) ha)).trans hc
end Go.Proofs.Ytlgmiojlpnoiaaa.Kit
namespace Go.Proofs.Ytlgmiojlpnoiaaa.Bits
open Go.RowKit

theorem and_range (y : Int) (m : Nat) (hm : m < 9223372036854775808) : 0 ≤ bits .and .i64 y (m : Int) ∧ bits .and .i64 y (m : Int) ≤ m := by
  have h : (BitVec.ofInt 64 y &&& BitVec.ofInt 64 (m : Int)).toNat ≤ m := by
    rw [BitVec.toNat_and]
    refine Nat.le_trans Nat.and_le_right ?_
    rw [BitVec.ofInt_natCast, BitVec.toNat_ofNat]
    exact Nat.mod_le _ _
  have e : bits .and .i64 y (m : Int) = IntKind.i64.wrap ((BitVec.ofInt 64 y &&& BitVec.ofInt 64 (m : Int)).toNat : Int) := rfl
  rw [e, IntKind.wrap_i64]
  omega

theorem wrap_range (x : Int) : -9223372036854775808 ≤ wrap64 x ∧ wrap64 x ≤ 9223372036854775807 := by
  unfold wrap64; omega

theorem ofInt_nat (a : Nat) (ha : a < 18446744073709551616) : (BitVec.ofInt 64 (a : Int)).toNat = a := by
  rw [BitVec.ofInt_natCast, BitVec.toNat_ofNat]; omega
/-- Numbers without a common bit: 'or' adds them. -/
theorem or_add (j a b : Nat) (ha : a < 2 ^ j) (hb : b % 2 ^ j = 0) (h : a + b < 9223372036854775808) : bits .or .i64 (a : Int) (b : Int) = ((a + b : Nat) : Int) := by
  have e : bits .or .i64 (a : Int) (b : Int) = IntKind.i64.wrap ((BitVec.ofInt 64 (a : Int) ||| BitVec.ofInt 64 (b : Int)).toNat : Int) := rfl
  rw [e, BitVec.toNat_or, ofInt_nat a (by omega), ofInt_nat b (by omega), Nat.or_comm, nat_join j b a hb ha, IntKind.wrap_i64]
  omega
theorem or128 : ∀ n : Fin 128, bits .or .i64 (n.val : Int) 128 % 256 = ((n.val + 128 : Nat) : Int) := by decide +kernel
/-- 'byte(n&127 | 128)'. -/
theorem low7 (m : Nat) : bits .or .i64 (bits .and .i64 (m : Int) 127) 128 % 256 = ((m % 128 + 128 : Nat) : Int) := by
  rw [i64_and127]
  have h := or128 ⟨m % 128, by omega⟩
  simpa using h
theorem u8or128 : ∀ n : Fin 256, bits .or .u8 (n.val : Int) 128 = ((n.val % 128 + 128 : Nat) : Int) := by decide +kernel
/-- 'byte(n) | 128'. -/
theorem low7b (m : Nat) : bits .or .u8 ((m : Int) % 256) 128 = ((m % 128 + 128 : Nat) : Int) := by
  have h := u8or128 ⟨m % 256, by omega⟩
  have e : m % 256 % 128 = m % 128 := by omega
  simp only [e] at h
  rw [show ((m : Int) % 256) = ((m % 256 : Nat) : Int) by omega]
  exact h
theorem u8not128 : ∀ n : Fin 256, bits .andNot .u8 (n.val : Int) 128 = ((n.val % 128 : Nat) : Int) := by decide +kernel
/-- 'c &^ 128'. -/
theorem not128 (x : Int) (h0 : 0 ≤ x) (h1 : x ≤ 255) : bits .andNot .u8 x 128 = x % 128 := by
  have h := u8not128 ⟨x.toNat, by omega⟩
  simp only [Int.toNat_of_nonneg h0] at h
  rw [h]; omega

theorem pow7 (j : Nat) : (2 : Int) ^ (7 * j) = 128 ^ j := by rw [Int.pow_mul]; rfl
theorem pow128_le {j : Nat} (hj : j ≤ 5) : (1 : Int) ≤ 128 ^ j ∧ (128 : Int) ^ j ≤ 34359738368 := by
  obtain rfl | rfl | rfl | rfl | rfl | rfl : j = 0 ∨ j = 1 ∨ j = 2 ∨ j = 3 ∨ j = 4 ∨ j = 5 := by omega
  all_goals decide
theorem group_le (x : Int) {j : Nat} (hj : j ≤ 5) : 0 ≤ x % 128 * 128 ^ j ∧ x % 128 * 128 ^ j ≤ 127 * 128 ^ j := by
  obtain ⟨h1, _⟩ := pow128_le hj
  exact ⟨Int.mul_nonneg (by omega) (by omega), Int.mul_le_mul_of_nonneg_right (by omega) (by omega)⟩
/-- One more group of seven bits: 'n | (x & 127) << (7 * j)'. -/
theorem group (acc x : Int) (j : Nat) (hj : j ≤ 5) (h0 : 0 ≤ acc) (h1 : acc < 128 ^ j) : bits .or .i64 acc (wrap64 (bits .and .i64 x 127 * 2 ^ (7 * j))) = acc + x % 128 * 128 ^ j := by
  rw [i64_and127, pow7]
  obtain ⟨q1, q2⟩ := pow128_le hj
  obtain ⟨g1, g2⟩ := group_le x hj
  have hd : (x % 128 * 128 ^ j).toNat % 2 ^ (7 * j) = 0 := by
    have e1 : ((x % 128 * 128 ^ j).toNat : Int) = ((x % 128).toNat * 2 ^ (7 * j) : Nat) := by
      rw [Int.toNat_of_nonneg g1, Int.natCast_mul, Int.toNat_of_nonneg (by omega), Int.natCast_pow]
      congr 1
      exact (pow7 j).symm
    have e2 : (x % 128 * 128 ^ j).toNat = (x % 128).toNat * 2 ^ (7 * j) := by exact_mod_cast e1
    rw [e2, Nat.mul_mod_left]
  have ha : acc.toNat < 2 ^ (7 * j) := by
    have e1 : ((2 ^ (7 * j) : Nat) : Int) = 128 ^ j := by rw [Int.natCast_pow]; exact pow7 j
    omega
  generalize hy : x % 128 * 128 ^ j = y at g1 g2 hd
  clear hy
  have hw : wrap64 y = y := by unfold wrap64; omega
  rw [hw]
  have h := or_add (7 * j) acc.toNat y.toNat ha hd (by omega)
  rw [Int.toNat_of_nonneg h0, Int.toNat_of_nonneg g1] at h
  rw [h]
  omega
/-- The same of 'n | int(c &^ 128) << (7 * j)'. -/
theorem group2 (acc x : Int) (j : Nat) (hj : j ≤ 5) (h0 : 0 ≤ acc) (h1 : acc < 128 ^ j) (hx0 : 0 ≤ x) (hx1 : x ≤ 255) : bits .or .i64 acc (wrap64 (wrap64 (bits .andNot .u8 x 128) * 2 ^ (7 * j))) = acc + x % 128 * 128 ^ j := by
  have e : wrap64 (bits .andNot .u8 x 128) = bits .and .i64 x 127 := by
    rw [i64_and127, not128 x hx0 hx1]; unfold wrap64; omega
  rw [e]
  exact group acc x j hj h0 h1
theorem group_lt {acc x : Int} {j : Nat} (hj : j ≤ 5) (h0 : 0 ≤ acc) (h1 : acc < 128 ^ j) : 0 ≤ acc + x % 128 * 128 ^ j ∧ acc + x % 128 * 128 ^ j < 128 ^ (j + 1) ∧ acc + x % 128 * 128 ^ j ≤ 4398046511104 := by
  obtain ⟨q1, q2⟩ := pow128_le hj
  obtain ⟨g1, g2⟩ := group_le x hj
  rw [Int.pow_succ]
  omega
end Go.Proofs.Ytlgmiojlpnoiaaa.Bits
namespace Go.Proofs.Ytlgmiojlpnoiaaa.Seq
open Go.RowKit

/-- A number of a kind. -/
def Fits (k : IntKind) (x : Int) : Prop := (Lit.int k x).wf = true
theorem fits_u8 {x : Int} : Fits .u8 x ↔ 0 ≤ x ∧ x ≤ 255 := by simp [Fits, Lit.wf, IntKind.min, IntKind.max, IntKind.signed, IntKind.bits]
theorem fits_i64 {x : Int} : Fits .i64 x ↔ -9223372036854775808 ≤ x ∧ x ≤ 9223372036854775807 := by simp [Fits, Lit.wf, IntKind.min, IntKind.max, IntKind.signed, IntKind.bits]

/-- All memory but the blocks from l up to (not with) h is as it was; there may be new blocks, and draws. -/
structure Mv (w w' : World) (l h : Nat) : Prop where
  os : w'.os = w.os
  tape : w'.tape = w.tape
  output : w'.output = w.output
  size : w.heap.size ≤ w'.heap.size
  block : ∀ k, k < w.heap.size → (k < l ∨ h ≤ k) → w'.heap[k]? = w.heap[k]?

section
variable {a w w' : World} {l h l' h' B : Nat}
theorem Mv.refl (w : World) (l h : Nat) : Mv w w l h := ⟨rfl, rfl, rfl, Nat.le_refl _, fun _ _ _ => rfl⟩
theorem Mv.trans (x : Mv a w l h) (y : Mv w w' l h) : Mv a w' l h :=
  ⟨y.os.trans x.os, y.tape.trans x.tape, y.output.trans x.output, Nat.le_trans x.size y.size, fun k hk ho => (y.block k (Nat.lt_of_lt_of_le hk x.size) ho).trans (x.block k hk ho)⟩
theorem Mv.mono (x : Mv w w' l h) (h1 : l' ≤ l) (h2 : h ≤ h') : Mv w w' l' h' := ⟨x.os, x.tape, x.output, x.size, fun k hk ho => x.block k hk (by omega)⟩
theorem Mv.of_below (x : Below B w w') (hB : w.heap.size ≤ B) : Mv w w' l h := ⟨x.os, x.tape, x.output, x.size, fun k hk _ => x.block k (by omega)⟩
theorem Mv.below (x : Mv w w' l h) (hB : B ≤ l) (hs : B ≤ w.heap.size) : Below B w w' := ⟨x.os, x.tape, x.output, x.size, fun k hk => x.block k (by omega) (by omega)⟩
theorem Mv.drew (x : Mv a w l h) : Mv a w.drew l h := ⟨x.os, x.tape, x.output, x.size, x.block⟩
theorem Mv.drewN (x : Mv a w l h) (n : Nat) : Mv a (w.drewN n) l h := ⟨x.os, x.tape, x.output, x.size, x.block⟩
theorem Mv.alloc (x : Mv a w l h) (o : Obj) : Mv a (w.alloc o) l h := x.trans ⟨rfl, rfl, rfl, by simp, fun k hk _ => Below.heap_alloc _ _ _ hk⟩
theorem Mv.setCell (x : Mv a w l h) {p : Addr} (h1 : l ≤ p.block) (h2 : p.block < h) (u : Value) : Mv a (w.setCell p u) l h :=
  x.trans ⟨rfl, rfl, rfl, by simp [World.setCell], fun k _ ho => Below.heap_setCell _ _ _ _ (by omega)⟩
theorem below_drewN (x : Below B a w) (n : Nat) : Below B a (w.drewN n) := ⟨x.os, x.tape, x.output, x.size, x.block⟩
end

theorem add_block (a : Addr) (j : Nat) : (a.add j).block = a.block := by unfold Addr.add; split <;> rfl
theorem add_add (a : Addr) (i j : Nat) : (a.add i).add j = a.add (i + j) := by
  unfold Addr.add
  by_cases hi : i = 0 <;> by_cases hj : j = 0 <;> simp [hi, hj, Nat.add_assoc]

/-- The slice with this address, length and capacity reads as the list xs; its cells lie in blocks from l up to (not with) h. -/
structure Sl (w : World) (l h : Nat) (k : IntKind) (ad : Option Addr) (n cap : Nat) (xs : List Int) : Prop where
  len : xs.length = n
  le : n ≤ cap
  big : cap ≤ maxLen
  nil : ad = none → cap = 0
  fits : ∀ x ∈ xs, Fits k x
  cells : ∀ j x, xs[j]? = some x → ∃ a, ad = some a ∧ l ≤ a.block ∧ a.block < h ∧ w.cell? (a.add j) = some (.int k x)

/-- One element: its number, and where it lies. -/
structure At (w : World) (l h : Nat) (k : IntKind) (a : Addr) (xs : List Int) (j : Nat) (x : Int) : Prop where
  get : xs[j]? = some x
  fits : Fits k x
  lo : l ≤ a.block
  hi : a.block < h

section
variable {w w' : World} {l h l' h' : Nat} {k : IntKind} {ad : Option Addr} {n cap : Nat} {xs ys : List Int}
theorem Sl.at_ (s : Sl w l h k ad n cap xs) {j : Nat} (hj : j < n) : ∃ a x, ad = some a ∧ At w l h k a xs j x ∧ w.cell? (a.add j) = some (.int k x) := by
  have hl : j < xs.length := by rw [s.len]; exact hj
  obtain ⟨a, e, h1, h2, h3⟩ := s.cells j xs[j] (List.getElem?_eq_getElem hl)
  exact ⟨a, xs[j], e, ⟨List.getElem?_eq_getElem hl, s.fits _ (List.getElem_mem hl), h1, h2⟩, h3⟩
theorem Sl.keep (s : Sl w l h k ad n cap xs) (hk : ∀ p : Addr, l ≤ p.block → p.block < h → ∀ u, w.cell? p = some u → w'.cell? p = some u) : Sl w' l h k ad n cap xs :=
  ⟨s.len, s.le, s.big, s.nil, s.fits, fun j x hx => by
    obtain ⟨a, e, h1, h2, h3⟩ := s.cells j x hx
    exact ⟨a, e, h1, h2, hk _ (by rw [add_block]; exact h1) (by rw [add_block]; exact h2) _ h3⟩⟩
theorem Sl.mv (s : Sl w l h k ad n cap xs) (m : Mv w w' l' h') (hd : h ≤ l' ∨ h' ≤ l) : Sl w' l h k ad n cap xs :=
  s.keep fun p h1 h2 u hu => (World.cell?_of_block (m.block p.block (World.block_lt_of_cell? w p hu) (by omega))).trans hu
theorem Sl.below {B : Nat} (s : Sl w l h k ad n cap xs) (m : Below B w w') (hB : h ≤ B ∨ w.heap.size ≤ B) : Sl w' l h k ad n cap xs :=
  s.keep fun p h1 h2 u hu => (m.cell (by have := World.block_lt_of_cell? w p hu; omega)).trans hu
theorem Sl.mono (s : Sl w l h k ad n cap xs) (h1 : l' ≤ l) (h2 : h ≤ h') : Sl w l' h' k ad n cap xs :=
  ⟨s.len, s.le, s.big, s.nil, s.fits, fun j x hx => by
    obtain ⟨a, e, g1, g2, g3⟩ := s.cells j x hx
    exact ⟨a, e, by omega, by omega, g3⟩⟩
theorem Sl.drewN (s : Sl w l h k ad n cap xs) (m : Nat) : Sl (w.drewN m) l h k ad n cap xs := ⟨s.len, s.le, s.big, s.nil, s.fits, s.cells⟩
theorem Sl.alloc (s : Sl w l h k ad n cap xs) (o : Obj) : Sl (w.alloc o) l h k ad n cap xs := s.mv ((Mv.refl w 0 0).alloc o) (.inr (Nat.zero_le _))
theorem Sl.lt {B : Nat} (s : Sl w l h k ad n cap xs) (hB : w.heap.size ≤ B) : Sl w l B k ad n cap xs :=
  ⟨s.len, s.le, s.big, s.nil, s.fits, fun j x hx => by
    obtain ⟨a, e, g1, g2, g3⟩ := s.cells j x hx
    have := World.block_lt_of_cell? w _ g3
    rw [add_block] at this
    exact ⟨a, e, g1, by omega, g3⟩⟩

/-- A part of it. -/
theorem Sl.cut (s : Sl w l h k ad n cap xs) {i m c : Nat} (h1 : i + m ≤ n) (h2 : m ≤ c) (h3 : i + c ≤ cap) :
    Sl w l h k (if cap = i then ad else ad.map (·.add i)) m c ((xs.drop i).take m) := by
  have hl := s.len
  refine ⟨by rw [List.length_take, List.length_drop]; omega, h2, by have := s.big; omega, ?_, ?_, ?_⟩
  · intro hn
    by_cases hc : cap = i
    · omega
    · rw [if_neg hc] at hn
      have := s.nil (by simpa using hn)
      omega
  · exact fun x hx => s.fits x (List.mem_of_mem_drop (List.mem_of_mem_take hx))
  · intro j x hx
    rw [List.getElem?_take] at hx
    split at hx
    · rw [List.getElem?_drop] at hx
      obtain ⟨a, rfl, g1, g2, g3⟩ := s.cells _ _ hx
      rw [if_neg (by omega)]
      exact ⟨a.add i, rfl, by rw [add_block]; exact g1, by rw [add_block]; exact g2, by rw [add_add]; exact g3⟩
    · cases hx

theorem of_ints {v : Value} (s : Kit.IntsAt k w v ad n cap) : ∃ xs, v = .slice ad n cap ∧ Sl w 0 w.heap.size k ad n cap xs := by
  have hx : ∀ m, m ≤ n → ∃ xs : List Int, xs.length = m ∧ (∀ x ∈ xs, Fits k x) ∧ ∀ j x, xs[j]? = some x → ∃ a, ad = some a ∧ w.cell? (a.add j) = some (.int k x) := by
    intro m
    induction m with
    | zero => exact fun _ => ⟨[], rfl, by simp, by simp⟩
    | succ m ih =>
      intro hm
      obtain ⟨xs, h1, h2, h3⟩ := ih (by omega)
      obtain ⟨a, x, e, hw, hc⟩ := s.cells m (by omega)
      refine ⟨xs ++ [x], by simp [h1], ?_, ?_⟩
      · intro y hy
        rcases List.mem_append.1 hy with hy | hy
        · exact h2 y hy
        · obtain rfl : y = x := by simpa using hy
          exact hw
      · intro j y hy
        by_cases hj : j < xs.length
        · rw [List.getElem?_append_left hj] at hy
          exact h3 j y hy
        · rw [List.getElem?_append_right (by omega)] at hy
          have hj0 : j - xs.length = 0 := by
            rcases Nat.eq_zero_or_pos (j - xs.length) with h | h
            · exact h
            · rw [List.getElem?_eq_none (by simp; omega)] at hy; cases hy
          rw [hj0] at hy
          obtain rfl : x = y := by simpa using hy
          obtain rfl : j = m := by omega
          exact ⟨a, e, hc⟩
  obtain ⟨xs, h1, h2, h3⟩ := hx n (Nat.le_refl _)
  refine ⟨xs, s.val, h1, s.len, s.cap, s.nil, h2, fun j x hj => ?_⟩
  obtain ⟨a, e, hc⟩ := h3 j x hj
  have := World.block_lt_of_cell? w _ hc
  rw [add_block] at this
  exact ⟨a, e, Nat.zero_le _, this, hc⟩
end

/-- A slice that the call itself has made: its block is one of those from l up to (not with) h, not frozen; or it has no room at all. -/
structure Row (w : World) (l h : Nat) (k : IntKind) (e : TypeId) (ad : Option Addr) (n cap : Nat) (xs : List Int) : Prop where
  len : xs.length = n
  le : n ≤ cap
  big : cap ≤ maxLen
  fits : ∀ x ∈ xs, Fits k x
  own : (n = 0 ∧ cap = 0) ∨ ∃ g, ad = some ⟨g, 0, none⟩ ∧ l ≤ g ∧ g < h ∧ w.ownsRow l e 1 (.slice ad n cap) n (xs.map (.int k))

section
variable {w w' : World} {l h l' h' : Nat} {k : IntKind} {e : TypeId} {ad : Option Addr} {n cap : Nat} {xs ys : List Int}
theorem Row.sl (r : Row w l h k e ad n cap xs) : Sl w l h k ad n cap xs := by
  refine ⟨r.len, r.le, r.big, ?_, r.fits, ?_⟩
  · intro hn
    rcases r.own with ⟨_, h⟩ | ⟨g, h, _⟩
    · exact h
    · rw [hn] at h; cases h
  · intro j x hx
    rcases r.own with ⟨h0, _⟩ | ⟨g, rfl, h1, h2, h3⟩
    · have := r.len
      rw [List.getElem?_eq_none (by omega)] at hx; cases hx
    · exact ⟨_, rfl, h1, h2, h3.cells (g := g) rfl j _ (by rw [List.getElem?_map, hx]; rfl)⟩
theorem Row.mono (r : Row w l h k e ad n cap xs) (h2 : h ≤ h') : Row w l h' k e ad n cap xs :=
  ⟨r.len, r.le, r.big, r.fits, r.own.imp id fun ⟨g, a, b, c, d⟩ => ⟨g, a, b, by omega, d⟩⟩
theorem owns_keep {base size : Nat} {v : Value} {us : List Value} (o : w.ownsRow base e size v n us) (hb : ∀ g, v.ownBlock = some g → w'.heap[g]? = w.heap[g]?) : w'.ownsRow base e size v n us := by
  refine ⟨o.1, ?_⟩
  rcases o.2 with hn | ⟨g, c, cur, rfl, h1, h2, r⟩
  · exact .inl hn
  · exact .inr ⟨g, c, cur, rfl, h1, by rw [hb g rfl]; exact h2, r⟩
theorem owns_lt {base size : Nat} {us : List Value} {g : Nat} {c : Nat} (o : w.ownsRow base e size (.slice (some ⟨g, 0, none⟩) n c) n us) : g < w.heap.size := (o.lt g rfl).2
theorem owns_base {base base' size : Nat} {us : List Value} {g : Nat} {c : Nat} (o : w.ownsRow base e size (.slice (some ⟨g, 0, none⟩) n c) n us) (hb : base' ≤ g) : w.ownsRow base' e size (.slice (some ⟨g, 0, none⟩) n c) n us := by
  refine ⟨o.1, ?_⟩
  rcases o.2 with ⟨hn, _⟩ | ⟨g', c', cur, hv, h1, h2, r⟩
  · simp at hn
  · have hv' := hv
    simp only [Value.slice.injEq, Option.some.injEq, Addr.mk.injEq, and_true, true_and] at hv
    obtain ⟨rfl, rfl⟩ := hv
    exact .inr ⟨g, c, cur, rfl, hb, h2, r⟩
theorem Row.mv (r : Row w l h k e ad n cap xs) (m : Mv w w' l' h') (hd : h ≤ l' ∨ h' ≤ l) : Row w' l h k e ad n cap xs :=
  ⟨r.len, r.le, r.big, r.fits, r.own.imp id fun ⟨g, a, b, c, d⟩ => ⟨g, a, b, c, by
    subst a
    exact owns_keep d fun g' hg => by
      obtain rfl : g = g' := by simpa [Value.ownBlock] using hg
      exact m.block g (owns_lt d) (by omega)⟩⟩
theorem Row.below {B : Nat} (r : Row w l h k e ad n cap xs) (m : Below B w w') (hB : h ≤ B ∨ w.heap.size ≤ B) : Row w' l h k e ad n cap xs :=
  ⟨r.len, r.le, r.big, r.fits, r.own.imp id fun ⟨g, a, b, c, d⟩ => ⟨g, a, b, c, by
    subst a
    exact owns_keep d fun g' hg => by
      obtain rfl : g = g' := by simpa [Value.ownBlock] using hg
      exact m.block g (by have := owns_lt d; omega)⟩⟩
theorem Row.drewN (r : Row w l h k e ad n cap xs) (m : Nat) : Row (w.drewN m) l h k e ad n cap xs := ⟨r.len, r.le, r.big, r.fits, r.own⟩
theorem Row.alloc (r : Row w l h k e ad n cap xs) (o : Obj) : Row (w.alloc o) l h k e ad n cap xs := r.mv ((Mv.refl w 0 0).alloc o) (.inr (Nat.zero_le _))
theorem Row.nil (w : World) (l h : Nat) (k : IntKind) (e : TypeId) (ad : Option Addr) : Row w l h k e ad 0 0 [] := ⟨rfl, Nat.le_refl _, Nat.zero_le _, by simp, .inl ⟨rfl, rfl⟩⟩
theorem Row.lo (r : Row w l h k e ad n cap xs) (hl : l' ≤ l) : Row w l' h k e ad n cap xs :=
  ⟨r.len, r.le, r.big, r.fits, r.own.imp id fun ⟨g, a, b, c, d⟩ => ⟨g, a, by omega, c, by subst a; exact owns_base d (by omega)⟩⟩

theorem Row.lt (r : Row w l h k e ad n cap xs) : Row w l w.heap.size k e ad n cap xs :=
  ⟨r.len, r.le, r.big, r.fits, r.own.imp id fun ⟨g, a, b, c, d⟩ => ⟨g, a, b, by subst a; exact owns_lt d, d⟩⟩

/-- A new block that holds a list. -/
theorem Row.new (w : World) (k : IntKind) (e : TypeId) (xs : List Int) (n : Nat) (hn : xs.length = n) (hm : n ≤ maxLen) (hf : ∀ x ∈ xs, Fits k x) :
    Row (w.alloc (.cells (xs.map (.int k)).toArray e)) w.heap.size (w.heap.size + 1) k e (some ⟨w.heap.size, 0, none⟩) n n xs := by
  refine ⟨hn, Nat.le_refl _, hm, hf, .inr ⟨w.heap.size, rfl, Nat.le_refl _, Nat.lt_succ_self _, ?_⟩⟩
  have h := World.ownsRow_lit (base := w.heap.size) (e := e) (size := 1) w (xs.map (.int k)).toArray n (Nat.le_refl _) hm (by simp [hn])
  simpa using h

theorem Row.pos (r : Row w l h k e ad n cap xs) (hn : 0 < n) : ∃ g, ad = some ⟨g, 0, none⟩ ∧ l ≤ g ∧ g < h := by
  rcases r.own with ⟨h0, _⟩ | ⟨g, h1, h2, h3, _⟩
  · omega
  · exact ⟨g, h1, h2, h3⟩
theorem Row.free {g j : Nat} (r : Row w l h k e (some ⟨g, 0, none⟩) n cap xs) (hj : j < n) : w.frozen? ⟨g, j, none⟩ = false := by
  rcases r.own with ⟨h0, _⟩ | ⟨g', h1, h2, h3, h4⟩
  · omega
  · exact h4.frozenAt j
theorem Row.cell {g j : Nat} {x : Int} (r : Row w l h k e (some ⟨g, 0, none⟩) n cap xs) (hx : xs[j]? = some x) : w.cell? ⟨g, j, none⟩ = some (.int k x) := by
  obtain ⟨a, ha, _, _, h3⟩ := r.sl.cells j x hx
  obtain rfl := Option.some.inj ha
  rw [Addr.add_lit, Nat.zero_add] at h3
  exact h3
theorem Row.there {g j : Nat} (r : Row w l h k e (some ⟨g, 0, none⟩) n cap xs) (hj : j < n) : ∃ x, xs[j]? = some x ∧ Fits k x ∧ w.cell? ⟨g, j, none⟩ = some (.int k x) ∧ w.frozen? ⟨g, j, none⟩ = false := by
  have hl : j < xs.length := by rw [r.len]; exact hj
  exact ⟨xs[j], List.getElem?_eq_getElem hl, r.fits _ (List.getElem_mem hl), r.cell (List.getElem?_eq_getElem hl), r.free hj⟩
theorem Row.set {g j : Nat} {x : Int} (r : Row w l h k e (some ⟨g, 0, none⟩) n cap xs) (hj : j < n) (hx : Fits k x) :
    Row (w.setCell ⟨g, j, none⟩ (.int k x)) l h k e (some ⟨g, 0, none⟩) n cap (xs.set j x) ∧ Mv w (w.setCell ⟨g, j, none⟩ (.int k x)) l h := by
  rcases r.own with ⟨h0, _⟩ | ⟨g', h1, h2, h3, h4⟩
  · omega
  · obtain rfl : g = g' := by simpa using h1
    obtain ⟨o, m⟩ := h4.stored j (.int k x)
    refine ⟨⟨by rw [List.length_set]; exact r.len, r.le, r.big, ?_, .inr ⟨g, rfl, h2, h3, by rw [List.map_set]; exact o⟩⟩, (Mv.refl _ _ _).setCell h2 h3 _⟩
    intro y hy
    rcases List.mem_or_eq_of_mem_set hy with h | rfl
    · exact r.fits y h
    · exact hx

/-- What 'append' does: the source is any slice that reads. -/
theorem run_app {P : Program} {t ty : TypeId} {i : TypeInfo} {z : Value} {bytes : Nat} (ht : P.underlying t = some (.slice e)) (hi : P.info? e = some i) (hz : i.zero = some z) (hs : i.size = 1) (hb : i.bytes = bytes) (hzs : z.cells.size = 1)
    (r : Row w l h k e ad n cap xs) {l1 h1 m c : Nat} {A : Option Addr} (s : Sl w l1 h1 k A m c ys) (h63 : n + m ≤ maxLen) (hby : (n + m) * bytes ≤ 140737488355328) (hl : l ≤ w.heap.size) :
    ∃ ad' cap' w', (Builtin.append_ #[t, t] ty #[.slice ad n cap, .slice A m c]).run P w = .ok (.slice ad' (n + m) cap') w' ∧ Row w' l w'.heap.size k e ad' (n + m) cap' (xs ++ ys) ∧ Mv w w' l h := by
  have hf : ∀ x ∈ xs ++ ys, Fits k x := fun x hx => (List.mem_append.1 hx).elim (r.fits x) (s.fits x)
  have hlen : (xs ++ ys).length = n + m := by rw [List.length_append, r.len, s.len]
  have hys : (ys.map (Value.int k)).length = m * 1 := by rw [List.length_map, s.len, Nat.mul_one]
  have one : ∀ u ∈ ys.map (Value.int k), u.oneCell' = true := ints_oneCell k ys
  have fin : ∀ v' w', w'.ownsRow l e 1 v' (n + m) ((xs ++ ys).map (.int k)) → ∃ ad' cap', v' = .slice ad' (n + m) cap' ∧ Row w' l w'.heap.size k e ad' (n + m) cap' (xs ++ ys) := by
    intro v' w' o
    rcases o.2 with ⟨rfl, h0⟩ | ⟨g, c', cur, rfl, g1, g2, g3, g4, g5⟩
    · exact ⟨none, 0, by rw [h0], ⟨hlen, by omega, Nat.zero_le _, hf, .inl ⟨h0, rfl⟩⟩⟩
    · exact ⟨_, c', rfl, hlen, g3, g4, hf, .inr ⟨g, rfl, g1, owns_lt o, o⟩⟩
  have src : ∀ a, A = some a → ∀ j u, (ys.map (Value.int k))[j]? = some u → w.cell? (a.add j) = some u := by
    intro a ha j u hu
    rw [List.getElem?_map] at hu
    obtain ⟨x, hx, rfl⟩ := Option.map_eq_some_iff.1 hu
    obtain ⟨a', e', _, _, hc⟩ := s.cells j x hx
    rw [ha] at e'
    obtain rfl := Option.some.inj e'
    exact hc
  cases A with
  | none =>
    have hc0 := s.nil rfl
    have hm0 : m = 0 := by have := s.le; omega
    subst hc0
    subst hm0
    have hy0 : ys = [] := List.eq_nil_of_length_eq_zero s.len
    subst hy0
    refine ⟨ad, cap, w, ?_, by rw [List.append_nil]; exact r.lt, Mv.refl _ _ _⟩
    rcases r.own with ⟨rfl, rfl⟩ | ⟨g, rfl, g1, g2, o⟩
    · simp [Builtin.append_, run_underlying ht, sizeOf, typeInfo, hi, Builtin.lenOf, Builtin.firstCells]
      cases ad <;> simp [storeCells]
    · exact run_append_owned_none w l t ty e i 1 ht hi _ n _ o
  | some a =>
    rcases r.own with ⟨rfl, rfl⟩ | ⟨g, rfl, g1, g2, o⟩
    · have hx0 : xs = [] := List.eq_nil_of_length_eq_zero r.len
      subst hx0
      by_cases hm : m = 0
      · subst hm
        have hy0 : ys = [] := List.eq_nil_of_length_eq_zero s.len
        subst hy0
        refine ⟨ad, 0, w, ?_, Row.nil _ _ _ _ _ _, Mv.refl _ _ _⟩
        simp [Builtin.append_, run_underlying ht, sizeOf, typeInfo, hi, Builtin.lenOf, Builtin.firstCells, loadCells, loadCellsFrom]
        cases ad <;> simp [storeCells]
      · cases ad with
        | none =>
          obtain ⟨v', w', hr, ho, hg, _⟩ := run_append_own (P := P) w l t ty e i z 1 bytes ht hi hz hs hb hzs (by decide) (.slice none 0 0) 0 [] (World.ownsRow_nil w _ e 1) a m c _ hys (src a rfl) one h63 hby hl
          obtain ⟨ad', cap', rfl, hrow⟩ := fin v' w' (by simpa using ho)
          exact ⟨ad', cap', w', hr, hrow, ⟨hg.os, hg.tape, hg.output, hg.size, fun k hk _ => hg.block k hk (by simp [Value.ownBlock])⟩⟩
        | some b =>
          obtain ⟨v', w', hr, ho, hg⟩ := run_append_arg_grows (P := P) w t ty e i z 1 bytes ht hi hz hs hb hzs (by decide) b 0 0 [] rfl (by simp) a m c _ hys (src a rfl) (by omega) h63 hby
          have hsz := (ho.lt)
          obtain ⟨ad', cap', rfl, hrow⟩ := fin v' w' (by
            rcases ho.2 with ⟨rfl, h0⟩ | ⟨g, c', cur, rfl, q1, q2, q3⟩
            · omega
            · have := owns_base (base' := l) ho (by omega)
              simpa using this)
          exact ⟨ad', cap', w', hr, hrow, ⟨hg.os, hg.tape, hg.output, hg.size, fun k hk _ => hg.block k hk (by simp)⟩⟩
    · obtain ⟨v', w', hr, ho, hg, _⟩ := run_append_own (P := P) w l t ty e i z 1 bytes ht hi hz hs hb hzs (by decide) (.slice (some ⟨g, 0, none⟩) n cap) n _ o a m c _ hys (src a rfl) one h63 hby hl
      obtain ⟨ad', cap', rfl, hrow⟩ := fin v' w' (by rw [List.map_append]; exact ho)
      exact ⟨ad', cap', w', hr, hrow, ⟨hg.os, hg.tape, hg.output, hg.size, fun k hk hk2 => hg.block k hk (by simp [Value.ownBlock]; omega)⟩⟩
end

/-- 'append', as the walk meets it. 'hinfo': the element type's row of the table. -/
theorem wpList_app {P : Program} {w : World} {ops : Array Oper} {rest : List Oper} {o : Oper} {a : Act} {Q : Exit → Act → World → Prop} {l h : Nat} {k : IntKind} {e : TypeId} {ad : Option Addr} {n cap : Nat} {xs ys : List Int}
    {l1 h1 m c : Nat} {A : Option Addr} (r : Row w l h k e ad n cap xs) (s : Sl w l1 h1 k A m c ys) {t : TypeId} (ht : P.underlying t = some (.slice e)) {x0 : Int} {bytes : Nat}
    (hinfo : (P.info? e).map (fun i => (i.zero, i.size, i.bytes)) = some (some (.int k x0), 1, bytes)) (h63 : n + m ≤ maxLen) (hby : (n + m) * bytes ≤ 140737488355328) (hl : l ≤ w.heap.size)
    (hg : o.guard = none) (p q : Operand) (hop : o.op = Op.call { callee := Callee.builtin Builtin.append, args := #[p, q], argTypes := #[t, t] }) (hp : a.eval p = .slice ad n cap) (hq : a.eval q = .slice A m c)
    (hK : ∀ ad' cap' w', Row w' l w'.heap.size k e ad' (n + m) cap' (xs ++ ys) → Mv w w' l h → wpList P ops Q rest (a.put o.dst (.slice ad' (n + m) cap')) w') : wpList P ops Q (o :: rest) a w := by
  obtain ⟨i, hi, hz, hs, hb⟩ := info_parts hinfo
  refine wpList_plain hg fun K hK' => ?_
  obtain ⟨ad', cap', w', hrun, hr, hm⟩ := run_app (P := P) (t := t) (ty := o.type) ht hi hz hs hb rfl r s h63 hby hl
  unfold Oper.wp
  simp [execOp, hop, resolve, invoke, builtin, hp, hq, hrun, Result.andThen]
  exact hK' _ _ (hK ad' cap' w' hr hm)

/-- 'append' under a guard that says yes, as the walk meets it. -/
theorem wpList_appG {P : Program} {w : World} {ops : Array Oper} {rest : List Oper} {o : Oper} {a : Act} {Q : Exit → Act → World → Prop} {l h : Nat} {k : IntKind} {e : TypeId} {ad : Option Addr} {n cap : Nat} {xs ys : List Int}
    {l1 h1 m c : Nat} {A : Option Addr} (r : Row w l h k e ad n cap xs) (s : Sl w l1 h1 k A m c ys) {t : TypeId} (ht : P.underlying t = some (.slice e)) {x0 : Int} {bytes : Nat}
    (hinfo : (P.info? e).map (fun i => (i.zero, i.size, i.bytes)) = some (some (.int k x0), 1, bytes)) (h63 : n + m ≤ maxLen) (hby : (n + m) * bytes ≤ 140737488355328) (hl : l ≤ w.heap.size)
    (hw : Region.wanted o (yielded ops a.tmps) = true) (p q : Operand) (hop : o.op = Op.call { callee := Callee.builtin Builtin.append, args := #[p, q], argTypes := #[t, t] }) (hp : a.eval p = .slice ad n cap) (hq : a.eval q = .slice A m c)
    (hK : ∀ ad' cap' w', Row w' l w'.heap.size k e ad' (n + m) cap' (xs ++ ys) → Mv w w' l h → wpList P ops Q rest (a.put o.dst (.slice ad' (n + m) cap')) w') : wpList P ops Q (o :: rest) a w := by
  obtain ⟨i, hi, hz, hs, hb⟩ := info_parts hinfo
  refine wpList_step fun K hK' => ?_
  rw [if_pos hw]
  obtain ⟨ad', cap', w', hrun, hr, hm⟩ := run_app (P := P) (t := t) (ty := o.type) ht hi hz hs hb rfl r s h63 hby hl
  unfold Oper.wp
  simp [execOp, hop, resolve, invoke, builtin, hp, hq, hrun, Result.andThen]
  exact hK' _ _ (hK ad' cap' w' hr hm)

/-- 'append' at a step of a region that draws its order. -/
theorem step_app {P : Program} {w : World} {ops : Array Oper} {o : Oper} {a : Act} {K : Act → World → Prop} {Q : Exit → Act → World → Prop} {E : Prop} {l h l1 h1 : Nat} {k : IntKind} {e : TypeId} {ad A : Option Addr} {n cap m c : Nat} {xs ys : List Int} {t : TypeId}
    (r : Row w l h k e ad n cap xs) (s : Sl w l1 h1 k A m c ys) (ht : P.underlying t = some (.slice e)) {bytes : Nat}
    (hinfo : (P.info? e).map (fun i => (i.zero, i.size, i.bytes)) = some (some (.int k 0), 1, bytes)) (h63 : n + m ≤ maxLen) (hby : (n + m) * bytes ≤ 140737488355328) (hl : l ≤ w.heap.size)
    (hg : o.guard = none) (p q : Operand) (hop : o.op = Op.call { callee := Callee.builtin Builtin.append, args := #[p, q], argTypes := #[t, t] }) (hp : a.eval p = .slice ad n cap) (hq : a.eval q = .slice A m c)
    (hK : ∀ ad' cap' w', Row w' l w'.heap.size k e ad' (n + m) cap' (xs ++ ys) → Mv w w' l h → K (a.put o.dst (.slice ad' (n + m) cap')) w') :
    if Region.wanted o (yielded ops a.tmps) = true then Oper.wp P o a w K Q else E := by
  have hw : Region.wanted o (yielded ops a.tmps) = true := by simp [Region.wanted, hg]
  rw [if_pos hw]
  obtain ⟨i, hi, hz, hs, hb⟩ := info_parts hinfo
  obtain ⟨ad', cap', w', hrun, hr, hm⟩ := run_app (P := P) (t := t) (ty := o.type) ht hi hz hs hb rfl r s h63 hby hl
  unfold Oper.wp
  simp [execOp, hop, resolve, invoke, builtin, hp, hq, hrun, Result.andThen]
  exact hK _ _ _ hr hm

/-- The block of one element that 'append(out, x)' lays first. -/
theorem one (w : World) (k : IntKind) (e : TypeId) (x : Int) (hx : Fits k x) : Sl (w.alloc (.cells #[.int k x] e)) w.heap.size (w.heap.size + 1) k (some ⟨w.heap.size, 0, none⟩) 1 1 [x] :=
  (Row.new w k e [x] 1 rfl (by decide) (by simpa using hx)).sl

/-- 'make([]T, n)', as the walk meets it. -/
theorem wpList_mk {P : Program} {w : World} {ops : Array Oper} {rest : List Oper} {o : Oper} {a : Act} {Q : Exit → Act → World → Prop} {k : IntKind} {e : TypeId} {n : Nat} {t : TypeId} (ht : P.underlying t = some (.slice e)) {bytes : Nat}
    (hinfo : (P.info? e).map (fun i => (i.zero, i.size, i.bytes)) = some (some (.int k 0), 1, bytes)) (hk : Fits k 0) (h63 : n ≤ maxLen) (hby : bytes * n ≤ 281474976710656)
    (hg : o.guard = none) (p q : Operand) (hop : o.op = Op.makeSlice t p q) {kl kc : IntKind} (hp : a.eval p = .int kl (n : Int)) (hq : a.eval q = .int kc (n : Int))
    (hK : ∀ w', Row w' w.heap.size w'.heap.size k e (some ⟨w.heap.size, 0, none⟩) n n (List.replicate n 0) → Below w.heap.size w w' → wpList P ops Q rest (a.put o.dst (.slice (some ⟨w.heap.size, 0, none⟩) n n)) w') : wpList P ops Q (o :: rest) a w := by
  obtain ⟨i, hi, hz, hs, hb⟩ := info_parts hinfo
  refine wpList_make_full w hg p q t hop w.heap.size e i (.int k 0) 1 ht hi hz hs kl kc n n n hp hq rfl rfl (by rw [hb]; exact hby) h63 (Nat.le_refl _) fun w' ho hgr => ?_
  refine hK w' ⟨by simp, Nat.le_refl _, h63, fun x hx => by rw [List.eq_of_mem_replicate hx]; exact hk, .inr ⟨_, rfl, Nat.le_refl _, owns_lt ho, ?_⟩⟩ ⟨hgr.os, hgr.tape, hgr.output, hgr.size, fun k hk => hgr.block k hk (by simp)⟩
  have e1 : (madeCells (Value.int k 0).cells (n * 1)).toList = (List.replicate n (0 : Int)).map (.int k) := by
    rw [List.map_replicate, Nat.mul_one]
    exact toList_madeCells_one _ _
  rw [e1] at ho
  exact ho

/-- 'make([]T, 0, n)', as the walk meets it. -/
theorem wpList_mk0 {P : Program} {w : World} {ops : Array Oper} {rest : List Oper} {o : Oper} {a : Act} {Q : Exit → Act → World → Prop} {k : IntKind} {e : TypeId} {n : Nat} {t : TypeId} (ht : P.underlying t = some (.slice e)) {bytes : Nat}
    (hinfo : (P.info? e).map (fun i => (i.zero, i.size, i.bytes)) = some (some (.int k 0), 1, bytes)) (h63 : n ≤ maxLen) (hby : bytes * n ≤ 281474976710656)
    (hg : o.guard = none) (p q : Operand) (hop : o.op = Op.makeSlice t p q) {kl kc : IntKind} (hp : a.eval p = .int kl 0) (hq : a.eval q = .int kc (n : Int))
    (hK : ∀ w', Row w' w.heap.size w'.heap.size k e (some ⟨w.heap.size, 0, none⟩) 0 n [] → Below w.heap.size w w' → wpList P ops Q rest (a.put o.dst (.slice (some ⟨w.heap.size, 0, none⟩) 0 n)) w') : wpList P ops Q (o :: rest) a w := by
  obtain ⟨i, hi, hz, hs, hb⟩ := info_parts hinfo
  refine wpList_make_own w hg p q t hop w.heap.size e i (.int k 0) 1 ht hi hz hs kl kc n n hp hq rfl (by rw [hb]; exact hby) h63 (Nat.le_refl _) fun w' ho hgr => ?_
  exact hK w' ⟨rfl, Nat.zero_le _, h63, by simp, .inr ⟨_, rfl, Nat.le_refl _, owns_lt ho, ho⟩⟩ ⟨hgr.os, hgr.tape, hgr.output, hgr.size, fun k hk => hgr.block k hk (by simp)⟩

/-- A new slice that reads as xs. -/
def Gives (k : IntKind) (t : TypeId) (xs : List Int) (w : World) (e : Ending) (w' : World) : Prop :=
  ∃ ad n cap, e = .returned (.slice ad n cap) ∧ Row w' w.heap.size w'.heap.size k t ad n cap xs ∧ Below w.heap.size w w'

/-- A new slice that reads as xs, and further results behind it. -/
def GivesT (k : IntKind) (t : TypeId) (xs : List Int) (vs : List Value) (w : World) (e : Ending) (w' : World) : Prop :=
  ∃ ad n cap, e = .returned (.tuple (.slice ad n cap :: vs).toArray) ∧ Row w' w.heap.size w'.heap.size k t ad n cap xs ∧ Below w.heap.size w w'

/-- Three results, no slice among them: two numbers and a flag. -/
def Three (r : Int × Int × Bool) (w : World) (e : Ending) (w' : World) : Prop := e = .returned (.tuple #[.int .i64 r.1, .int .i64 r.2.1, .bool r.2.2]) ∧ Below w.heap.size w w'
theorem three_of {r : Int × Int × Bool} {a b : Int} {c : Bool} {w w' : World} (h : r = (a, b, c)) (hb : Below w.heap.size w w') : Three r w (.returned (.tuple #[.int .i64 a, .int .i64 b, .bool c])) w' := by
  subst h; exact ⟨rfl, hb⟩

/-- What a stamp leaves in an element of the kind. -/
def stamp (k : IntKind) (m : Int) : Int := match k with | .u8 => m % 256 | _ => m
def stamps (k : IntKind) (m : Int) (n : Nat) : List Int := (List.range n).map fun (j : Nat) => stamp k (m + (j : Int))
theorem stamps_len (k : IntKind) (m : Int) (n : Nat) : (stamps k m n).length = n := by simp [stamps]
theorem stamps_get {k : IntKind} {m : Int} {n j : Nat} (hj : j < n) : (stamps k m n)[j]? = some (stamp k (m + j)) := by simp [stamps, hj]
theorem stamp_fits {k : IntKind} {m : Int} (hk : k = .u8 ∨ k = .i64) (h0 : 0 ≤ m) (h1 : m ≤ 9223372036854775807) : Fits k (stamp k m) := by
  rcases hk with rfl | rfl
  · rw [fits_u8]; simp only [stamp]; omega
  · rw [fits_i64]; simp only [stamp]; omega
end Go.Proofs.Ytlgmiojlpnoiaaa.Seq
namespace Go.Proofs.Ytlgmiojlpnoiaaa.Seq
open Go.RowKit

/-- The slice with this address, length and capacity reads as the list us; its cells lie in blocks from l up to (not with) h. -/
structure SlV (w : World) (l h : Nat) (ad : Option Addr) (n cap : Nat) (us : List Value) : Prop where
  len : us.length = n
  le : n ≤ cap
  big : cap ≤ maxLen
  nil : ad = none → cap = 0
  one : ∀ u ∈ us, u.oneCell' = true
  cells : ∀ j u, us[j]? = some u → ∃ a, ad = some a ∧ l ≤ a.block ∧ a.block < h ∧ w.cell? (a.add j) = some u

section
variable {w w' : World} {l h l' h' : Nat} {ad : Option Addr} {n cap : Nat} {us vs : List Value}
theorem SlV.at_ (s : SlV w l h ad n cap us) {j : Nat} (hj : j < n) : ∃ a u, ad = some a ∧ us[j]? = some u ∧ l ≤ a.block ∧ a.block < h ∧ w.cell? (a.add j) = some u := by
  have hl : j < us.length := by rw [s.len]; exact hj
  obtain ⟨a, e, h1, h2, h3⟩ := s.cells j us[j] (List.getElem?_eq_getElem hl)
  exact ⟨a, us[j], e, List.getElem?_eq_getElem hl, h1, h2, h3⟩
theorem SlV.keep (s : SlV w l h ad n cap us) (hk : ∀ p : Addr, l ≤ p.block → p.block < h → ∀ u, w.cell? p = some u → w'.cell? p = some u) : SlV w' l h ad n cap us :=
  ⟨s.len, s.le, s.big, s.nil, s.one, fun j x hx => by
    obtain ⟨a, e, h1, h2, h3⟩ := s.cells j x hx
    exact ⟨a, e, h1, h2, hk _ (by rw [add_block]; exact h1) (by rw [add_block]; exact h2) _ h3⟩⟩
theorem SlV.mv (s : SlV w l h ad n cap us) (m : Mv w w' l' h') (hd : h ≤ l' ∨ h' ≤ l) : SlV w' l h ad n cap us :=
  s.keep fun p h1 h2 u hu => (World.cell?_of_block (m.block p.block (World.block_lt_of_cell? w p hu) (by omega))).trans hu
theorem SlV.below {B : Nat} (s : SlV w l h ad n cap us) (m : Below B w w') (hB : h ≤ B ∨ w.heap.size ≤ B) : SlV w' l h ad n cap us :=
  s.keep fun p h1 h2 u hu => (m.cell (by have := World.block_lt_of_cell? w p hu; omega)).trans hu
theorem SlV.mono (s : SlV w l h ad n cap us) (h1 : l' ≤ l) (h2 : h ≤ h') : SlV w l' h' ad n cap us :=
  ⟨s.len, s.le, s.big, s.nil, s.one, fun j x hx => by
    obtain ⟨a, e, g1, g2, g3⟩ := s.cells j x hx
    exact ⟨a, e, by omega, by omega, g3⟩⟩
theorem SlV.drewN (s : SlV w l h ad n cap us) (m : Nat) : SlV (w.drewN m) l h ad n cap us := ⟨s.len, s.le, s.big, s.nil, s.one, s.cells⟩
theorem SlV.alloc (s : SlV w l h ad n cap us) (o : Obj) : SlV (w.alloc o) l h ad n cap us := s.mv ((Mv.refl w 0 0).alloc o) (.inr (Nat.zero_le _))
theorem SlV.lt {B : Nat} (s : SlV w l h ad n cap us) (hB : w.heap.size ≤ B) : SlV w l B ad n cap us :=
  ⟨s.len, s.le, s.big, s.nil, s.one, fun j x hx => by
    obtain ⟨a, e, g1, g2, g3⟩ := s.cells j x hx
    have := World.block_lt_of_cell? w _ g3
    rw [add_block] at this
    exact ⟨a, e, g1, by omega, g3⟩⟩
end

/-- A slice that the call itself has made. -/
structure RowV (w : World) (l h : Nat) (e : TypeId) (ad : Option Addr) (n cap : Nat) (us : List Value) : Prop where
  len : us.length = n
  le : n ≤ cap
  big : cap ≤ maxLen
  one : ∀ u ∈ us, u.oneCell' = true
  own : (n = 0 ∧ cap = 0) ∨ ∃ g, ad = some ⟨g, 0, none⟩ ∧ l ≤ g ∧ g < h ∧ w.ownsRow l e 1 (.slice ad n cap) n us

section
variable {w w' : World} {l h l' h' : Nat} {e : TypeId} {ad : Option Addr} {n cap : Nat} {us vs : List Value}
theorem RowV.sl (r : RowV w l h e ad n cap us) : SlV w l h ad n cap us := by
  refine ⟨r.len, r.le, r.big, ?_, r.one, ?_⟩
  · intro hn
    rcases r.own with ⟨_, h⟩ | ⟨g, h, _⟩
    · exact h
    · rw [hn] at h; cases h
  · intro j x hx
    rcases r.own with ⟨h0, _⟩ | ⟨g, rfl, h1, h2, h3⟩
    · have := r.len
      rw [List.getElem?_eq_none (by omega)] at hx; cases hx
    · exact ⟨_, rfl, h1, h2, h3.cells (g := g) rfl j _ hx⟩
theorem RowV.mono (r : RowV w l h e ad n cap us) (h2 : h ≤ h') : RowV w l h' e ad n cap us :=
  ⟨r.len, r.le, r.big, r.one, r.own.imp id fun ⟨g, a, b, c, d⟩ => ⟨g, a, b, by omega, d⟩⟩
theorem RowV.mv (r : RowV w l h e ad n cap us) (m : Mv w w' l' h') (hd : h ≤ l' ∨ h' ≤ l) : RowV w' l h e ad n cap us :=
  ⟨r.len, r.le, r.big, r.one, r.own.imp id fun ⟨g, a, b, c, d⟩ => ⟨g, a, b, c, by
    subst a
    exact owns_keep d fun g' hg => by
      obtain rfl : g = g' := by simpa [Value.ownBlock] using hg
      exact m.block g (owns_lt d) (by omega)⟩⟩
theorem RowV.below {B : Nat} (r : RowV w l h e ad n cap us) (m : Below B w w') (hB : h ≤ B ∨ w.heap.size ≤ B) : RowV w' l h e ad n cap us :=
  ⟨r.len, r.le, r.big, r.one, r.own.imp id fun ⟨g, a, b, c, d⟩ => ⟨g, a, b, c, by
    subst a
    exact owns_keep d fun g' hg => by
      obtain rfl : g = g' := by simpa [Value.ownBlock] using hg
      exact m.block g (by have := owns_lt d; omega)⟩⟩
theorem RowV.drewN (r : RowV w l h e ad n cap us) (m : Nat) : RowV (w.drewN m) l h e ad n cap us := ⟨r.len, r.le, r.big, r.one, r.own⟩
theorem RowV.alloc (r : RowV w l h e ad n cap us) (o : Obj) : RowV (w.alloc o) l h e ad n cap us := r.mv ((Mv.refl w 0 0).alloc o) (.inr (Nat.zero_le _))
theorem RowV.nil (w : World) (l h : Nat) (e : TypeId) (ad : Option Addr) : RowV w l h e ad 0 0 [] := ⟨rfl, Nat.le_refl _, Nat.zero_le _, by simp, .inl ⟨rfl, rfl⟩⟩
theorem RowV.lo (r : RowV w l h e ad n cap us) (hl : l' ≤ l) : RowV w l' h e ad n cap us :=
  ⟨r.len, r.le, r.big, r.one, r.own.imp id fun ⟨g, a, b, c, d⟩ => ⟨g, a, by omega, c, by subst a; exact owns_base d (by omega)⟩⟩
theorem RowV.lt (r : RowV w l h e ad n cap us) : RowV w l w.heap.size e ad n cap us :=
  ⟨r.len, r.le, r.big, r.one, r.own.imp id fun ⟨g, a, b, c, d⟩ => ⟨g, a, b, by subst a; exact owns_lt d, d⟩⟩
theorem RowV.new (w : World) (e : TypeId) (us : List Value) (n : Nat) (hn : us.length = n) (hm : n ≤ maxLen) (ho : ∀ u ∈ us, u.oneCell' = true) :
    RowV (w.alloc (.cells us.toArray e)) w.heap.size (w.heap.size + 1) e (some ⟨w.heap.size, 0, none⟩) n n us := by
  refine ⟨hn, Nat.le_refl _, hm, ho, .inr ⟨w.heap.size, rfl, Nat.le_refl _, Nat.lt_succ_self _, ?_⟩⟩
  have h := World.ownsRow_lit (base := w.heap.size) (e := e) (size := 1) w us.toArray n (Nat.le_refl _) hm (by simp [hn])
  simpa using h
theorem RowV.pos (r : RowV w l h e ad n cap us) (hn : 0 < n) : ∃ g, ad = some ⟨g, 0, none⟩ ∧ l ≤ g ∧ g < h := by
  rcases r.own with ⟨h0, _⟩ | ⟨g, h1, h2, h3, _⟩
  · omega
  · exact ⟨g, h1, h2, h3⟩
theorem RowV.there {g j : Nat} (r : RowV w l h e (some ⟨g, 0, none⟩) n cap us) (hj : j < n) : ∃ u, us[j]? = some u ∧ w.cell? ⟨g, j, none⟩ = some u ∧ w.frozen? ⟨g, j, none⟩ = false := by
  have hl : j < us.length := by rw [r.len]; exact hj
  refine ⟨us[j], List.getElem?_eq_getElem hl, ?_, ?_⟩
  · obtain ⟨a, ha, _, _, h3⟩ := r.sl.cells j _ (List.getElem?_eq_getElem hl)
    obtain rfl := Option.some.inj ha
    rw [Addr.add_lit, Nat.zero_add] at h3
    exact h3
  · rcases r.own with ⟨h0, _⟩ | ⟨g', h1, h2, h3, h4⟩
    · omega
    · exact h4.frozenAt j
theorem RowV.set {g j : Nat} {u : Value} (r : RowV w l h e (some ⟨g, 0, none⟩) n cap us) (hj : j < n) (hu : u.oneCell' = true) :
    RowV (w.setCell ⟨g, j, none⟩ u) l h e (some ⟨g, 0, none⟩) n cap (us.set j u) ∧ Mv w (w.setCell ⟨g, j, none⟩ u) l h := by
  rcases r.own with ⟨h0, _⟩ | ⟨g', h1, h2, h3, h4⟩
  · omega
  · obtain rfl : g = g' := by simpa using h1
    obtain ⟨o, m⟩ := h4.stored j u
    refine ⟨⟨by rw [List.length_set]; exact r.len, r.le, r.big, ?_, .inr ⟨g, rfl, h2, h3, o⟩⟩, (Mv.refl _ _ _).setCell h2 h3 _⟩
    intro y hy
    rcases List.mem_or_eq_of_mem_set hy with h | rfl
    · exact r.one y h
    · exact hu

/-- What 'append' does: the source is any slice that reads. -/
theorem run_appV {P : Program} {t ty : TypeId} {i : TypeInfo} {z : Value} {bytes : Nat} (ht : P.underlying t = some (.slice e)) (hi : P.info? e = some i) (hz : i.zero = some z) (hs : i.size = 1) (hb : i.bytes = bytes) (hzs : z.cells.size = 1)
    (r : RowV w l h e ad n cap us) {l1 h1 m c : Nat} {A : Option Addr} (s : SlV w l1 h1 A m c vs) (h63 : n + m ≤ maxLen) (hby : (n + m) * bytes ≤ 140737488355328) (hl : l ≤ w.heap.size) :
    ∃ ad' cap' w', (Builtin.append_ #[t, t] ty #[.slice ad n cap, .slice A m c]).run P w = .ok (.slice ad' (n + m) cap') w' ∧ RowV w' l w'.heap.size e ad' (n + m) cap' (us ++ vs) ∧ Mv w w' l h := by
  have ho : ∀ u ∈ us ++ vs, u.oneCell' = true := fun x hx => (List.mem_append.1 hx).elim (r.one x) (s.one x)
  have hlen : (us ++ vs).length = n + m := by rw [List.length_append, r.len, s.len]
  have hvs : vs.length = m * 1 := by rw [s.len, Nat.mul_one]
  have fin : ∀ v' w', w'.ownsRow l e 1 v' (n + m) (us ++ vs) → ∃ ad' cap', v' = .slice ad' (n + m) cap' ∧ RowV w' l w'.heap.size e ad' (n + m) cap' (us ++ vs) := by
    intro v' w' o
    rcases o.2 with ⟨rfl, h0⟩ | ⟨g, c', cur, rfl, g1, g2, g3, g4, g5⟩
    · exact ⟨none, 0, by rw [h0], ⟨hlen, by omega, Nat.zero_le _, ho, .inl ⟨h0, rfl⟩⟩⟩
    · exact ⟨_, c', rfl, hlen, g3, g4, ho, .inr ⟨g, rfl, g1, owns_lt o, o⟩⟩
  have src : ∀ a, A = some a → ∀ j u, vs[j]? = some u → w.cell? (a.add j) = some u := by
    intro a ha j u hu
    obtain ⟨a', e', _, _, hc⟩ := s.cells j u hu
    rw [ha] at e'
    obtain rfl := Option.some.inj e'
    exact hc
  cases A with
  | none =>
    have hc0 := s.nil rfl
    have hm0 : m = 0 := by have := s.le; omega
    subst hc0
    subst hm0
    have hy0 : vs = [] := List.eq_nil_of_length_eq_zero s.len
    subst hy0
    refine ⟨ad, cap, w, ?_, by rw [List.append_nil]; exact r.lt, Mv.refl _ _ _⟩
    rcases r.own with ⟨rfl, rfl⟩ | ⟨g, rfl, g1, g2, o⟩
    · simp [Builtin.append_, run_underlying ht, sizeOf, typeInfo, hi, Builtin.lenOf, Builtin.firstCells]
      cases ad <;> simp [storeCells]
    · exact run_append_owned_none w l t ty e i 1 ht hi _ n _ o
  | some a =>
    rcases r.own with ⟨rfl, rfl⟩ | ⟨g, rfl, g1, g2, o⟩
    · have hx0 : us = [] := List.eq_nil_of_length_eq_zero r.len
      subst hx0
      by_cases hm : m = 0
      · subst hm
        have hy0 : vs = [] := List.eq_nil_of_length_eq_zero s.len
        subst hy0
        refine ⟨ad, 0, w, ?_, RowV.nil _ _ _ _ _, Mv.refl _ _ _⟩
        simp [Builtin.append_, run_underlying ht, sizeOf, typeInfo, hi, Builtin.lenOf, Builtin.firstCells, loadCells, loadCellsFrom]
        cases ad <;> simp [storeCells]
      · cases ad with
        | none =>
          obtain ⟨v', w', hr, ho, hg, _⟩ := run_append_own (P := P) w l t ty e i z 1 bytes ht hi hz hs hb hzs (by decide) (.slice none 0 0) 0 [] (World.ownsRow_nil w _ e 1) a m c _ hvs (src a rfl) s.one h63 hby hl
          obtain ⟨ad', cap', rfl, hrow⟩ := fin v' w' (by simpa using ho)
          exact ⟨ad', cap', w', hr, hrow, ⟨hg.os, hg.tape, hg.output, hg.size, fun k hk _ => hg.block k hk (by simp [Value.ownBlock])⟩⟩
        | some b =>
          obtain ⟨v', w', hr, ho, hg⟩ := run_append_arg_grows (P := P) w t ty e i z 1 bytes ht hi hz hs hb hzs (by decide) b 0 0 [] rfl (by simp) a m c _ hvs (src a rfl) (by omega) h63 hby
          have hsz := (ho.lt)
          obtain ⟨ad', cap', rfl, hrow⟩ := fin v' w' (by
            rcases ho.2 with ⟨rfl, h0⟩ | ⟨g, c', cur, rfl, q1, q2, q3⟩
            · omega
            · have := owns_base (base' := l) ho (by omega)
              simpa using this)
          exact ⟨ad', cap', w', hr, hrow, ⟨hg.os, hg.tape, hg.output, hg.size, fun k hk _ => hg.block k hk (by simp)⟩⟩
    · obtain ⟨v', w', hr, ho, hg, _⟩ := run_append_own (P := P) w l t ty e i z 1 bytes ht hi hz hs hb hzs (by decide) (.slice (some ⟨g, 0, none⟩) n cap) n _ o a m c _ hvs (src a rfl) s.one h63 hby hl
      obtain ⟨ad', cap', rfl, hrow⟩ := fin v' w' ho
      exact ⟨ad', cap', w', hr, hrow, ⟨hg.os, hg.tape, hg.output, hg.size, fun k hk hk2 => hg.block k hk (by simp [Value.ownBlock]; omega)⟩⟩
end

/-- 'append' of one-cell values, as the walk meets it. 'hinfo': the element type's row of the table. -/
theorem wpList_appV {P : Program} {w : World} {ops : Array Oper} {rest : List Oper} {o : Oper} {a : Act} {Q : Exit → Act → World → Prop} {l h : Nat} {e : TypeId} {ad : Option Addr} {n cap : Nat} {us vs : List Value}
    {l1 h1 m c : Nat} {A : Option Addr} (r : RowV w l h e ad n cap us) (s : SlV w l1 h1 A m c vs) {t : TypeId} (ht : P.underlying t = some (.slice e)) {z : Value} {bytes : Nat}
    (hinfo : (P.info? e).map (fun i => (i.zero, i.size, i.bytes)) = some (some z, 1, bytes)) (hzs : z.cells.size = 1) (h63 : n + m ≤ maxLen) (hby : (n + m) * bytes ≤ 140737488355328) (hl : l ≤ w.heap.size)
    (hg : o.guard = none) (p q : Operand) (hop : o.op = Op.call { callee := Callee.builtin Builtin.append, args := #[p, q], argTypes := #[t, t] }) (hp : a.eval p = .slice ad n cap) (hq : a.eval q = .slice A m c)
    (hK : ∀ ad' cap' w', RowV w' l w'.heap.size e ad' (n + m) cap' (us ++ vs) → Mv w w' l h → wpList P ops Q rest (a.put o.dst (.slice ad' (n + m) cap')) w') : wpList P ops Q (o :: rest) a w := by
  obtain ⟨i, hi, hz, hs, hb⟩ := info_parts hinfo
  refine wpList_plain hg fun K hK' => ?_
  obtain ⟨ad', cap', w', hrun, hr, hm⟩ := run_appV (P := P) (t := t) (ty := o.type) ht hi hz hs hb hzs r s h63 hby hl
  unfold Oper.wp
  simp [execOp, hop, resolve, invoke, builtin, hp, hq, hrun, Result.andThen]
  exact hK' _ _ (hK ad' cap' w' hr hm)

/-- The block of one element that 'append(out, x)' lays first. -/
theorem oneV (w : World) (e : TypeId) (u : Value) (hu : u.oneCell' = true) : SlV (w.alloc (.cells #[u] e)) w.heap.size (w.heap.size + 1) (some ⟨w.heap.size, 0, none⟩) 1 1 [u] :=
  (RowV.new w e [u] 1 rfl (by decide) (by simpa using hu)).sl

/-- 'make([]T, n)' of one-cell values, as the walk meets it. -/
theorem wpList_mkV {P : Program} {w : World} {ops : Array Oper} {rest : List Oper} {o : Oper} {a : Act} {Q : Exit → Act → World → Prop} {e : TypeId} {n : Nat} {t : TypeId} (ht : P.underlying t = some (.slice e)) {z : Value} {bytes : Nat}
    (hinfo : (P.info? e).map (fun i => (i.zero, i.size, i.bytes)) = some (some z, 1, bytes)) (hz1 : z.oneCell' = true) (hzc : z.cells = #[z]) (h63 : n ≤ maxLen) (hby : bytes * n ≤ 281474976710656)
    (hg : o.guard = none) (p q : Operand) (hop : o.op = Op.makeSlice t p q) {kl kc : IntKind} (hp : a.eval p = .int kl (n : Int)) (hq : a.eval q = .int kc (n : Int))
    (hK : ∀ w', RowV w' w.heap.size w'.heap.size e (some ⟨w.heap.size, 0, none⟩) n n (List.replicate n z) → Below w.heap.size w w' → wpList P ops Q rest (a.put o.dst (.slice (some ⟨w.heap.size, 0, none⟩) n n)) w') : wpList P ops Q (o :: rest) a w := by
  obtain ⟨i, hi, hz, hs, hb⟩ := info_parts hinfo
  refine wpList_make_full w hg p q t hop w.heap.size e i z 1 ht hi hz hs kl kc n n n hp hq rfl rfl (by rw [hb]; exact hby) h63 (Nat.le_refl _) fun w' ho hgr => ?_
  refine hK w' ⟨by simp, Nat.le_refl _, h63, fun x hx => by rw [List.eq_of_mem_replicate hx]; exact hz1, .inr ⟨_, rfl, Nat.le_refl _, owns_lt ho, ?_⟩⟩ ⟨hgr.os, hgr.tape, hgr.output, hgr.size, fun k hk => hgr.block k hk (by simp)⟩
  have e1 : (madeCells z.cells (n * 1)).toList = List.replicate n z := by
    rw [hzc, Nat.mul_one]
    exact toList_madeCells_one _ _
  rw [e1] at ho
  exact ho

section
variable {w w' : World} {l h : Nat} {e : TypeId} {ad : Option Addr} {n cap : Nat} {us : List Value} {u : Value}
/-- One element is appended: in place, in the slice's own block; or everything lies in a new block. -/
theorem run_snoc {P : Program} {t ty : TypeId} {i : TypeInfo} {z : Value} {bytes : Nat} (ht : P.underlying t = some (.slice e)) (hi : P.info? e = some i) (hz : i.zero = some z) (hs : i.size = 1) (hb : i.bytes = bytes) (hzs : z.cells.size = 1)
    (r : RowV w l h e ad n cap us) {a : Addr} (hu : w.cell? a = some u) (hu1 : u.oneCell' = true) (h63 : n + 1 ≤ maxLen) (hby : (n + 1) * bytes ≤ 140737488355328) :
    ∃ g cap' w', (Builtin.append_ #[t, t] ty #[.slice ad n cap, .slice (some a) 1 1]).run P w = .ok (.slice (some ⟨g, 0, none⟩) (n + 1) cap') w' ∧ RowV w' g (g + 1) e (some ⟨g, 0, none⟩) (n + 1) cap' (us ++ [u]) ∧
      ((ad = some ⟨g, 0, none⟩ ∧ l ≤ g ∧ g < h ∧ g < w.heap.size ∧ Mv w w' g (g + 1)) ∨ (w.heap.size ≤ g ∧ Below w.heap.size w w')) := by
  have hlen : (us ++ [u]).length = n + 1 := by rw [List.length_append, r.len]; rfl
  have hone : ∀ v ∈ us ++ [u], v.oneCell' = true := fun v hv => (List.mem_append.1 hv).elim (r.one v) (fun h => by rw [List.mem_singleton.1 h]; exact hu1)
  have src : ∀ j v, [u][j]? = some v → w.cell? (a.add j) = some v := by
    intro j v hv
    cases j with
    | zero =>
      obtain rfl : u = v := by simpa using hv
      have : a.add 0 = a := by unfold Addr.add; simp
      rw [this]; exact hu
    | succ j => simp at hv
  have hnews : ∀ v ∈ [u], v.oneCell' = true := by simpa using hu1
  have fin : ∀ v' w' base, w'.ownsRow base e 1 v' (n + 1) (us ++ [u]) → ∃ g cap', v' = .slice (some ⟨g, 0, none⟩) (n + 1) cap' ∧ base ≤ g ∧ RowV w' g (g + 1) e (some ⟨g, 0, none⟩) (n + 1) cap' (us ++ [u]) := by
    intro v' w' base o
    rcases o.2 with ⟨rfl, h0⟩ | ⟨g, c', cur, rfl, g1, g2, g3, g4, g5⟩
    · omega
    · refine ⟨g, c', rfl, g1, hlen, g3, g4, hone, .inr ⟨g, rfl, Nat.le_refl _, Nat.lt_succ_self _, o.1, .inr ⟨g, c', cur, rfl, Nat.le_refl _, g2, g3, g4, g5⟩⟩⟩
  rcases r.own with ⟨rfl, rfl⟩ | ⟨g, rfl, g1, g2, o⟩
  · have hx0 : us = [] := List.eq_nil_of_length_eq_zero r.len
    subst hx0
    cases ad with
    | none =>
      obtain ⟨v', w', hr, ho, hg, _⟩ := run_append_own (P := P) w w.heap.size t ty e i z 1 bytes ht hi hz hs hb hzs (by decide) (.slice none 0 0) 0 [] (World.ownsRow_nil w _ e 1) a 1 1 [u] rfl src hnews h63 hby (Nat.le_refl _)
      obtain ⟨g, cap', rfl, hge, hrow⟩ := fin v' w' _ (by simpa using ho)
      exact ⟨g, cap', w', by simpa using hr, hrow, .inr ⟨hge, hg.os, hg.tape, hg.output, hg.size, fun k hk => hg.block k hk (by simp [Value.ownBlock])⟩⟩
    | some b =>
      obtain ⟨v', w', hr, ho, hg⟩ := run_append_arg_grows (P := P) w t ty e i z 1 bytes ht hi hz hs hb hzs (by decide) b 0 0 [] rfl (by simp) a 1 1 [u] rfl src (by omega) h63 hby
      obtain ⟨g, cap', rfl, hge, hrow⟩ := fin v' w' _ (by simpa using ho)
      exact ⟨g, cap', w', by simpa using hr, hrow, .inr ⟨hge, hg.os, hg.tape, hg.output, hg.size, fun k hk => hg.block k hk (by simp)⟩⟩
  · by_cases hroom : n + 1 ≤ cap
    · obtain ⟨w', hr, ho, hg⟩ := run_append_fits (P := P) w l t ty e i 1 ht hi hs g n cap us o a 1 1 [u] rfl src hnews hroom
      obtain ⟨g', cap', hv, _, hrow⟩ := fin _ w' _ ho
      obtain ⟨rfl, rfl⟩ : g = g' ∧ cap = cap' := by simpa using hv
      exact ⟨g, cap, w', hr, hrow, .inl ⟨rfl, g1, g2, owns_lt o, hg.os, hg.tape, hg.output, hg.size, fun k hk hk2 => hg.block k hk (by simp; omega)⟩⟩
    · obtain ⟨v', w', hr, ho, hg⟩ := run_append_arg_grows (P := P) w t ty e i z 1 bytes ht hi hz hs hb hzs (by decide) ⟨g, 0, none⟩ n cap us (by rw [r.len, Nat.mul_one]) (fun j v hv => o.cells (g := g) rfl j v hv) a 1 1 [u] rfl src (by omega) h63 hby
      obtain ⟨g', cap', rfl, hge, hrow⟩ := fin v' w' _ ho
      exact ⟨g', cap', w', hr, hrow, .inr ⟨hge, hg.os, hg.tape, hg.output, hg.size, fun k hk => hg.block k hk (by simp)⟩⟩
end

/-- Where the list lies behind the append of one element. -/
def Put (w w' : World) (l h : Nat) (ad : Option Addr) (g : Nat) : Prop :=
  (ad = some ⟨g, 0, none⟩ ∧ l ≤ g ∧ g < h ∧ g < w.heap.size ∧ Mv w w' g (g + 1)) ∨ (w.heap.size ≤ g ∧ Below w.heap.size w w')
/-- 'append(l, u)' of a one-cell value, as the walk meets it. -/
theorem wpList_snoc {P : Program} {w : World} {ops : Array Oper} {rest : List Oper} {o : Oper} {a : Act} {Q : Exit → Act → World → Prop} {l h : Nat} {e : TypeId} {ad : Option Addr} {n cap : Nat} {us : List Value} {u : Value}
    (r : RowV w l h e ad n cap us) {A : Addr} (hu : w.cell? A = some u) (hu1 : u.oneCell' = true) {t : TypeId} (ht : P.underlying t = some (.slice e)) {z : Value} {bytes : Nat}
    (hinfo : (P.info? e).map (fun i => (i.zero, i.size, i.bytes)) = some (some z, 1, bytes)) (hzs : z.cells.size = 1) (h63 : n + 1 ≤ maxLen) (hby : (n + 1) * bytes ≤ 140737488355328)
    (hg : o.guard = none) (p q : Operand) (hop : o.op = Op.call { callee := Callee.builtin Builtin.append, args := #[p, q], argTypes := #[t, t] }) (hp : a.eval p = .slice ad n cap) (hq : a.eval q = .slice (some A) 1 1)
    (hK : ∀ g cap' w', RowV w' g (g + 1) e (some ⟨g, 0, none⟩) (n + 1) cap' (us ++ [u]) → Put w w' l h ad g → wpList P ops Q rest (a.put o.dst (.slice (some ⟨g, 0, none⟩) (n + 1) cap')) w') : wpList P ops Q (o :: rest) a w := by
  obtain ⟨i, hi, hz, hs, hb⟩ := info_parts hinfo
  refine wpList_plain hg fun K hK' => ?_
  obtain ⟨g, cap', w', hrun, hr, hm⟩ := run_snoc (P := P) (t := t) (ty := o.type) ht hi hz hs hb hzs r hu hu1 h63 hby
  unfold Oper.wp
  simp [execOp, hop, resolve, invoke, builtin, hp, hq, hrun, Result.andThen]
  exact hK' _ _ (hK g cap' w' hr hm)
theorem Put.below {w w' : World} {l h B : Nat} {ad : Option Addr} {g : Nat} (p : Put w w' l h ad g) (h1 : B ≤ l) (h2 : B ≤ w.heap.size) : Below B w w' := by
  rcases p with ⟨_, a, b, c, m⟩ | ⟨_, b⟩
  · exact m.below (by omega) h2
  · exact b.mono h2
theorem Put.size {w w' : World} {l h : Nat} {ad : Option Addr} {g : Nat} (p : Put w w' l h ad g) : w.heap.size ≤ w'.heap.size := by
  rcases p with ⟨_, _, _, _, m⟩ | ⟨_, b⟩
  · exact m.size
  · exact b.size
theorem Put.mv {w w' : World} {l h : Nat} {ad : Option Addr} {g : Nat} (p : Put w w' l h ad g) : Mv w w' l h := by
  rcases p with ⟨_, a, b, c, m⟩ | ⟨_, b⟩
  · exact m.mono a (by omega)
  · exact Mv.of_below b (Nat.le_refl _)
/-- 'append(l, u)' at a step of a region that draws its order. -/
theorem step_snoc {P : Program} {w : World} {ops : Array Oper} {o : Oper} {a : Act} {K : Act → World → Prop} {Q : Exit → Act → World → Prop} {E : Prop} {l h : Nat} {e : TypeId} {ad : Option Addr} {n cap : Nat} {us : List Value} {u : Value}
    (r : RowV w l h e ad n cap us) {A : Addr} (hu : w.cell? A = some u) (hu1 : u.oneCell' = true) {t : TypeId} (ht : P.underlying t = some (.slice e)) {z : Value} {bytes : Nat}
    (hinfo : (P.info? e).map (fun i => (i.zero, i.size, i.bytes)) = some (some z, 1, bytes)) (hzs : z.cells.size = 1) (h63 : n + 1 ≤ maxLen) (hby : (n + 1) * bytes ≤ 140737488355328)
    (hg : o.guard = none) (p q : Operand) (hop : o.op = Op.call { callee := Callee.builtin Builtin.append, args := #[p, q], argTypes := #[t, t] }) (hp : a.eval p = .slice ad n cap) (hq : a.eval q = .slice (some A) 1 1)
    (hK : ∀ g cap' w', RowV w' g (g + 1) e (some ⟨g, 0, none⟩) (n + 1) cap' (us ++ [u]) → Put w w' l h ad g → K (a.put o.dst (.slice (some ⟨g, 0, none⟩) (n + 1) cap')) w') :
    if Region.wanted o (yielded ops a.tmps) = true then Oper.wp P o a w K Q else E := by
  have hw : Region.wanted o (yielded ops a.tmps) = true := by simp [Region.wanted, hg]
  rw [if_pos hw]
  obtain ⟨i, hi, hz, hs, hb⟩ := info_parts hinfo
  obtain ⟨g, cap', w', hrun, hr, hm⟩ := run_snoc (P := P) (t := t) (ty := o.type) ht hi hz hs hb hzs r hu hu1 h63 hby
  unfold Oper.wp
  simp [execOp, hop, resolve, invoke, builtin, hp, hq, hrun, Result.andThen]
  exact hK _ _ _ hr hm
/-- The elements that were there stay there. -/
theorem Put.keep {w w' : World} {l h g : Nat} {e : TypeId} {a : Addr} {n cap cap' j : Nat} {us : List Value} {u v : Value} (p : Put w w' l h (some a) g) (r : RowV w l h e (some a) n cap us) (o : RowV w' g (g + 1) e (some ⟨g, 0, none⟩) (n + 1) cap' (us ++ [u]))
    (hj : j < n) (hc : w.cell? (a.add j) = some v) : w'.cell? (a.add j) = some v := by
  rcases p with ⟨ea, _, _, _, m⟩ | ⟨_, b⟩
  · obtain rfl := Option.some.inj ea
    obtain ⟨a1, u1, e1, h1, _, _, c1⟩ := r.sl.at_ hj
    obtain rfl := Option.some.inj e1
    obtain ⟨a2, u2, e2, h2, _, _, c2⟩ := o.sl.at_ (j := j) (by omega)
    obtain rfl := Option.some.inj e2
    rw [List.getElem?_append_left (by rw [r.len]; exact hj), h1] at h2
    obtain rfl := Option.some.inj h2
    rw [c2, ← c1, hc]
  · exact (b.cell (World.block_lt_of_cell? _ _ hc)).trans hc
end Go.Proofs.Ytlgmiojlpnoiaaa.Seq
namespace Go.Proofs.Ytlgmiojlpnoiaaa.Seq
open Go.ChangeShapes Go.WideShapes Go.RowKit

theorem add_0 (a : Addr) : a.add 0 = a := by unfold Addr.add; simp

/-- An argument: a slice of slices of integers that reads in a world. -/
structure RowsAt (k : IntKind) (w : World) (v : Value) (ad : Option Addr) (n cap : Nat) : Prop where
  val : v = .slice ad n cap
  len : n ≤ cap
  nil : ad = none → cap = 0
  cap : cap ≤ maxLen
  cells : ∀ j, j < n → ∃ (a : Addr) (ad' : Option Addr) (n' cap' : Nat), ad = some a ∧ w.cell? (a.add j) = some (.slice ad' n' cap') ∧ Kit.IntsAt k w (.slice ad' n' cap') ad' n' cap'

section
variable {H : Type} {enc : TypeId × Value → H} {P : Program}
theorem rows_at {k : IntKind} {t e q : TypeId} {W : World} {r : Reach} {b0 : Nat} {v : Value} {d : DataW H} {ps : List MemPlace} (ht : P.underlying t = some (.slice e)) (he : P.underlying e = some (.slice q)) (hq : P.underlying q = some (.int k))
    (ce : P.cellsOf e = 1) (cq : P.cellsOf q = 1) (hval : Value.okWide P W r b0 t v) (h : DataW.Trod enc P W 0 (fun _ => true) true t v d ps) : ∃ ad n cap, RowsAt k W v ad n cap := by
  obtain ⟨a, l, c, rfl⟩ := okWide_slice ht hval
  obtain ⟨fuel, hf⟩ := h
  rcases Deep.open_int_rows ht he hq ce cq hf with ⟨h1, _⟩ | ⟨ad, len, cap, A, L, C, Z, h1, _, h3, h4, _, h6⟩
  · have h1' : (Value.slice a l c) = .slice none 0 0 := by simpa [Value.cells] using h1
    exact ⟨_, _, _, h1', Nat.le_refl _, fun _ => rfl, Nat.zero_le _, fun j hj => by omega⟩
  · have h1' : (Value.slice a l c) = .slice (some ad) len cap := by simpa [Value.cells] using h1
    refine ⟨_, _, _, h1', h3, fun h => by simp at h, h4, fun j hj => ?_⟩
    obtain ⟨g1, g2, g3, g4, g5, g6, g7⟩ := h6 j (by omega)
    refine ⟨ad, A j, L j, C j, rfl, g1, rfl, g2, g6, g3, fun i hi => ?_⟩
    have hA : ∃ a', A j = some a' := by
      cases hh : A j with
      | none => have := g6 hh; omega
      | some a' => exact ⟨a', rfl⟩
    obtain ⟨a', ha⟩ := hA
    have hz : i < (Z j).length := by omega
    refine ⟨a', (Z j).getD i 0, ha, ?_, (g7 a' ha).2 i (by omega)⟩
    rw [List.getD_eq_getElem?_getD, List.getElem?_eq_getElem hz]
    exact g5 _ (by simp)
end

/-- The value is a slice that reads as xs. -/
def IsInts (w : World) (l h : Nat) (u : Value) (xs : List Int) : Prop := ∃ ad n cap, u = .slice ad n cap ∧ Sl w l h .i64 ad n cap xs
theorem IsInts.one {w : World} {l h : Nat} {u : Value} {xs : List Int} (s : IsInts w l h u xs) : u.oneCell' = true := by
  obtain ⟨ad, n, cap, rfl, _⟩ := s; rfl

/-- The slice with this address, length and capacity reads as the list xss of lists; all its cells lie in blocks from l up to (not with) h. -/
structure Sls (w : World) (l h : Nat) (ad : Option Addr) (n cap : Nat) (xss : List (List Int)) : Prop where
  len : xss.length = n
  le : n ≤ cap
  big : cap ≤ maxLen
  nil : ad = none → cap = 0
  cells : ∀ j xs, xss[j]? = some xs → ∃ a u, ad = some a ∧ l ≤ a.block ∧ a.block < h ∧ w.cell? (a.add j) = some u ∧ IsInts w l h u xs

/-- One row: what it reads as. -/
structure RowAt (w : World) (l h : Nat) (a : Addr) (xss : List (List Int)) (j : Nat) (ad' : Option Addr) (n' cap' : Nat) (xs : List Int) : Prop where
  get : xss[j]? = some xs
  sl : Sl w l h .i64 ad' n' cap' xs

section
variable {w w' : World} {l h l' h' : Nat} {ad : Option Addr} {n cap : Nat} {xss : List (List Int)}
theorem Sls.at_ (s : Sls w l h ad n cap xss) {j : Nat} (hj : j < n) : ∃ a ad' n' cap' xs, ad = some a ∧ RowAt w l h a xss j ad' n' cap' xs ∧ w.cell? (a.add j) = some (.slice ad' n' cap') := by
  have hl : j < xss.length := by rw [s.len]; exact hj
  obtain ⟨a, u, e, _, _, h3, ad', n', cap', rfl, h4⟩ := s.cells j xss[j] (List.getElem?_eq_getElem hl)
  exact ⟨a, ad', n', cap', xss[j], e, ⟨List.getElem?_eq_getElem hl, h4⟩, h3⟩
theorem Sls.keep (s : Sls w l h ad n cap xss) (hk : ∀ p : Addr, l ≤ p.block → p.block < h → ∀ u, w.cell? p = some u → w'.cell? p = some u) : Sls w' l h ad n cap xss :=
  ⟨s.len, s.le, s.big, s.nil, fun j x hx => by
    obtain ⟨a, u, e, h1, h2, h3, ad', n', cap', rfl, h4⟩ := s.cells j x hx
    exact ⟨a, _, e, h1, h2, hk _ (by rw [add_block]; exact h1) (by rw [add_block]; exact h2) _ h3, ad', n', cap', rfl, h4.keep hk⟩⟩
theorem Sls.mv (s : Sls w l h ad n cap xss) (m : Mv w w' l' h') (hd : h ≤ l' ∨ h' ≤ l) : Sls w' l h ad n cap xss :=
  s.keep fun p h1 h2 u hu => (World.cell?_of_block (m.block p.block (World.block_lt_of_cell? w p hu) (by omega))).trans hu
theorem Sls.below {B : Nat} (s : Sls w l h ad n cap xss) (m : Below B w w') (hB : h ≤ B ∨ w.heap.size ≤ B) : Sls w' l h ad n cap xss :=
  s.keep fun p h1 h2 u hu => (m.cell (by have := World.block_lt_of_cell? w p hu; omega)).trans hu
theorem Sls.mono (s : Sls w l h ad n cap xss) (h1 : l' ≤ l) (h2 : h ≤ h') : Sls w l' h' ad n cap xss :=
  ⟨s.len, s.le, s.big, s.nil, fun j x hx => by
    obtain ⟨a, u, e, g1, g2, g3, ad', n', cap', rfl, g4⟩ := s.cells j x hx
    exact ⟨a, _, e, by omega, by omega, g3, ad', n', cap', rfl, g4.mono h1 h2⟩⟩
theorem Sls.drewN (s : Sls w l h ad n cap xss) (m : Nat) : Sls (w.drewN m) l h ad n cap xss :=
  s.keep fun _ _ _ _ hu => hu
theorem Sls.alloc (s : Sls w l h ad n cap xss) (o : Obj) : Sls (w.alloc o) l h ad n cap xss := s.mv ((Mv.refl w 0 0).alloc o) (.inr (Nat.zero_le _))
theorem Sls.lt {B : Nat} (s : Sls w l h ad n cap xss) (hB : w.heap.size ≤ B) : Sls w l B ad n cap xss :=
  ⟨s.len, s.le, s.big, s.nil, fun j x hx => by
    obtain ⟨a, u, e, g1, g2, g3, ad', n', cap', rfl, g4⟩ := s.cells j x hx
    have := World.block_lt_of_cell? w _ g3
    rw [add_block] at this
    exact ⟨a, _, e, g1, by omega, g3, ad', n', cap', rfl, g4.lt hB⟩⟩

/-- A list is built element by element. -/
theorem build {α : Type} (n : Nat) (p : Nat → α → Prop) (h : ∀ j, j < n → ∃ x, p j x) : ∃ xs : List α, xs.length = n ∧ ∀ j x, xs[j]? = some x → p j x := by
  induction n with
  | zero => exact ⟨[], rfl, by simp⟩
  | succ n ih =>
    obtain ⟨xs, h1, h2⟩ := ih fun j hj => h j (by omega)
    obtain ⟨x, hx⟩ := h n (Nat.lt_succ_self n)
    refine ⟨xs ++ [x], by simp [h1], fun j y hy => ?_⟩
    by_cases hj : j < xs.length
    · rw [List.getElem?_append_left hj] at hy
      exact h2 j y hy
    · rw [List.getElem?_append_right (by omega)] at hy
      have hj0 : j - xs.length = 0 := by
        rcases Nat.eq_zero_or_pos (j - xs.length) with h | h
        · exact h
        · rw [List.getElem?_eq_none (by simp; omega)] at hy; cases hy
      rw [hj0] at hy
      obtain rfl : x = y := by simpa using hy
      obtain rfl : j = n := by omega
      exact hx

theorem of_rows {v : Value} (s : RowsAt .i64 w v ad n cap) : ∃ xss, v = .slice ad n cap ∧ Sls w 0 w.heap.size ad n cap xss := by
  obtain ⟨xss, h1, h2⟩ := build (α := List Int) n (fun j xs => ∃ a u, ad = some a ∧ a.block < w.heap.size ∧ w.cell? (a.add j) = some u ∧ IsInts w 0 w.heap.size u xs) fun j hj => by
    obtain ⟨a, ad', n', cap', e, hc, hi⟩ := s.cells j hj
    obtain ⟨xs, _, hs⟩ := of_ints hi
    have := World.block_lt_of_cell? w _ hc
    rw [add_block] at this
    exact ⟨xs, a, _, e, this, hc, ad', n', cap', rfl, hs⟩
  exact ⟨xss, s.val, h1, s.len, s.cap, s.nil, fun j xs hx => by
    obtain ⟨a, u, e, hb, hc, hi⟩ := h2 j xs hx
    exact ⟨a, u, e, Nat.zero_le _, hb, hc, hi⟩⟩
end

/-- The value is a slice of the call's own that reads as xs, its block within; or it has no elements. -/
def OwnInts (w : World) (l h : Nat) (e : TypeId) (u : Value) (xs : List Int) : Prop :=
  ∃ ad n cap, u = .slice ad n cap ∧ ((n = 0 ∧ xs = [] ∧ cap ≤ maxLen ∧ (ad = none → cap = 0)) ∨ (0 < n ∧ Row w l h .i64 e ad n cap xs))
theorem Sl.none (w : World) (l h : Nat) (k : IntKind) (ad : Option Addr) (cap : Nat) (h1 : cap ≤ maxLen) (h2 : ad = none → cap = 0) : Sl w l h k ad 0 cap [] := ⟨rfl, Nat.zero_le _, h1, h2, by simp, by simp⟩
/-- The block that the value's elements lie in, if it has any. -/
def blockOf : Value → Option Nat
  | .slice (some a) n _ => if n = 0 then none else some a.block
  | _ => none

/-- A slice of slices that the call itself has made: each row, and the list of rows, has a block of its own. -/
structure Grid (w : World) (l h : Nat) (e e1 : TypeId) (ad : Option Addr) (n cap : Nat) (us : List Value) (xss : List (List Int)) : Prop where
  out : RowV w l h e1 ad n cap us
  len : xss.length = n
  rows : ∀ (j : Nat) (u : Value) (xs : List Int), us[j]? = some u → xss[j]? = some xs → OwnInts w l h e u xs
  apart : ∀ (i j : Nat) (u v : Value) (b : Nat), i ≠ j → us[i]? = some u → us[j]? = some v → blockOf u = some b → blockOf v ≠ some b
  away : ∀ (j : Nat) (u : Value) (b g : Nat), us[j]? = some u → blockOf u = some b → ad = some ⟨g, 0, none⟩ → b ≠ g

section
variable {w w' : World} {l h l' h' : Nat} {e e1 : TypeId} {ad : Option Addr} {n cap : Nat} {us : List Value} {xss : List (List Int)} {u : Value} {xs : List Int}
theorem OwnInts.of {ad : Option Addr} {n cap : Nat} (r : Row w l h .i64 e ad n cap xs) : OwnInts w l h e (.slice ad n cap) xs := by
  by_cases hn : n = 0
  · subst hn
    exact ⟨ad, 0, cap, rfl, .inl ⟨rfl, List.eq_nil_of_length_eq_zero r.len, r.big, r.sl.nil⟩⟩
  · exact ⟨ad, n, cap, rfl, .inr ⟨by omega, r⟩⟩
theorem OwnInts.none (w : World) (l h : Nat) (e : TypeId) : OwnInts w l h e (.slice .none 0 0) [] := ⟨_, _, _, rfl, .inl ⟨rfl, rfl, Nat.zero_le _, fun _ => rfl⟩⟩
theorem OwnInts.imp (s : OwnInts w l h e u xs) (f : ∀ ad n cap, 0 < n → u = .slice ad n cap → Row w l h .i64 e ad n cap xs → Row w' l' h' .i64 e ad n cap xs) : OwnInts w' l' h' e u xs := by
  obtain ⟨ad, n, cap, rfl, r⟩ := s
  exact ⟨ad, n, cap, rfl, r.imp id fun ⟨hn, r⟩ => ⟨hn, f ad n cap hn rfl r⟩⟩
theorem OwnInts.ints (s : OwnInts w l h e u xs) : IsInts w l h u xs := by
  obtain ⟨ad, n, cap, rfl, ⟨rfl, rfl, h1, h2⟩ | ⟨_, r⟩⟩ := s
  · exact ⟨ad, 0, cap, rfl, Sl.none _ _ _ _ _ _ h1 h2⟩
  · exact ⟨ad, n, cap, rfl, r.sl⟩
theorem OwnInts.one (s : OwnInts w l h e u xs) : u.oneCell' = true := s.ints.one
theorem OwnInts.mv (s : OwnInts w l h e u xs) (m : Mv w w' l' h') (hd : h ≤ l' ∨ h' ≤ l) : OwnInts w' l h e u xs := s.imp fun _ _ _ _ _ r => r.mv m hd
theorem OwnInts.below {B : Nat} (s : OwnInts w l h e u xs) (m : Below B w w') (hB : h ≤ B ∨ w.heap.size ≤ B) : OwnInts w' l h e u xs := s.imp fun _ _ _ _ _ r => r.below m hB
theorem OwnInts.mono (s : OwnInts w l h e u xs) (h2 : h ≤ h') : OwnInts w l h' e u xs := s.imp fun _ _ _ _ _ r => r.mono h2
theorem OwnInts.lo (s : OwnInts w l h e u xs) (h2 : l' ≤ l) : OwnInts w l' h e u xs := s.imp fun _ _ _ _ _ r => r.lo h2
theorem OwnInts.lt (s : OwnInts w l h e u xs) : OwnInts w l w.heap.size e u xs := s.imp fun _ _ _ _ _ r => r.lt
theorem OwnInts.block (s : OwnInts w l h e u xs) {b : Nat} (hb : blockOf u = some b) : l ≤ b ∧ b < h ∧ b < w.heap.size := by
  obtain ⟨ad, n, cap, rfl, ⟨rfl, _⟩ | ⟨hn, r⟩⟩ := s
  · cases ad <;> simp [blockOf] at hb
  · obtain ⟨g, rfl, h1, h2⟩ := r.pos hn
    obtain rfl : g = b := by
      have hn' : n ≠ 0 := by omega
      simpa [blockOf, hn'] using hb
    obtain ⟨_, hg, _, hg2⟩ := r.lt.pos hn
    obtain rfl := (Addr.mk.inj (Option.some.inj hg)).1
    exact ⟨h1, h2, hg2⟩
/-- The row with its one block. -/
theorem Row.tight {k : IntKind} {xs : List Int} (r : Row w l h k e ad n cap xs) (hn : 0 < n) : ∃ g, ad = some ⟨g, 0, none⟩ ∧ l ≤ g ∧ g < h ∧ Row w g (g + 1) k e (some ⟨g, 0, none⟩) n cap xs := by
  rcases r.own with ⟨h0, _⟩ | ⟨g, rfl, h1, h2, h3⟩
  · omega
  · exact ⟨g, rfl, h1, h2, r.len, r.le, r.big, r.fits, .inr ⟨g, rfl, Nat.le_refl _, Nat.lt_succ_self _, by
      refine ⟨h3.1, ?_⟩
      rcases h3.2 with ⟨hn', _⟩ | ⟨g', c', cur, hv, _, q⟩
      · simp at hn'
      · obtain rfl : g = g' := by simpa [Value.ownBlock] using congrArg Value.ownBlock hv
        exact .inr ⟨g, c', cur, hv, Nat.le_refl _, q⟩⟩⟩

theorem Grid.sls (r : Grid w l h e e1 ad n cap us xss) : Sls w l h ad n cap xss := by
  refine ⟨r.len, r.out.le, r.out.big, r.out.sl.nil, fun j xs hx => ?_⟩
  have hj : j < us.length := by rw [r.out.len, ← r.len]; exact (List.getElem?_eq_some_iff.1 hx).1
  obtain ⟨a, ea, h1, h2, h3⟩ := r.out.sl.cells j us[j] (List.getElem?_eq_getElem hj)
  exact ⟨a, us[j], ea, h1, h2, h3, (r.rows j _ _ (List.getElem?_eq_getElem hj) hx).ints⟩
theorem Grid.mv (r : Grid w l h e e1 ad n cap us xss) (m : Mv w w' l' h') (hd : h ≤ l' ∨ h' ≤ l) : Grid w' l h e e1 ad n cap us xss :=
  ⟨r.out.mv m hd, r.len, fun j u xs hu hx => (r.rows j u xs hu hx).mv m hd, r.apart, r.away⟩
theorem Grid.below {B : Nat} (r : Grid w l h e e1 ad n cap us xss) (m : Below B w w') (hB : h ≤ B ∨ w.heap.size ≤ B) : Grid w' l h e e1 ad n cap us xss :=
  ⟨r.out.below m hB, r.len, fun j u xs hu hx => (r.rows j u xs hu hx).below m hB, r.apart, r.away⟩
theorem Grid.mono (r : Grid w l h e e1 ad n cap us xss) (h2 : h ≤ h') : Grid w l h' e e1 ad n cap us xss :=
  ⟨r.out.mono h2, r.len, fun j u xs hu hx => (r.rows j u xs hu hx).mono h2, r.apart, r.away⟩
theorem Grid.lo (r : Grid w l h e e1 ad n cap us xss) (h2 : l' ≤ l) : Grid w l' h e e1 ad n cap us xss :=
  ⟨r.out.lo h2, r.len, fun j u xs hu hx => (r.rows j u xs hu hx).lo h2, r.apart, r.away⟩
theorem Grid.lt (r : Grid w l h e e1 ad n cap us xss) : Grid w l w.heap.size e e1 ad n cap us xss :=
  ⟨r.out.lt, r.len, fun j u xs hu hx => (r.rows j u xs hu hx).lt, r.apart, r.away⟩
theorem Grid.alloc (r : Grid w l h e e1 ad n cap us xss) (o : Obj) : Grid (w.alloc o) l h e e1 ad n cap us xss := r.mv ((Mv.refl w 0 0).alloc o) (.inr (Nat.zero_le _))
theorem Grid.drewN (r : Grid w l h e e1 ad n cap us xss) (k : Nat) : Grid (w.drewN k) l h e e1 ad n cap us xss := r.mv ((Mv.refl w 0 0).drewN k) (.inr (Nat.zero_le _))
theorem Grid.nil (w : World) (l h : Nat) (e e1 : TypeId) (ad : Option Addr) : Grid w l h e e1 ad 0 0 [] [] :=
  ⟨RowV.nil _ _ _ _ _, rfl, by simp, by simp, by simp⟩
theorem Grid.row (r : Grid w l h e e1 ad n cap us xss) {j : Nat} (hj : j < n) : ∃ u xs, us[j]? = some u ∧ xss[j]? = some xs ∧ OwnInts w l h e u xs := by
  have h1 : j < us.length := by rw [r.out.len]; exact hj
  have h2 : j < xss.length := by rw [r.len]; exact hj
  exact ⟨us[j], xss[j], List.getElem?_eq_getElem h1, List.getElem?_eq_getElem h2, r.rows j _ _ (List.getElem?_eq_getElem h1) (List.getElem?_eq_getElem h2)⟩

theorem Grid.block (r : Grid w l h e e1 ad n cap us xss) {j b : Nat} (hu : us[j]? = some u) (hb : blockOf u = some b) : l ≤ b ∧ b < h ∧ b < w.heap.size := by
  have h1 := (List.getElem?_eq_some_iff.1 hu).1
  have h2 : j < xss.length := by rw [r.len, ← r.out.len]; exact h1
  exact (r.rows j _ _ hu (List.getElem?_eq_getElem h2)).block hb

/-- A made list of empty rows. -/
theorem Grid.made (r : RowV w l h e1 ad n cap (List.replicate n (.slice none 0 0))) : Grid w l h e e1 ad n cap (List.replicate n (.slice none 0 0)) (List.replicate n []) := by
  refine ⟨r, by simp, fun j u xs hu hx => ?_, fun i j u v b _ hu _ hb => ?_, fun j u b g hu hb _ => ?_⟩
  · obtain rfl := List.eq_of_mem_replicate (List.mem_of_getElem? hu)
    obtain rfl := List.eq_of_mem_replicate (List.mem_of_getElem? hx)
    exact OwnInts.none _ _ _ _
  · obtain rfl := List.eq_of_mem_replicate (List.mem_of_getElem? hu)
    simp [blockOf] at hb
  · obtain rfl := List.eq_of_mem_replicate (List.mem_of_getElem? hu)
    simp [blockOf] at hb

/-- A row is put in place: a new one, whose block is none of the others'. -/
theorem Grid.put {g j : Nat} (r : Grid w l h e e1 (some ⟨g, 0, none⟩) n cap us xss) (hj : j < n) (hu : OwnInts w l h e u xs) (hg : ∀ b, blockOf u = some b → b ≠ g)
    (hne : ∀ i v b, i ≠ j → us[i]? = some v → blockOf v = some b → blockOf u ≠ some b) :
    Grid (w.setCell ⟨g, j, none⟩ u) l h e e1 (some ⟨g, 0, none⟩) n cap (us.set j u) (xss.set j xs) ∧ Mv w (w.setCell ⟨g, j, none⟩ u) l h := by
  obtain ⟨h1, h2⟩ := r.out.set hj hu.one
  obtain ⟨_, hge, hg1, hg2⟩ := r.out.pos (by omega)
  obtain rfl := (Addr.mk.inj (Option.some.inj hge)).1
  have mg : Mv w (w.setCell ⟨g, j, none⟩ u) g (g + 1) := (Mv.refl w g (g + 1)).setCell (Nat.le_refl _) (Nat.lt_succ_self _) u
  have keep : ∀ v ys, OwnInts w l h e v ys → (∀ b, blockOf v = some b → b ≠ g) → OwnInts (w.setCell ⟨g, j, none⟩ u) l h e v ys := by
    intro v ys ho hb
    refine ho.imp fun ad' n' cap' hn hv hr => ?_
    subst hv
    obtain ⟨b, rfl, b1, b2, hr'⟩ := hr.tight hn
    have hn' : n' ≠ 0 := by omega
    have hbg := hb b (by simp [blockOf, hn'])
    exact ((hr'.mv mg (by omega)).lo b1).mono (by omega)
  refine ⟨⟨h1, by rw [List.length_set]; exact r.len, ?_, ?_, ?_⟩, h2⟩
  · intro i v ys hv hy
    rw [List.getElem?_set] at hv hy
    by_cases hij : j = i
    · subst hij
      rw [if_pos rfl] at hv hy
      split at hv
      · split at hy
        · obtain rfl := Option.some.inj hv
          obtain rfl := Option.some.inj hy
          exact keep _ _ hu hg
        · cases hy
      · cases hv
    · rw [if_neg hij] at hv hy
      exact keep _ _ (r.rows i v ys hv hy) fun b hb => r.away i v b g hv hb rfl
  · intro i i' v v' b hii hv hv' hb
    rw [List.getElem?_set] at hv hv'
    by_cases h3 : j = i
    · subst h3
      rw [if_pos rfl] at hv
      rw [if_neg hii] at hv'
      split at hv
      · obtain rfl := Option.some.inj hv
        exact fun hb' => hne i' v' b (fun h => hii h.symm) hv' hb' hb
      · cases hv
    · rw [if_neg h3] at hv
      by_cases h4 : j = i'
      · subst h4
        rw [if_pos rfl] at hv'
        split at hv'
        · obtain rfl := Option.some.inj hv'
          exact hne i v b hii hv hb
        · cases hv'
      · rw [if_neg h4] at hv'
        exact r.apart i i' v v' b hii hv hv' hb
  · intro i v b g' hv hb hge'
    obtain rfl := (Addr.mk.inj (Option.some.inj hge')).1
    rw [List.getElem?_set] at hv
    by_cases h3 : j = i
    · subst h3
      rw [if_pos rfl] at hv
      split at hv
      · obtain rfl := Option.some.inj hv; exact hg b hb
      · cases hv
    · rw [if_neg h3] at hv
      exact r.away i v b g hv hb rfl

/-- One row's numbers have been replaced, in its own block. -/
theorem Grid.redo {b j n' cap' : Nat} {ys : List Int} (r : Grid w l h e e1 ad n cap us xss) (hu : us[j]? = some (.slice (some ⟨b, 0, none⟩) n' cap')) (hn : 0 < n') (hr : Row w' b (b + 1) .i64 e (some ⟨b, 0, none⟩) n' cap' ys) (m : Mv w w' b (b + 1)) (hb1 : l ≤ b) (hb2 : b < h) :
    Grid w' l h e e1 ad n cap us (xss.set j ys) ∧ Mv w w' l h := by
  have hbo : blockOf (.slice (some ⟨b, 0, none⟩) n' cap') = some b := by simp [blockOf]; omega
  have hj : j < us.length := (List.getElem?_eq_some_iff.1 hu).1
  refine ⟨⟨?_, by rw [List.length_set]; exact r.len, ?_, r.apart, r.away⟩, m.mono hb1 hb2⟩
  · obtain ⟨g, rfl, g1, g2⟩ := r.out.pos (by rw [← r.out.len]; omega)
    have hne := r.away j _ b g hu hbo rfl
    refine ⟨r.out.len, r.out.le, r.out.big, r.out.one, ?_⟩
    rcases r.out.own with h0 | ⟨g', hg', q1, q2, q3⟩
    · exact .inl h0
    · obtain rfl := (Addr.mk.inj (Option.some.inj hg')).1
      exact .inr ⟨g, rfl, q1, q2, owns_keep q3 fun b' hb' => by
        obtain rfl : g = b' := by simpa [Value.ownBlock] using hb'
        exact m.block g (owns_lt q3) (by omega)⟩
  · intro i v zs hv hz
    rw [List.getElem?_set] at hz
    by_cases h3 : j = i
    · subst h3
      rw [hu] at hv
      obtain rfl := Option.some.inj hv
      rw [if_pos rfl] at hz
      split at hz
      · obtain rfl := Option.some.inj hz
        exact OwnInts.of ((hr.lo hb1).mono (by omega))
      · cases hz
    · rw [if_neg h3] at hz
      refine (r.rows i v zs hv hz).imp fun ad' n2 cap2 hn2 hv2 hr2 => ?_
      subst hv2
      obtain ⟨b2, rfl, c1, c2, hr3⟩ := hr2.tight hn2
      have hn3 : n2 ≠ 0 := by omega
      have hne : b2 ≠ b := fun hh => r.apart j i _ _ b h3 hu hv hbo (by simp [blockOf, hn3, hh])
      exact ((hr3.mv m (by omega)).lo c1).mono (by omega)
/-- A new row is appended: its block is none of the others'. -/
theorem Grid.snoc {g cap' l2 h2 : Nat} (r : Grid w l h e e1 ad n cap us xss) (hu : OwnInts w l2 h2 e u xs) (hg : ∀ b, blockOf u = some b → ad ≠ some ⟨b, 0, none⟩) (hne : ∀ (i : Nat) (v : Value) (b : Nat), us[i]? = some v → blockOf v = some b → blockOf u ≠ some b)
    (o : RowV w' g (g + 1) e1 (some ⟨g, 0, none⟩) (n + 1) cap' (us ++ [u])) (p : Put w w' l h ad g) (hl : l ≤ w.heap.size) (hl2 : l ≤ l2) :
    Grid w' l w'.heap.size e e1 (some ⟨g, 0, none⟩) (n + 1) cap' (us ++ [u]) (xss ++ [xs]) := by
  have hus := r.out.len
  have keep : ∀ v ys, OwnInts w l w.heap.size e v ys → (∀ b, blockOf v = some b → ad ≠ some ⟨b, 0, none⟩) → OwnInts w' l w'.heap.size e v ys := by
    intro v ys ho hb
    rcases p with ⟨rfl, q1, q2, q3, m⟩ | ⟨q, b⟩
    · refine ho.imp fun ad' n' cap' hn hv hr => ?_
      subst hv
      obtain ⟨c, rfl, b1, b2, hr'⟩ := hr.tight hn
      have hn' : n' ≠ 0 := by omega
      have hbg : c ≠ g := fun hh => hb c (by simp [blockOf, hn']) (by rw [hh])
      exact ((hr'.mv m (by omega)).lo b1).mono (by have := m.size; omega)
    · exact (ho.below b (.inl (Nat.le_refl _))).mono b.size
  have hgl : l ≤ g := by
    rcases p with ⟨_, q1, _⟩ | ⟨q, _⟩ <;> omega
  have hnew : ∀ (j : Nat) (v : Value) (b : Nat), (us ++ [u])[j]? = some v → blockOf v = some b → b ≠ g := by
    intro j v b hv hb hbg
    subst hbg
    rcases p with ⟨rfl, _⟩ | ⟨q, _⟩
    · by_cases hj : j < us.length
      · rw [List.getElem?_append_left hj] at hv
        exact r.away j v b b hv hb rfl rfl
      · rw [List.getElem?_append_right (by omega)] at hv
        obtain rfl : u = v := by
          rcases Nat.eq_zero_or_pos (j - us.length) with h | h
          · rw [h] at hv; simpa using hv
          · rw [List.getElem?_eq_none (by simp; omega)] at hv; cases hv
        exact hg b hb rfl
    · by_cases hj : j < us.length
      · rw [List.getElem?_append_left hj] at hv
        have := (r.block hv hb).2.2
        omega
      · rw [List.getElem?_append_right (by omega)] at hv
        obtain rfl : u = v := by
          rcases Nat.eq_zero_or_pos (j - us.length) with h | h
          · rw [h] at hv; simpa using hv
          · rw [List.getElem?_eq_none (by simp; omega)] at hv; cases hv
        have := (hu.block hb).2.2
        omega
  refine ⟨((o.lo hgl).lt), by rw [List.length_append, r.len]; rfl, ?_, ?_, fun j v b g' hv hb hge => ?_⟩
  · intro j v ys hv hy
    by_cases hj : j < us.length
    · rw [List.getElem?_append_left hj] at hv
      rw [List.getElem?_append_left (by rw [r.len, ← hus]; exact hj)] at hy
      exact keep v ys ((r.rows j v ys hv hy).lt) fun b hb hge => r.away j v b b hv hb hge rfl
    · rw [List.getElem?_append_right (by omega)] at hv
      rw [List.getElem?_append_right (by rw [r.len, ← hus]; omega)] at hy
      have h0 : j - us.length = 0 := by
        rcases Nat.eq_zero_or_pos (j - us.length) with h | h
        · exact h
        · rw [List.getElem?_eq_none (by simp; omega)] at hv; cases hv
      have h0' : j - xss.length = 0 := by rw [r.len, ← hus]; exact h0
      rw [h0] at hv
      rw [h0'] at hy
      obtain rfl : u = v := by simpa using hv
      obtain rfl : xs = ys := by simpa using hy
      exact keep u xs (hu.lo hl2).lt hg
  · intro i j v v' b hij hv hv' hb
    by_cases hi : i < us.length
    · rw [List.getElem?_append_left hi] at hv
      by_cases hj : j < us.length
      · rw [List.getElem?_append_left hj] at hv'
        exact r.apart i j v v' b hij hv hv' hb
      · rw [List.getElem?_append_right (by omega)] at hv'
        obtain rfl : u = v' := by
          rcases Nat.eq_zero_or_pos (j - us.length) with h | h
          · rw [h] at hv'; simpa using hv'
          · rw [List.getElem?_eq_none (by simp; omega)] at hv'; cases hv'
        exact hne i v b hv hb
    · rw [List.getElem?_append_right (by omega)] at hv
      have h0 : i - us.length = 0 := by
        rcases Nat.eq_zero_or_pos (i - us.length) with h | h
        · exact h
        · rw [List.getElem?_eq_none (by simp; omega)] at hv; cases hv
      rw [h0] at hv
      obtain rfl : u = v := by simpa using hv
      by_cases hj : j < us.length
      · rw [List.getElem?_append_left hj] at hv'
        exact fun hb' => hne j v' b hv' hb' hb
      · rw [List.getElem?_append_right (by omega)] at hv'
        rcases Nat.eq_zero_or_pos (j - us.length) with h | h
        · omega
        · rw [List.getElem?_eq_none (by simp; omega)] at hv'; cases hv'
  · obtain rfl := (Addr.mk.inj (Option.some.inj hge)).1
    exact hnew j v b hv hb
theorem Grid.add {g cap' s h2 : Nat} (r : Grid w l s e e1 ad n cap us xss) (hu : OwnInts w s h2 e u xs) (had : ∀ g, ad = some ⟨g, 0, none⟩ → g < s)
    (o : RowV w' g (g + 1) e1 (some ⟨g, 0, none⟩) (n + 1) cap' (us ++ [u])) (p : Put w w' l s ad g) (hl : l ≤ w.heap.size) (hls : l ≤ s) :
    Grid w' l w'.heap.size e e1 (some ⟨g, 0, none⟩) (n + 1) cap' (us ++ [u]) (xss ++ [xs]) ∧ ∀ g', some (Addr.mk g 0 none) = some ⟨g', 0, none⟩ → g' < w'.heap.size := by
  refine ⟨r.snoc hu (fun b hb h => ?_) (fun i v b hv hb h => ?_) o p hl hls, fun g' hg => ?_⟩
  · have h1 := (hu.block hb).1
    have h2 := had b h
    omega
  · have h1 := (hu.block h).1
    have h2 := (r.block hv hb).2.1
    omega
  · obtain rfl := (Addr.mk.inj (Option.some.inj hg)).1
    obtain ⟨_, hg2, _, h3⟩ := o.lt.pos (by omega)
    obtain rfl := (Addr.mk.inj (Option.some.inj hg2)).1
    exact h3
end
end Go.Proofs.Ytlgmiojlpnoiaaa.Seq
namespace Go.Proofs.Ytlgmiojlpnoiaaa.Drawn

variable {P : Program} {ops : Array Oper} {Q : Exit → Act → World → Prop} {md : Region.Mode}

/-- In the store's place: nothing. -/
def idle (o : Oper) : Oper := { o with op := .move (.const (.bool false)), dst := none, guard := none }
def cutAt (ops : Array Oper) (s : Nat) : Array Oper := match ops[s]? with | some o => ops.setIfInBounds s (idle o) | none => ops
/-- Edges lead to earlier operations; the last operation waits for all; it has no guard and yields nothing. -/
def lastB (md : Region.Mode) (ops : Array Oper) (s : Nat) : Bool :=
  (List.range ops.size).all (fun i => match ops[i]? with | some o => o.after.all fun e => decide (e.on < i) | none => true) &&
  (match ops[s]? with | some o => (List.range ops.size).all (fun j => j == s || o.after.any fun e => Region.binds md e && e.on == j) && o.dst.isNone && o.guard.isNone | none => false)

theorem cut_ne {s i : Nat} (h : i ≠ s) : (cutAt ops s)[i]? = ops[i]? := by
  unfold cutAt
  split
  · rw [Array.getElem?_setIfInBounds_ne (Ne.symm h)]
  · rfl
theorem cut_at {s : Nat} {o : Oper} (h : ops[s]? = some o) : (cutAt ops s)[s]? = some (idle o) := by
  have hlt := (Array.getElem?_eq_some_iff.1 h).1
  unfold cutAt
  rw [h]
  simp [hlt]
theorem cut_size {s : Nat} : (cutAt ops s).size = ops.size := by
  unfold cutAt; split <;> simp
theorem cut_ready {s : Nat} (listed : Array Bool) : Region.ready md (cutAt ops s) listed = Region.ready md ops listed := by
  unfold Region.ready
  rw [cut_size]
  apply List.filter_congr
  intro j _
  by_cases hj : j = s
  · subst hj
    cases ho : ops[j]? with
    | none => rw [show cutAt ops j = ops by unfold cutAt; rw [ho]]; rw [ho]
    | some o => rw [cut_at ho]; rfl
  · rw [cut_ne hj]
theorem cut_yielded {s : Nat} {o : Oper} (h : ops[s]? = some o) (hd : o.dst = none) (tmps : Array Value) : yielded (cutAt ops s) tmps = yielded ops tmps := by
  funext j
  unfold yielded
  by_cases hj : j = s
  · subst hj; rw [cut_at h, h]; simp [idle, hd]
  · rw [cut_ne hj]

/-- The post of what is walked ahead of the store. -/
def Ahead (P : Program) (ops : Array Oper) (s : Nat) (Q : Exit → Act → World → Prop) : Exit → Act → World → Prop
  | .normal, a, w => ∃ o, ops[s]? = some o ∧ o.wp P a w (Q .normal) Q
  | e, a, w => Q e a w

theorem wp_ahead {s : Nat} {o : Oper} {a : Act} {w : World} {K : Act → World → Prop} (h : o.wp P a w K (Ahead P ops s Q)) : o.wp P a w K Q := by
  unfold Oper.wp at *
  generalize (execOp a.eval o).run P w = r at *
  cases r with
  | ok n w' =>
    cases n <;> simp only [Oper.upon] at h ⊢ <;>
      first
        | exact h
        | exact Calls.mono h (fun e w'' he => by cases e <;> exact he)
  | halt x w' => cases x <;> simp only [Oper.upon] at h ⊢ <;> exact h
theorem wpOp_ahead {s i : Nat} {a : Act} {w : World} {K : Act → World → Prop} {o : Oper} (ho : ops[s]? = some o) (hd : o.dst = none) (hi : i ≠ s) (h : wpOp P (cutAt ops s) (Ahead P ops s Q) i K a w) : wpOp P ops Q i K a w := by
  unfold wpOp at *
  rw [cut_ne hi, cut_yielded ho hd] at h
  cases hoi : ops[i]? with
  | none => rw [hoi] at h; exact h
  | some oi =>
    rw [hoi] at h
    dsimp only at h ⊢
    split
    · rename_i hw
      rw [if_pos hw] at h
      exact h.imp wp_ahead id
    · rename_i hw
      rw [if_neg hw] at h
      exact h

theorem idle_step {o : Oper} {a : Act} {w : World} {K : Act → World → Prop} {E : Prop} (h : (idle o).wp P a w K Q ∨ ((idle o).asks P a w ∧ E)) : K a w := by
  rcases h with h | ⟨h, _⟩
  · unfold Oper.wp idle execOp at h
    simpa [Oper.upon, Act.put, Act.eval] using h
  · unfold Oper.asks idle execOp at h
    exact absurd h.1 (by show ¬ noRoomEvent ∈ (#[] : Array Event); simp)

theorem some_ready {listed : Array Bool} {s : Nat} (hb : lastB md ops s = true) (hsz : listed.size = ops.size) (hs : listed.getD s true = false) : Region.ready md ops listed ≠ [] := by
  have hex : ∀ n, ∀ i, i ≤ n → listed.getD i true = false → i < ops.size → Region.ready md ops listed ≠ [] := by
    intro n
    induction n with
    | zero =>
      intro i hi hun hlt
      obtain rfl : i = 0 := by omega
      refine List.ne_nil_of_mem (a := 0) (mem_ready.2 ⟨hun, ops[0], Array.getElem?_eq_getElem hlt, fun e he _ => ?_⟩)
      simp only [lastB, Bool.and_eq_true, List.all_eq_true, List.mem_range] at hb
      have := hb.1 0 hlt
      rw [Array.getElem?_eq_getElem hlt] at this
      have := Array.all_eq_true'.1 this e he
      simp at this
    | succ n ih =>
      intro i hi hun hlt
      by_cases hall : ∀ j, j < i → listed.getD j true = true
      · refine List.ne_nil_of_mem (a := i) (mem_ready.2 ⟨hun, ops[i], Array.getElem?_eq_getElem hlt, fun e he _ => ?_⟩)
        simp only [lastB, Bool.and_eq_true, List.all_eq_true, List.mem_range] at hb
        have h1 := hb.1 i hlt
        rw [Array.getElem?_eq_getElem hlt] at h1
        have h2 := Array.all_eq_true'.1 h1 e he
        simp only [decide_eq_true_eq] at h2
        have h3 := hall e.on h2
        have h4 : e.on < listed.size := by omega
        simpa [h4] using h3
      · simp only [Classical.not_forall, Bool.not_eq_true] at hall
        obtain ⟨j, hj, hjf⟩ := hall
        exact ih j (by omega) hjf (by omega)
  have hlt : s < ops.size := by
    rcases Nat.lt_or_ge s listed.size with h | h
    · omega
    · simp [Array.getElem?_eq_none h] at hs
  exact hex s s (Nat.le_refl _) hs hlt

theorem wpAny_last {s : Nat} (hb : lastB md ops s = true) : ∀ (fuel : Nat) (listed : Array Bool) (a : Act) (w : World), listed.size = ops.size → listed.getD s true = false →
    wpAny P md (cutAt ops s) (Ahead P ops s Q) fuel listed a w → wpAny P md ops Q fuel listed a w := by
  have hb0 := hb
  unfold lastB at hb
  rw [Bool.and_eq_true] at hb
  obtain ⟨_, hb2⟩ := hb
  cases ho : ops[s]? with
  | none => rw [ho] at hb2; cases hb2
  | some o =>
    rw [ho] at hb2
    simp only [Bool.and_eq_true, List.all_eq_true, List.mem_range, Option.isNone_iff_eq_none] at hb2
    obtain ⟨⟨hwait, hd⟩, hg⟩ := hb2
    intro fuel
    induction fuel with
    | zero =>
      intro listed a w hsz hs h
      exact absurd (by have := h.1; rwa [cut_ready] at this) (some_ready hb0 hsz hs)
    | succ fuel ih =>
      intro listed a w hsz hs h
      refine ⟨fun h0 => absurd h0 (some_ready hb0 hsz hs), fun i hi => ?_⟩
      have hi' := h.2 i (by rw [cut_ready]; exact hi)
      by_cases his : i = s
      · subst his
        unfold wpOp at hi'
        rw [cut_at ho] at hi'
        dsimp only at hi'
        rw [if_pos (by simp [Region.wanted, idle])] at hi'
        have hK := idle_step hi'
        have hall : Region.ready md ops (listed.setIfInBounds i true) = [] := by
          rw [List.eq_nil_iff_forall_not_mem]
          intro j hj
          obtain ⟨hun, oj, hoj, _⟩ := mem_ready.1 hj
          by_cases hji : j = i
          · subst hji
            have hlt := (Array.getElem?_eq_some_iff.1 ho).1
            simp [hsz, hlt] at hun
          · rw [getD_set_ne true (Ne.symm hji)] at hun
            obtain ⟨_, oi, hoi, hon⟩ := mem_ready.1 hi
            obtain rfl := Option.some.inj (ho.symm.trans hoi)
            have h1 := hwait j (Array.getElem?_eq_some_iff.1 hoj).1
            simp only [Bool.or_eq_true, beq_iff_eq] at h1
            rcases h1 with h1 | h1
            · exact hji h1
            · obtain ⟨e, he, hbe⟩ := Array.any_eq_true'.1 h1
              simp only [Bool.and_eq_true, beq_iff_eq] at hbe
              have h2 := hon e he hbe.1
              rw [hbe.2] at h2
              have hlt := (Array.getElem?_eq_some_iff.1 hoj).1
              rw [← hsz] at hlt
              simp [hlt] at h2 hun
              rw [h2] at hun
              cases hun
        have hA : Ahead P ops i Q .normal a w := by
          cases fuel with
          | zero => exact hK.2
          | succ f => exact hK.1 (by rw [cut_ready]; exact hall)
        obtain ⟨o', ho', hwp⟩ := hA
        obtain rfl := Option.some.inj (ho.symm.trans ho')
        unfold wpOp
        rw [ho]
        dsimp only
        rw [if_pos (by simp [Region.wanted, hg])]
        exact .inl (Oper.wp_mono (fun a' w' hq => wpAny_done hall hq _) hwp)
      · refine wpOp_mono (fun a' w' h' => ih _ a' w' (by simp [hsz]) ?_ h') (wpOp_ahead ho hd his hi')
        rw [getD_set_ne true his]; exact hs

/-- The beginning, as the walk meets it. -/
theorem wp_region_last {S : World → Prop} {id : Nat} {a : Act} {w : World} (s : Nat) (hm : P.follows .mixedOrders = true) (hb : lastB .any ops s = true) (hl : (Array.replicate ops.size false).getD s true = false)
    (h : wpAnyH P .any (cutAt ops s) (Ahead P ops s Q) S ops.size (Array.replicate ops.size false) a w.drew) : (Code.region id ops true).wp P Q a w :=
  wp_region_any hm (wpAny_last hb _ _ _ _ (by simp) hl (wpAny_of_held _ _ _ _ h))
end Go.Proofs.Ytlgmiojlpnoiaaa.Drawn
