/-
  Slices of slices of integers: one that reads as a list of lists (Sls), an argument (RowsAt), and one that the call itself has made (Grid). No program.
-/
import Derived.Test.YthhnfbhpdcemfaaSeqV
import Derived.Deep.Matrix
namespace Go.Proofs.Ythhnfbhpdcemfaa.Seq
open Go.ChangeShapes Go.WideShapes Go.RowKit

theorem add_0 (a : Addr) : a.add 0 = a := by unfold Addr.add; simp

/-- An argument: a slice of slices of integers that reads in a world. -/
structure RowsAt (k : IntKind) (w : World) (v : Value) (ad : Option Addr) (n cap : Nat) : Prop where
  val : v = .slice ad n cap
  len : n ≤ cap
  nil : ad = none → cap = 0
  cap : cap ≤ maxLen
  cells : ∀ j, j < n → ∃ (a : Addr) (ad' : Option Addr) (n' cap' : Nat), ad = some a ∧ w.cell? (a.add j) = some (.slice ad' n' cap') ∧ Kit.IntsAt k w (.slice ad' n' cap') ad' n' cap'

section
variable {H : Type} {enc : TypeId × Value → H} {P : Program}
theorem rows_at {k : IntKind} {t e q : TypeId} {W : World} {r : Reach} {b0 : Nat} {v : Value} {d : DataW H} {ps : List MemPlace} (ht : P.underlying t = some (.slice e)) (he : P.underlying e = some (.slice q)) (hq : P.underlying q = some (.int k))
    (ce : P.cellsOf e = 1) (cq : P.cellsOf q = 1) (hval : Value.okWide P W r b0 t v) (h : DataW.Trod enc P W 0 (fun _ => true) true t v d ps) : ∃ ad n cap, RowsAt k W v ad n cap := by
  obtain ⟨a, l, c, rfl⟩ := okWide_slice ht hval
  obtain ⟨fuel, hf⟩ := h
  rcases Deep.open_int_rows ht he hq ce cq hf with ⟨h1, _⟩ | ⟨ad, len, cap, A, L, C, Z, h1, _, h3, h4, _, h6⟩
  · have h1' : (Value.slice a l c) = .slice none 0 0 := by simpa [Value.cells] using h1
    exact ⟨_, _, _, h1', Nat.le_refl _, fun _ => rfl, Nat.zero_le _, fun j hj => by omega⟩
  · have h1' : (Value.slice a l c) = .slice (some ad) len cap := by simpa [Value.cells] using h1
    refine ⟨_, _, _, h1', h3, fun h => by simp at h, h4, fun j hj => ?_⟩
    obtain ⟨g1, g2, g3, g4, g5, g6, g7⟩ := h6 j (by omega)
    refine ⟨ad, A j, L j, C j, rfl, g1, rfl, g2, g6, g3, fun i hi => ?_⟩
    have hA : ∃ a', A j = some a' := by
      cases hh : A j with
      | none => have := g6 hh; omega
      | some a' => exact ⟨a', rfl⟩
    obtain ⟨a', ha⟩ := hA
    have hz : i < (Z j).length := by omega
    refine ⟨a', (Z j).getD i 0, ha, ?_, (g7 a' ha).2 i (by omega)⟩
    rw [List.getD_eq_getElem?_getD, List.getElem?_eq_getElem hz]
    exact g5 _ (by simp)
end

/-- The value is a slice that reads as xs. -/
def IsInts (w : World) (l h : Nat) (u : Value) (xs : List Int) : Prop := ∃ ad n cap, u = .slice ad n cap ∧ Sl w l h .i64 ad n cap xs
theorem IsInts.one {w : World} {l h : Nat} {u : Value} {xs : List Int} (s : IsInts w l h u xs) : u.oneCell' = true := by
  obtain ⟨ad, n, cap, rfl, _⟩ := s; rfl

/-- The slice with this address, length and capacity reads as the list xss of lists; all its cells lie in blocks from l up to (not with) h. -/
structure Sls (w : World) (l h : Nat) (ad : Option Addr) (n cap : Nat) (xss : List (List Int)) : Prop where
  len : xss.length = n
  le : n ≤ cap
  big : cap ≤ maxLen
  nil : ad = none → cap = 0
  cells : ∀ j xs, xss[j]? = some xs → ∃ a u, ad = some a ∧ l ≤ a.block ∧ a.block < h ∧ w.cell? (a.add j) = some u ∧ IsInts w l h u xs

/-- One row: what it reads as. -/
structure RowAt (w : World) (l h : Nat) (a : Addr) (xss : List (List Int)) (j : Nat) (ad' : Option Addr) (n' cap' : Nat) (xs : List Int) : Prop where
  get : xss[j]? = some xs
  sl : Sl w l h .i64 ad' n' cap' xs

section
variable {w w' : World} {l h l' h' : Nat} {ad : Option Addr} {n cap : Nat} {xss : List (List Int)}
theorem Sls.at_ (s : Sls w l h ad n cap xss) {j : Nat} (hj : j < n) : ∃ a ad' n' cap' xs, ad = some a ∧ RowAt w l h a xss j ad' n' cap' xs ∧ w.cell? (a.add j) = some (.slice ad' n' cap') := by
  have hl : j < xss.length := by rw [s.len]; exact hj
  obtain ⟨a, u, e, _, _, h3, ad', n', cap', rfl, h4⟩ := s.cells j xss[j] (List.getElem?_eq_getElem hl)
  exact ⟨a, ad', n', cap', xss[j], e, ⟨List.getElem?_eq_getElem hl, h4⟩, h3⟩
theorem Sls.keep (s : Sls w l h ad n cap xss) (hk : ∀ p : Addr, l ≤ p.block → p.block < h → ∀ u, w.cell? p = some u → w'.cell? p = some u) : Sls w' l h ad n cap xss :=
  ⟨s.len, s.le, s.big, s.nil, fun j x hx => by
    obtain ⟨a, u, e, h1, h2, h3, ad', n', cap', rfl, h4⟩ := s.cells j x hx
    exact ⟨a, _, e, h1, h2, hk _ (by rw [add_block]; exact h1) (by rw [add_block]; exact h2) _ h3, ad', n', cap', rfl, h4.keep hk⟩⟩
theorem Sls.mv (s : Sls w l h ad n cap xss) (m : Mv w w' l' h') (hd : h ≤ l' ∨ h' ≤ l) : Sls w' l h ad n cap xss :=
  s.keep fun p h1 h2 u hu => (World.cell?_of_block (m.block p.block (World.block_lt_of_cell? w p hu) (by omega))).trans hu
theorem Sls.below {B : Nat} (s : Sls w l h ad n cap xss) (m : Below B w w') (hB : h ≤ B ∨ w.heap.size ≤ B) : Sls w' l h ad n cap xss :=
  s.keep fun p h1 h2 u hu => (m.cell (by have := World.block_lt_of_cell? w p hu; omega)).trans hu
theorem Sls.mono (s : Sls w l h ad n cap xss) (h1 : l' ≤ l) (h2 : h ≤ h') : Sls w l' h' ad n cap xss :=
  ⟨s.len, s.le, s.big, s.nil, fun j x hx => by
    obtain ⟨a, u, e, g1, g2, g3, ad', n', cap', rfl, g4⟩ := s.cells j x hx
    exact ⟨a, _, e, by omega, by omega, g3, ad', n', cap', rfl, g4.mono h1 h2⟩⟩
theorem Sls.drewN (s : Sls w l h ad n cap xss) (m : Nat) : Sls (w.drewN m) l h ad n cap xss :=
  s.keep fun _ _ _ _ hu => hu
theorem Sls.alloc (s : Sls w l h ad n cap xss) (o : Obj) : Sls (w.alloc o) l h ad n cap xss := s.mv ((Mv.refl w 0 0).alloc o) (.inr (Nat.zero_le _))
theorem Sls.lt {B : Nat} (s : Sls w l h ad n cap xss) (hB : w.heap.size ≤ B) : Sls w l B ad n cap xss :=
  ⟨s.len, s.le, s.big, s.nil, fun j x hx => by
    obtain ⟨a, u, e, g1, g2, g3, ad', n', cap', rfl, g4⟩ := s.cells j x hx
    have := World.block_lt_of_cell? w _ g3
    rw [add_block] at this
    exact ⟨a, _, e, g1, by omega, g3, ad', n', cap', rfl, g4.lt hB⟩⟩

/-- A list is built element by element. -/
theorem build {α : Type} (n : Nat) (p : Nat → α → Prop) (h : ∀ j, j < n → ∃ x, p j x) : ∃ xs : List α, xs.length = n ∧ ∀ j x, xs[j]? = some x → p j x := by
  induction n with
  | zero => exact ⟨[], rfl, by simp⟩
  | succ n ih =>
    obtain ⟨xs, h1, h2⟩ := ih fun j hj => h j (by omega)
    obtain ⟨x, hx⟩ := h n (Nat.lt_succ_self n)
    refine ⟨xs ++ [x], by simp [h1], fun j y hy => ?_⟩
    by_cases hj : j < xs.length
    · rw [List.getElem?_append_left hj] at hy
      exact h2 j y hy
    · rw [List.getElem?_append_right (by omega)] at hy
      have hj0 : j - xs.length = 0 := by
        rcases Nat.eq_zero_or_pos (j - xs.length) with h | h
        · exact h
        · rw [List.getElem?_eq_none (by simp; omega)] at hy; cases hy
      rw [hj0] at hy
      obtain rfl : x = y := by simpa using hy
      obtain rfl : j = n := by omega
      exact hx

theorem of_rows {v : Value} (s : RowsAt .i64 w v ad n cap) : ∃ xss, v = .slice ad n cap ∧ Sls w 0 w.heap.size ad n cap xss := by
  obtain ⟨xss, h1, h2⟩ := build (α := List Int) n (fun j xs => ∃ a u, ad = some a ∧ a.block < w.heap.size ∧ w.cell? (a.add j) = some u ∧ IsInts w 0 w.heap.size u xs) fun j hj => by
    obtain ⟨a, ad', n', cap', e, hc, hi⟩ := s.cells j hj
    obtain ⟨xs, _, hs⟩ := of_ints hi
    have := World.block_lt_of_cell? w _ hc
    rw [add_block] at this
    exact ⟨xs, a, _, e, this, hc, ad', n', cap', rfl, hs⟩
  exact ⟨xss, s.val, h1, s.len, s.cap, s.nil, fun j xs hx => by
    obtain ⟨a, u, e, hb, hc, hi⟩ := h2 j xs hx
    exact ⟨a, u, e, Nat.zero_le _, hb, hc, hi⟩⟩
end

/-- The value is a slice of the call's own that reads as xs, its block within; or it has no elements. -/
def OwnInts (w : World) (l h : Nat) (e : TypeId) (u : Value) (xs : List Int) : Prop :=
  ∃ ad n cap, u = .slice ad n cap ∧ ((n = 0 ∧ xs = [] ∧ cap ≤ maxLen ∧ (ad = none → cap = 0)) ∨ (0 < n ∧ Row w l h .i64 e ad n cap xs))
theorem Sl.none (w : World) (l h : Nat) (k : IntKind) (ad : Option Addr) (cap : Nat) (h1 : cap ≤ maxLen) (h2 : ad = none → cap = 0) : Sl w l h k ad 0 cap [] := ⟨rfl, Nat.zero_le _, h1, h2, by simp, by simp⟩
/-- The block that the value's elements lie in, if it has any. -/
def blockOf : Value → Option Nat
  | .slice (some a) n _ => if n = 0 then none else some a.block
  | _ => none

/-- A slice of slices that the call itself has made: each row, and the list of rows, has a block of its own. -/
structure Grid (w : World) (l h : Nat) (e e1 : TypeId) (ad : Option Addr) (n cap : Nat) (us : List Value) (xss : List (List Int)) : Prop where
  out : RowV w l h e1 ad n cap us
  len : xss.length = n
  rows : ∀ (j : Nat) (u : Value) (xs : List Int), us[j]? = some u → xss[j]? = some xs → OwnInts w l h e u xs
  apart : ∀ (i j : Nat) (u v : Value) (b : Nat), i ≠ j → us[i]? = some u → us[j]? = some v → blockOf u = some b → blockOf v ≠ some b
  away : ∀ (j : Nat) (u : Value) (b g : Nat), us[j]? = some u → blockOf u = some b → ad = some ⟨g, 0, none⟩ → b ≠ g

section
variable {w w' : World} {l h l' h' : Nat} {e e1 : TypeId} {ad : Option Addr} {n cap : Nat} {us : List Value} {xss : List (List Int)} {u : Value} {xs : List Int}
theorem OwnInts.of {ad : Option Addr} {n cap : Nat} (r : Row w l h .i64 e ad n cap xs) : OwnInts w l h e (.slice ad n cap) xs := by
  by_cases hn : n = 0
  · subst hn
    exact ⟨ad, 0, cap, rfl, .inl ⟨rfl, List.eq_nil_of_length_eq_zero r.len, r.big, r.sl.nil⟩⟩
  · exact ⟨ad, n, cap, rfl, .inr ⟨by omega, r⟩⟩
theorem OwnInts.none (w : World) (l h : Nat) (e : TypeId) : OwnInts w l h e (.slice .none 0 0) [] := ⟨_, _, _, rfl, .inl ⟨rfl, rfl, Nat.zero_le _, fun _ => rfl⟩⟩
theorem OwnInts.imp (s : OwnInts w l h e u xs) (f : ∀ ad n cap, 0 < n → u = .slice ad n cap → Row w l h .i64 e ad n cap xs → Row w' l' h' .i64 e ad n cap xs) : OwnInts w' l' h' e u xs := by
  obtain ⟨ad, n, cap, rfl, r⟩ := s
  exact ⟨ad, n, cap, rfl, r.imp id fun ⟨hn, r⟩ => ⟨hn, f ad n cap hn rfl r⟩⟩
theorem OwnInts.ints (s : OwnInts w l h e u xs) : IsInts w l h u xs := by
  obtain ⟨ad, n, cap, rfl, ⟨rfl, rfl, h1, h2⟩ | ⟨_, r⟩⟩ := s
  · exact ⟨ad, 0, cap, rfl, Sl.none _ _ _ _ _ _ h1 h2⟩
  · exact ⟨ad, n, cap, rfl, r.sl⟩
theorem OwnInts.one (s : OwnInts w l h e u xs) : u.oneCell' = true := s.ints.one
theorem OwnInts.mv (s : OwnInts w l h e u xs) (m : Mv w w' l' h') (hd : h ≤ l' ∨ h' ≤ l) : OwnInts w' l h e u xs := s.imp fun _ _ _ _ _ r => r.mv m hd
theorem OwnInts.below {B : Nat} (s : OwnInts w l h e u xs) (m : Below B w w') (hB : h ≤ B ∨ w.heap.size ≤ B) : OwnInts w' l h e u xs := s.imp fun _ _ _ _ _ r => r.below m hB
theorem OwnInts.mono (s : OwnInts w l h e u xs) (h2 : h ≤ h') : OwnInts w l h' e u xs := s.imp fun _ _ _ _ _ r => r.mono h2
theorem OwnInts.lo (s : OwnInts w l h e u xs) (h2 : l' ≤ l) : OwnInts w l' h e u xs := s.imp fun _ _ _ _ _ r => r.lo h2
theorem OwnInts.lt (s : OwnInts w l h e u xs) : OwnInts w l w.heap.size e u xs := s.imp fun _ _ _ _ _ r => r.lt
theorem OwnInts.block (s : OwnInts w l h e u xs) {b : Nat} (hb : blockOf u = some b) : l ≤ b ∧ b < h ∧ b < w.heap.size := by
  obtain ⟨ad, n, cap, rfl, ⟨rfl, _⟩ | ⟨hn, r⟩⟩ := s
  · cases ad <;> simp [blockOf] at hb
  · obtain ⟨g, rfl, h1, h2⟩ := r.pos hn
    obtain rfl : g = b := by
      have hn' : n ≠ 0 := by omega
      simpa [blockOf, hn'] using hb
    obtain ⟨_, hg, _, hg2⟩ := r.lt.pos hn
    obtain rfl := (Addr.mk.inj (Option.some.inj hg)).1
    exact ⟨h1, h2, hg2⟩
/-- The row with its one block. -/
theorem Row.tight {k : IntKind} {xs : List Int} (r : Row w l h k e ad n cap xs) (hn : 0 < n) : ∃ g, ad = some ⟨g, 0, none⟩ ∧ l ≤ g ∧ g < h ∧ Row w g (g + 1) k e (some ⟨g, 0, none⟩) n cap xs := by
  rcases r.own with ⟨h0, _⟩ | ⟨g, rfl, h1, h2, h3⟩
  · omega
  · exact ⟨g, rfl, h1, h2, r.len, r.le, r.big, r.fits, .inr ⟨g, rfl, Nat.le_refl _, Nat.lt_succ_self _, by
      refine ⟨h3.1, ?_⟩
      rcases h3.2 with ⟨hn', _⟩ | ⟨g', c', cur, hv, _, q⟩
      · simp at hn'
      · obtain rfl : g = g' := by simpa [Value.ownBlock] using congrArg Value.ownBlock hv
        exact .inr ⟨g, c', cur, hv, Nat.le_refl _, q⟩⟩⟩

theorem Grid.sls (r : Grid w l h e e1 ad n cap us xss) : Sls w l h ad n cap xss := by
  refine ⟨r.len, r.out.le, r.out.big, r.out.sl.nil, fun j xs hx => ?_⟩
  have hj : j < us.length := by rw [r.out.len, ← r.len]; exact (List.getElem?_eq_some_iff.1 hx).1
  obtain ⟨a, ea, h1, h2, h3⟩ := r.out.sl.cells j us[j] (List.getElem?_eq_getElem hj)
  exact ⟨a, us[j], ea, h1, h2, h3, (r.rows j _ _ (List.getElem?_eq_getElem hj) hx).ints⟩
theorem Grid.mv (r : Grid w l h e e1 ad n cap us xss) (m : Mv w w' l' h') (hd : h ≤ l' ∨ h' ≤ l) : Grid w' l h e e1 ad n cap us xss :=
  ⟨r.out.mv m hd, r.len, fun j u xs hu hx => (r.rows j u xs hu hx).mv m hd, r.apart, r.away⟩
theorem Grid.below {B : Nat} (r : Grid w l h e e1 ad n cap us xss) (m : Below B w w') (hB : h ≤ B ∨ w.heap.size ≤ B) : Grid w' l h e e1 ad n cap us xss :=
  ⟨r.out.below m hB, r.len, fun j u xs hu hx => (r.rows j u xs hu hx).below m hB, r.apart, r.away⟩
theorem Grid.mono (r : Grid w l h e e1 ad n cap us xss) (h2 : h ≤ h') : Grid w l h' e e1 ad n cap us xss :=
  ⟨r.out.mono h2, r.len, fun j u xs hu hx => (r.rows j u xs hu hx).mono h2, r.apart, r.away⟩
theorem Grid.lo (r : Grid w l h e e1 ad n cap us xss) (h2 : l' ≤ l) : Grid w l' h e e1 ad n cap us xss :=
  ⟨r.out.lo h2, r.len, fun j u xs hu hx => (r.rows j u xs hu hx).lo h2, r.apart, r.away⟩
theorem Grid.lt (r : Grid w l h e e1 ad n cap us xss) : Grid w l w.heap.size e e1 ad n cap us xss :=
  ⟨r.out.lt, r.len, fun j u xs hu hx => (r.rows j u xs hu hx).lt, r.apart, r.away⟩
theorem Grid.alloc (r : Grid w l h e e1 ad n cap us xss) (o : Obj) : Grid (w.alloc o) l h e e1 ad n cap us xss := r.mv ((Mv.refl w 0 0).alloc o) (.inr (Nat.zero_le _))
theorem Grid.drewN (r : Grid w l h e e1 ad n cap us xss) (k : Nat) : Grid (w.drewN k) l h e e1 ad n cap us xss := r.mv ((Mv.refl w 0 0).drewN k) (.inr (Nat.zero_le _))
theorem Grid.nil (w : World) (l h : Nat) (e e1 : TypeId) (ad : Option Addr) : Grid w l h e e1 ad 0 0 [] [] :=
  ⟨RowV.nil _ _ _ _ _, rfl, by simp, by simp, by simp⟩
theorem Grid.row (r : Grid w l h e e1 ad n cap us xss) {j : Nat} (hj : j < n) : ∃ u xs, us[j]? = some u ∧ xss[j]? = some xs ∧ OwnInts w l h e u xs := by
  have h1 : j < us.length := by rw [r.out.len]; exact hj
  have h2 : j < xss.length := by rw [r.len]; exact hj
  exact ⟨us[j], xss[j], List.getElem?_eq_getElem h1, List.getElem?_eq_getElem h2, r.rows j _ _ (List.getElem?_eq_getElem h1) (List.getElem?_eq_getElem h2)⟩

theorem Grid.block (r : Grid w l h e e1 ad n cap us xss) {j b : Nat} (hu : us[j]? = some u) (hb : blockOf u = some b) : l ≤ b ∧ b < h ∧ b < w.heap.size := by
  have h1 := (List.getElem?_eq_some_iff.1 hu).1
  have h2 : j < xss.length := by rw [r.len, ← r.out.len]; exact h1
  exact (r.rows j _ _ hu (List.getElem?_eq_getElem h2)).block hb

/-- A made list of empty rows. -/
theorem Grid.made (r : RowV w l h e1 ad n cap (List.replicate n (.slice none 0 0))) : Grid w l h e e1 ad n cap (List.replicate n (.slice none 0 0)) (List.replicate n []) := by
  refine ⟨r, by simp, fun j u xs hu hx => ?_, fun i j u v b _ hu _ hb => ?_, fun j u b g hu hb _ => ?_⟩
  · obtain rfl := List.eq_of_mem_replicate (List.mem_of_getElem? hu)
    obtain rfl := List.eq_of_mem_replicate (List.mem_of_getElem? hx)
    exact OwnInts.none _ _ _ _
  · obtain rfl := List.eq_of_mem_replicate (List.mem_of_getElem? hu)
    simp [blockOf] at hb
  · obtain rfl := List.eq_of_mem_replicate (List.mem_of_getElem? hu)
    simp [blockOf] at hb

/-- A row is put in place: a new one, whose block is none of the others'. -/
theorem Grid.put {g j : Nat} (r : Grid w l h e e1 (some ⟨g, 0, none⟩) n cap us xss) (hj : j < n) (hu : OwnInts w l h e u xs) (hg : ∀ b, blockOf u = some b → b ≠ g)
    (hne : ∀ i v b, i ≠ j → us[i]? = some v → blockOf v = some b → blockOf u ≠ some b) :
    Grid (w.setCell ⟨g, j, none⟩ u) l h e e1 (some ⟨g, 0, none⟩) n cap (us.set j u) (xss.set j xs) ∧ Mv w (w.setCell ⟨g, j, none⟩ u) l h := by
  obtain ⟨h1, h2⟩ := r.out.set hj hu.one
  obtain ⟨_, hge, hg1, hg2⟩ := r.out.pos (by omega)
  obtain rfl := (Addr.mk.inj (Option.some.inj hge)).1
  have mg : Mv w (w.setCell ⟨g, j, none⟩ u) g (g + 1) := (Mv.refl w g (g + 1)).setCell (Nat.le_refl _) (Nat.lt_succ_self _) u
  have keep : ∀ v ys, OwnInts w l h e v ys → (∀ b, blockOf v = some b → b ≠ g) → OwnInts (w.setCell ⟨g, j, none⟩ u) l h e v ys := by
    intro v ys ho hb
    refine ho.imp fun ad' n' cap' hn hv hr => ?_
    subst hv
    obtain ⟨b, rfl, b1, b2, hr'⟩ := hr.tight hn
    have hn' : n' ≠ 0 := by omega
    have hbg := hb b (by simp [blockOf, hn'])
    exact ((hr'.mv mg (by omega)).lo b1).mono (by omega)
  refine ⟨⟨h1, by rw [List.length_set]; exact r.len, ?_, ?_, ?_⟩, h2⟩
  · intro i v ys hv hy
    rw [List.getElem?_set] at hv hy
    by_cases hij : j = i
    · subst hij
      rw [if_pos rfl] at hv hy
      split at hv
      · split at hy
        · obtain rfl := Option.some.inj hv
          obtain rfl := Option.some.inj hy
          exact keep _ _ hu hg
        · cases hy
      · cases hv
    · rw [if_neg hij] at hv hy
      exact keep _ _ (r.rows i v ys hv hy) fun b hb => r.away i v b g hv hb rfl
  · intro i i' v v' b hii hv hv' hb
    rw [List.getElem?_set] at hv hv'
    by_cases h3 : j = i
    · subst h3
      rw [if_pos rfl] at hv
      rw [if_neg hii] at hv'
      split at hv
      · obtain rfl := Option.some.inj hv
        exact fun hb' => hne i' v' b (fun h => hii h.symm) hv' hb' hb
      · cases hv
    · rw [if_neg h3] at hv
      by_cases h4 : j = i'
      · subst h4
        rw [if_pos rfl] at hv'
        split at hv'
        · obtain rfl := Option.some.inj hv'
          exact hne i v b hii hv hb
        · cases hv'
      · rw [if_neg h4] at hv'
        exact r.apart i i' v v' b hii hv hv' hb
  · intro i v b g' hv hb hge'
    obtain rfl := (Addr.mk.inj (Option.some.inj hge')).1
    rw [List.getElem?_set] at hv
    by_cases h3 : j = i
    · subst h3
      rw [if_pos rfl] at hv
      split at hv
      · obtain rfl := Option.some.inj hv; exact hg b hb
      · cases hv
    · rw [if_neg h3] at hv
      exact r.away i v b g hv hb rfl

/-- One row's numbers have been replaced, in its own block. -/
theorem Grid.redo {b j n' cap' : Nat} {ys : List Int} (r : Grid w l h e e1 ad n cap us xss) (hu : us[j]? = some (.slice (some ⟨b, 0, none⟩) n' cap')) (hn : 0 < n') (hr : Row w' b (b + 1) .i64 e (some ⟨b, 0, none⟩) n' cap' ys) (m : Mv w w' b (b + 1)) (hb1 : l ≤ b) (hb2 : b < h) :
    Grid w' l h e e1 ad n cap us (xss.set j ys) ∧ Mv w w' l h := by
  have hbo : blockOf (.slice (some ⟨b, 0, none⟩) n' cap') = some b := by simp [blockOf]; omega
  have hj : j < us.length := (List.getElem?_eq_some_iff.1 hu).1
  refine ⟨⟨?_, by rw [List.length_set]; exact r.len, ?_, r.apart, r.away⟩, m.mono hb1 hb2⟩
  · obtain ⟨g, rfl, g1, g2⟩ := r.out.pos (by rw [← r.out.len]; omega)
    have hne := r.away j _ b g hu hbo rfl
    refine ⟨r.out.len, r.out.le, r.out.big, r.out.one, ?_⟩
    rcases r.out.own with h0 | ⟨g', hg', q1, q2, q3⟩
    · exact .inl h0
    · obtain rfl := (Addr.mk.inj (Option.some.inj hg')).1
      exact .inr ⟨g, rfl, q1, q2, owns_keep q3 fun b' hb' => by
        obtain rfl : g = b' := by simpa [Value.ownBlock] using hb'
        exact m.block g (owns_lt q3) (by omega)⟩
  · intro i v zs hv hz
    rw [List.getElem?_set] at hz
    by_cases h3 : j = i
    · subst h3
      rw [hu] at hv
      obtain rfl := Option.some.inj hv
      rw [if_pos rfl] at hz
      split at hz
      · obtain rfl := Option.some.inj hz
        exact OwnInts.of ((hr.lo hb1).mono (by omega))
      · cases hz
    · rw [if_neg h3] at hz
      refine (r.rows i v zs hv hz).imp fun ad' n2 cap2 hn2 hv2 hr2 => ?_
      subst hv2
      obtain ⟨b2, rfl, c1, c2, hr3⟩ := hr2.tight hn2
      have hn3 : n2 ≠ 0 := by omega
      have hne : b2 ≠ b := fun hh => r.apart j i _ _ b h3 hu hv hbo (by simp [blockOf, hn3, hh])
      exact ((hr3.mv m (by omega)).lo c1).mono (by omega)
/-- A new row is appended: its block is none of the others'. -/
theorem Grid.snoc {g cap' l2 h2 : Nat} (r : Grid w l h e e1 ad n cap us xss) (hu : OwnInts w l2 h2 e u xs) (hg : ∀ b, blockOf u = some b → ad ≠ some ⟨b, 0, none⟩) (hne : ∀ (i : Nat) (v : Value) (b : Nat), us[i]? = some v → blockOf v = some b → blockOf u ≠ some b)
    (o : RowV w' g (g + 1) e1 (some ⟨g, 0, none⟩) (n + 1) cap' (us ++ [u])) (p : Put w w' l h ad g) (hl : l ≤ w.heap.size) (hl2 : l ≤ l2) :
    Grid w' l w'.heap.size e e1 (some ⟨g, 0, none⟩) (n + 1) cap' (us ++ [u]) (xss ++ [xs]) := by
  have hus := r.out.len
  have keep : ∀ v ys, OwnInts w l w.heap.size e v ys → (∀ b, blockOf v = some b → ad ≠ some ⟨b, 0, none⟩) → OwnInts w' l w'.heap.size e v ys := by
    intro v ys ho hb
    rcases p with ⟨rfl, q1, q2, q3, m⟩ | ⟨q, b⟩
    · refine ho.imp fun ad' n' cap' hn hv hr => ?_
      subst hv
      obtain ⟨c, rfl, b1, b2, hr'⟩ := hr.tight hn
      have hn' : n' ≠ 0 := by omega
      have hbg : c ≠ g := fun hh => hb c (by simp [blockOf, hn']) (by rw [hh])
      exact ((hr'.mv m (by omega)).lo b1).mono (by have := m.size; omega)
    · exact (ho.below b (.inl (Nat.le_refl _))).mono b.size
  have hgl : l ≤ g := by
    rcases p with ⟨_, q1, _⟩ | ⟨q, _⟩ <;> omega
  have hnew : ∀ (j : Nat) (v : Value) (b : Nat), (us ++ [u])[j]? = some v → blockOf v = some b → b ≠ g := by
    intro j v b hv hb hbg
    subst hbg
    rcases p with ⟨rfl, _⟩ | ⟨q, _⟩
    · by_cases hj : j < us.length
      · rw [List.getElem?_append_left hj] at hv
        exact r.away j v b b hv hb rfl rfl
      · rw [List.getElem?_append_right (by omega)] at hv
        obtain rfl : u = v := by
          rcases Nat.eq_zero_or_pos (j - us.length) with h | h
          · rw [h] at hv; simpa using hv
          · rw [List.getElem?_eq_none (by simp; omega)] at hv; cases hv
        exact hg b hb rfl
    · by_cases hj : j < us.length
      · rw [List.getElem?_append_left hj] at hv
        have := (r.block hv hb).2.2
        omega
      · rw [List.getElem?_append_right (by omega)] at hv
        obtain rfl : u = v := by
          rcases Nat.eq_zero_or_pos (j - us.length) with h | h
          · rw [h] at hv; simpa using hv
          · rw [List.getElem?_eq_none (by simp; omega)] at hv; cases hv
        have := (hu.block hb).2.2
        omega
  refine ⟨((o.lo hgl).lt), by rw [List.length_append, r.len]; rfl, ?_, ?_, fun j v b g' hv hb hge => ?_⟩
  · intro j v ys hv hy
    by_cases hj : j < us.length
    · rw [List.getElem?_append_left hj] at hv
      rw [List.getElem?_append_left (by rw [r.len, ← hus]; exact hj)] at hy
      exact keep v ys ((r.rows j v ys hv hy).lt) fun b hb hge => r.away j v b b hv hb hge rfl
    · rw [List.getElem?_append_right (by omega)] at hv
      rw [List.getElem?_append_right (by rw [r.len, ← hus]; omega)] at hy
      have h0 : j - us.length = 0 := by
        rcases Nat.eq_zero_or_pos (j - us.length) with h | h
        · exact h
        · rw [List.getElem?_eq_none (by simp; omega)] at hv; cases hv
      have h0' : j - xss.length = 0 := by rw [r.len, ← hus]; exact h0
      rw [h0] at hv
      rw [h0'] at hy
      obtain rfl : u = v := by simpa using hv
      obtain rfl : xs = ys := by simpa using hy
      exact keep u xs (hu.lo hl2).lt hg
  · intro i j v v' b hij hv hv' hb
    by_cases hi : i < us.length
    · rw [List.getElem?_append_left hi] at hv
      by_cases hj : j < us.length
      · rw [List.getElem?_append_left hj] at hv'
        exact r.apart i j v v' b hij hv hv' hb
      · rw [List.getElem?_append_right (by omega)] at hv'
        obtain rfl : u = v' := by
          rcases Nat.eq_zero_or_pos (j - us.length) with h | h
          · rw [h] at hv'; simpa using hv'
          · rw [List.getElem?_eq_none (by simp; omega)] at hv'; cases hv'
        exact hne i v b hv hb
    · rw [List.getElem?_append_right (by omega)] at hv
      have h0 : i - us.length = 0 := by
        rcases Nat.eq_zero_or_pos (i - us.length) with h | h
        · exact h
        · rw [List.getElem?_eq_none (by simp; omega)] at hv; cases hv
      rw [h0] at hv
      obtain rfl : u = v := by simpa using hv
      by_cases hj : j < us.length
      · rw [List.getElem?_append_left hj] at hv'
        exact fun hb' => hne j v' b hv' hb' hb
      · rw [List.getElem?_append_right (by omega)] at hv'
        rcases Nat.eq_zero_or_pos (j - us.length) with h | h
        · omega
        · rw [List.getElem?_eq_none (by simp; omega)] at hv'; cases hv'
  · obtain rfl := (Addr.mk.inj (Option.some.inj hge)).1
    exact hnew j v b hv hb
theorem Grid.add {g cap' s h2 : Nat} (r : Grid w l s e e1 ad n cap us xss) (hu : OwnInts w s h2 e u xs) (had : ∀ g, ad = some ⟨g, 0, none⟩ → g < s)
    (o : RowV w' g (g + 1) e1 (some ⟨g, 0, none⟩) (n + 1) cap' (us ++ [u])) (p : Put w w' l s ad g) (hl : l ≤ w.heap.size) (hls : l ≤ s) :
    Grid w' l w'.heap.size e e1 (some ⟨g, 0, none⟩) (n + 1) cap' (us ++ [u]) (xss ++ [xs]) ∧ ∀ g', some (Addr.mk g 0 none) = some ⟨g', 0, none⟩ → g' < w'.heap.size := by
  refine ⟨r.snoc hu (fun b hb h => ?_) (fun i v b hv hb h => ?_) o p hl hls, fun g' hg => ?_⟩
  · have h1 := (hu.block hb).1
    have h2 := had b h
    omega
  · have h1 := (hu.block h).1
    have h2 := (r.block hv hb).2.1
    omega
  · obtain rfl := (Addr.mk.inj (Option.some.inj hg)).1
    obtain ⟨_, hg2, _, h3⟩ := o.lt.pos (by omega)
    obtain rfl := (Addr.mk.inj (Option.some.inj hg2)).1
    exact h3
end
end Go.Proofs.Ythhnfbhpdcemfaa.Seq
