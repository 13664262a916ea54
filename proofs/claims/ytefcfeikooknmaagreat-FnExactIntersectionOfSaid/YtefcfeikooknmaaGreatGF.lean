/-
  Slices of slices whose rows lie apart in own memory, each anywhere within its block; the list may be a part of a longer one (Net). And rows of which only some are the call's own (Mix). No program.
  Marking slices of slices whose rows are ends of slices of their own.
  What elimination does to a determinant, and to the search for the next pivot. No program.
  Reduced matrices, told by their pivots' columns. No program.
  Inverses and solutions, told by the reduced rows of the matrix with something behind it. No program.
  What the laws on elimination ask of the program's functions.
  slices.Concat of slices of integers, and slices.Grow of the nil slice: the library's own text walked.
  Elimination, of the program: the copy of the list of rows, the search for a pivot.
  Elimination, of the program: a column is cleared.
  Elimination, of the program: rows are eliminated.
  Elimination, of the program: reduced rows, rank, determinant.
  Elimination, of the program: is a matrix reduced?
  Elimination, of the program: two matrices side by side; inverses.
  Elimination, of the program: inverses.
  Elimination, of the program: systems.
  Elimination, of the program: null spaces.
-/
import Derived.Test.YtefcfeikooknmaaGreatGE
import Derived.Test.YtefcfeikooknmaaGreatGD
import Derived.Test.YtefcfeikooknmaaGreatGB
import Derived.Test.YtefcfeikooknmaaGreatGC
import Derived.Lib.AppendZeros
import Derived.Deep.LoopGhost
import Derived.Lib.BufferMore
import Derived.Handy
import Derived.Deep.RegionHeld3
import Derived.BigQuiet
namespace Go.Proofs.YtefcfeikooknmaaGreat.Seq
open Go.ChangeShapes Go.WideShapes Go.RowKit

/-- The value is the end of a slice of the call's own that reads as xs; or it has no elements. -/
def OwnTail (w : World) (l h : Nat) (e : TypeId) (u : Value) (xs : List Int) : Prop :=
  ∃ ad n cap, u = .slice ad n cap ∧ n ≤ cap ∧ cap ≤ maxLen ∧ (ad = none → cap = 0) ∧ ((n = 0 ∧ xs = []) ∨
    (0 < n ∧ ∃ (g C : Nat) (pre : List Int), ad = some ⟨g, pre.length, none⟩ ∧ l ≤ g ∧ g < h ∧ Row w g (g + 1) .i64 e (some ⟨g, 0, none⟩) (pre.length + n) C (pre ++ xs)))
section
variable {w w' : World} {l h l' h' : Nat} {e : TypeId} {u : Value} {xs : List Int}
theorem OwnInts.tail (s : OwnInts w l h e u xs) : OwnTail w l h e u xs := by
  obtain ⟨ad, n, cap, rfl, ⟨rfl, rfl, h1, h2⟩ | ⟨hn, r⟩⟩ := s
  · exact ⟨ad, 0, cap, rfl, Nat.zero_le _, h1, h2, .inl ⟨rfl, rfl⟩⟩
  · obtain ⟨g, rfl, b1, b2, r'⟩ := r.tight hn
    exact ⟨_, n, cap, rfl, r.le, r.big, (fun h => by cases h), .inr ⟨hn, g, cap, [], rfl, b1, b2, by simpa using r'⟩⟩
theorem OwnTail.imp (s : OwnTail w l h e u xs) (f : ∀ (g N cap : Nat) (ys : List Int), blockOf u = some g → l ≤ g → g < h → Row w g (g + 1) .i64 e (some ⟨g, 0, none⟩) N cap ys → l' ≤ g ∧ g < h' ∧ Row w' g (g + 1) .i64 e (some ⟨g, 0, none⟩) N cap ys) : OwnTail w' l' h' e u xs := by
  obtain ⟨ad, n, cap, rfl, h1, h2, h3, r⟩ := s
  refine ⟨ad, n, cap, rfl, h1, h2, h3, r.imp id fun ⟨hn, g, C, pre, e1, b1, b2, rr⟩ => ?_⟩
  subst e1
  have hn' : n ≠ 0 := by omega
  obtain ⟨c1, c2, r'⟩ := f g _ C _ (by simp [blockOf, hn']) b1 b2 rr
  exact ⟨hn, g, C, pre, rfl, c1, c2, r'⟩
theorem OwnTail.ints (s : OwnTail w l h e u xs) : IsInts w l h u xs := by
  obtain ⟨ad, n, cap, rfl, h1, h2, h3, ⟨rfl, rfl⟩ | ⟨hn, g, C, pre, rfl, b1, b2, r⟩⟩ := s
  · exact ⟨ad, 0, cap, rfl, Sl.none _ _ _ _ _ _ h2 h3⟩
  · refine ⟨_, n, cap, rfl, ?_, h1, h2, h3, fun x hx => r.fits x (List.mem_append_right _ hx), fun j x hx => ⟨_, rfl, b1, b2, ?_⟩⟩
    · have := r.len
      rw [List.length_append] at this; omega
    · have := r.cell (j := pre.length + j) (x := x) (by rw [List.getElem?_append_right (by omega), Nat.add_sub_cancel_left]; exact hx)
      rwa [Addr.add_lit]
theorem OwnTail.mv (s : OwnTail w l h e u xs) (m : Mv w w' l' h') (hd : h ≤ l' ∨ h' ≤ l) : OwnTail w' l h e u xs :=
  s.imp fun _ _ _ _ _ b1 b2 r => ⟨b1, b2, r.mv m (by omega)⟩
theorem OwnTail.below {B : Nat} (s : OwnTail w l h e u xs) (m : Below B w w') (hB : h ≤ B ∨ w.heap.size ≤ B) : OwnTail w' l h e u xs :=
  s.imp fun _ _ _ _ _ b1 b2 r => ⟨b1, b2, r.below m (hB.imp (fun h => by omega) id)⟩
theorem OwnTail.mono (s : OwnTail w l h e u xs) (h1 : l' ≤ l) (h2 : h ≤ h') : OwnTail w l' h' e u xs :=
  s.imp fun _ _ _ _ _ b1 b2 r => ⟨by omega, by omega, r⟩
theorem OwnTail.block (s : OwnTail w l h e u xs) {b : Nat} (hb : blockOf u = some b) : l ≤ b ∧ b < h ∧ b < w.heap.size := by
  obtain ⟨ad, n, cap, rfl, _, _, _, ⟨rfl, _⟩ | ⟨hn, g, C, pre, rfl, b1, b2, r⟩⟩ := s
  · cases ad <;> simp [blockOf] at hb
  · have hn' : n ≠ 0 := by omega
    obtain rfl : g = b := by simpa [blockOf, hn'] using hb
    obtain ⟨_, hg, _, hg2⟩ := r.lt.pos (by omega)
    obtain rfl := (Addr.mk.inj (Option.some.inj hg)).1
    exact ⟨b1, b2, hg2⟩
theorem OwnTail.lt (s : OwnTail w l h e u xs) : OwnTail w l w.heap.size e u xs :=
  s.imp fun _ _ _ _ hb b1 _ r => ⟨b1, (s.block hb).2.2, r⟩
end

/-- The cells of a list at an address lie in its block. -/
theorem SlV.tight {w : World} {l h : Nat} {a : Addr} {n cap : Nat} {us : List Value} (s : SlV w l h (some a) n cap us) : SlV w a.block (a.block + 1) (some a) n cap us :=
  ⟨s.len, s.le, s.big, s.nil, s.one, fun j x hx => by
    obtain ⟨a', e, _, _, h3⟩ := s.cells j x hx
    obtain rfl := Option.some.inj e
    exact ⟨a, rfl, Nat.le_refl _, Nat.lt_succ_self _, h3⟩⟩

/-- A slice of slices that the call hands out as its own: rows in blocks apart from each other and from the list. -/
structure Net (w : World) (l h : Nat) (e : TypeId) (ad : Option Addr) (n cap : Nat) (us : List Value) (xss : List (List Int)) : Prop where
  out : SlV w l h ad n cap us
  len : xss.length = n
  rows : ∀ (j : Nat) (u : Value) (xs : List Int), us[j]? = some u → xss[j]? = some xs → OwnTail w l h e u xs
  apart : ∀ (i j : Nat) (u v : Value) (b : Nat), i ≠ j → us[i]? = some u → us[j]? = some v → blockOf u = some b → blockOf v ≠ some b
  away : ∀ (j : Nat) (u : Value) (b : Nat) (a : Addr), us[j]? = some u → blockOf u = some b → ad = some a → b ≠ a.block

section
variable {w w' : World} {l h l' h' : Nat} {e e1 : TypeId} {ad : Option Addr} {n cap : Nat} {us : List Value} {xss : List (List Int)} {u : Value} {xs : List Int}
theorem Grid.net (r : Grid w l h e e1 ad n cap us xss) : Net w l h e ad n cap us xss :=
  ⟨r.out.sl, r.len, fun j u xs hu hx => (r.rows j u xs hu hx).tail, r.apart, fun j u b a hu hb ha => by
    subst ha
    have hn : 0 < n := by rw [← r.out.len]; have := (List.getElem?_eq_some_iff.1 hu).1; omega
    obtain ⟨g, e1, _, _⟩ := r.out.pos hn
    obtain rfl := Option.some.inj e1
    exact r.away j u b g hu hb rfl⟩
theorem Net.sls (r : Net w l h e ad n cap us xss) : Sls w l h ad n cap xss := by
  refine ⟨r.len, r.out.le, r.out.big, r.out.nil, fun j xs hx => ?_⟩
  have hj : j < us.length := by rw [r.out.len, ← r.len]; exact (List.getElem?_eq_some_iff.1 hx).1
  obtain ⟨a, ea, h1, h2, h3⟩ := r.out.cells j us[j] (List.getElem?_eq_getElem hj)
  exact ⟨a, us[j], ea, h1, h2, h3, (r.rows j _ _ (List.getElem?_eq_getElem hj) hx).ints⟩
theorem Net.mv (r : Net w l h e ad n cap us xss) (m : Mv w w' l' h') (hd : h ≤ l' ∨ h' ≤ l) : Net w' l h e ad n cap us xss :=
  ⟨r.out.mv m hd, r.len, fun j u xs hu hx => (r.rows j u xs hu hx).mv m hd, r.apart, r.away⟩
theorem Net.below {B : Nat} (r : Net w l h e ad n cap us xss) (m : Below B w w') (hB : h ≤ B ∨ w.heap.size ≤ B) : Net w' l h e ad n cap us xss :=
  ⟨r.out.below m hB, r.len, fun j u xs hu hx => (r.rows j u xs hu hx).below m hB, r.apart, r.away⟩
theorem Net.mono (r : Net w l h e ad n cap us xss) (h1 : l' ≤ l) (h2 : h ≤ h') : Net w l' h' e ad n cap us xss :=
  ⟨r.out.mono h1 h2, r.len, fun j u xs hu hx => (r.rows j u xs hu hx).mono h1 h2, r.apart, r.away⟩
theorem Net.lt (r : Net w l h e ad n cap us xss) : Net w l w.heap.size e ad n cap us xss :=
  ⟨r.out.lt (Nat.le_refl _), r.len, fun j u xs hu hx => (r.rows j u xs hu hx).lt, r.apart, r.away⟩
theorem Net.alloc (r : Net w l h e ad n cap us xss) (o : Obj) : Net (w.alloc o) l h e ad n cap us xss := r.mv ((Mv.refl w 0 0).alloc o) (.inr (Nat.zero_le _))
theorem Net.drewN (r : Net w l h e ad n cap us xss) (k : Nat) : Net (w.drewN k) l h e ad n cap us xss := r.mv ((Mv.refl w 0 0).drewN k) (.inr (Nat.zero_le _))
theorem Net.nil (w : World) (l h : Nat) (e : TypeId) (ad : Option Addr) (cap : Nat) (h1 : cap ≤ maxLen) (h2 : ad = none → cap = 0) : Net w l h e ad 0 cap [] [] :=
  ⟨⟨rfl, Nat.zero_le _, h1, h2, by simp, by simp⟩, rfl, by simp, by simp, by simp⟩
theorem Net.row (r : Net w l h e ad n cap us xss) {j : Nat} (hj : j < n) : ∃ u xs a, us[j]? = some u ∧ xss[j]? = some xs ∧ OwnTail w l h e u xs ∧ ad = some a ∧ w.cell? (a.add j) = some u := by
  have h1 : j < us.length := by rw [r.out.len]; exact hj
  have h2 : j < xss.length := by rw [r.len]; exact hj
  obtain ⟨a, ea, _, _, h3⟩ := r.out.cells j us[j] (List.getElem?_eq_getElem h1)
  exact ⟨us[j], xss[j], a, List.getElem?_eq_getElem h1, List.getElem?_eq_getElem h2, r.rows j _ _ (List.getElem?_eq_getElem h1) (List.getElem?_eq_getElem h2), ea, h3⟩
/-- One row's numbers have been replaced, in its own block. -/
theorem Net.redo {b j n' cap' C : Nat} {pre ys : List Int} (r : Net w l h e ad n cap us xss) (hu : us[j]? = some (.slice (some ⟨b, pre.length, none⟩) n' cap')) (hn : 0 < n') (hc : n' ≤ cap') (hm : cap' ≤ maxLen)
    (hr : Row w' b (b + 1) .i64 e (some ⟨b, 0, none⟩) (pre.length + n') C (pre ++ ys)) (m : Mv w w' b (b + 1)) (hb1 : l ≤ b) (hb2 : b < h) :
    Net w' l h e ad n cap us (xss.set j ys) ∧ Mv w w' l h := by
  have hbo : blockOf (.slice (some ⟨b, pre.length, none⟩) n' cap') = some b := by simp [blockOf]; omega
  have hj : j < us.length := (List.getElem?_eq_some_iff.1 hu).1
  refine ⟨⟨?_, by rw [List.length_set]; exact r.len, ?_, r.apart, r.away⟩, m.mono hb1 hb2⟩
  · obtain ⟨a, rfl, _, _, _⟩ := r.out.cells j _ hu
    have hne := r.away j _ b a hu hbo rfl
    have ht := r.out.tight.mv m (by omega)
    exact ⟨r.out.len, r.out.le, r.out.big, r.out.nil, r.out.one, fun i v hv => by
      obtain ⟨a', e', c1, c2, _⟩ := r.out.cells i v hv
      obtain rfl := Option.some.inj e'
      obtain ⟨a'', e'', _, _, h3⟩ := ht.cells i v hv
      obtain rfl := Option.some.inj e''
      exact ⟨a, rfl, c1, c2, h3⟩⟩
  · intro i v zs hv hz
    rw [List.getElem?_set] at hz
    by_cases h3 : j = i
    · subst h3
      rw [hu] at hv
      obtain rfl := Option.some.inj hv
      rw [if_pos rfl] at hz
      split at hz
      · obtain rfl := Option.some.inj hz
        exact ⟨_, n', cap', rfl, hc, hm, (fun h => by cases h), .inr ⟨hn, b, C, pre, rfl, hb1, hb2, hr⟩⟩
      · cases hz
    · rw [if_neg h3] at hz
      refine (r.rows i v zs hv hz).imp fun g _ _ _ hb c1 c2 hr2 => ⟨c1, c2, hr2.mv m ?_⟩
      have hne : g ≠ b := fun hh => r.apart j i _ _ b h3 hu hv hbo (by rw [hb, hh])
      omega
/-- The first of its rows. -/
theorem Net.take (r : Net w l h e ad n cap us xss) {k c : Nat} (h1 : k ≤ n) (h2 : k ≤ c) (h3 : c ≤ cap) (h4 : ad = none → c = 0) : Net w l h e ad k c (us.take k) (xss.take k) := by
  have get : ∀ {α : Type} (L : List α) (j : Nat) (u : α), (L.take k)[j]? = some u → L[j]? = some u := fun L j u hu => by
    rw [List.getElem?_take] at hu
    split at hu
    · exact hu
    · cases hu
  exact ⟨⟨by rw [List.length_take, r.out.len]; omega, h2, by have := r.out.big; omega, h4, fun u hu => r.out.one u (List.mem_of_mem_take hu), fun j u hu => r.out.cells j u (get _ _ _ hu)⟩,
    by rw [List.length_take, r.len]; omega, fun j u xs hu hx => r.rows j u xs (get _ _ _ hu) (get _ _ _ hx), fun i j u v b hij hu hv hb => r.apart i j u v b hij (get _ _ _ hu) (get _ _ _ hv) hb,
    fun j u b a hu hb ha => r.away j u b a (get _ _ _ hu) hb ha⟩
end

/-- Rows in a list of the call's own: some of them are slices of its own, apart from each other; the others lie below l. -/
structure Mix (w : World) (l h : Nat) (e e1 : TypeId) (g n cap : Nat) (us : List Value) (xss : List (List Int)) (own : Nat → Prop) : Prop where
  out : RowV w l h e1 (some ⟨g, 0, none⟩) n cap us
  len : xss.length = n
  mine : ∀ (j : Nat) (u : Value) (xs : List Int), own j → us[j]? = some u → xss[j]? = some xs → OwnInts w l h e u xs
  rest : ∀ (j : Nat) (u : Value) (xs : List Int), ¬ own j → us[j]? = some u → xss[j]? = some xs → IsInts w 0 l u xs
  apart : ∀ (i j : Nat) (u v : Value) (b : Nat), i ≠ j → own i → own j → us[i]? = some u → us[j]? = some v → blockOf u = some b → blockOf v ≠ some b
  away : ∀ (j : Nat) (u : Value) (b : Nat), own j → us[j]? = some u → blockOf u = some b → b ≠ g

section
variable {w w' : World} {l h l' h' g : Nat} {e e1 : TypeId} {n cap : Nat} {us : List Value} {xss : List (List Int)} {u : Value} {xs : List Int} {own own' : Nat → Prop}
theorem Mix.lt_n (r : Mix w l h e e1 g n cap us xss own) {j : Nat} {u : Value} (hu : us[j]? = some u) : j < n := by rw [← r.out.len]; exact (List.getElem?_eq_some_iff.1 hu).1
theorem Mix.gpos (r : Mix w l h e e1 g n cap us xss own) (hn : 0 < n) : l ≤ g ∧ g < h := by
  obtain ⟨_, hge, hg1, hg2⟩ := r.out.pos hn
  obtain rfl := (Addr.mk.inj (Option.some.inj hge)).1
  exact ⟨hg1, hg2⟩
theorem Mix.below {B : Nat} (r : Mix w l h e e1 g n cap us xss own) (m : Below B w w') (hB : h ≤ B ∨ w.heap.size ≤ B) : Mix w' l h e e1 g n cap us xss own :=
  ⟨r.out.below m hB, r.len, fun j u xs ho hu hx => (r.mine j u xs ho hu hx).below m hB, fun j u xs ho hu hx => by
    obtain ⟨ad, n', cap', rfl, s⟩ := r.rest j u xs ho hu hx
    have := r.gpos (by have := r.lt_n hu; omega)
    exact ⟨ad, n', cap', rfl, s.below m (hB.imp (fun h => by omega) id)⟩, r.apart, r.away⟩
theorem Mix.mono (r : Mix w l h e e1 g n cap us xss own) (h2 : h ≤ h') : Mix w l h' e e1 g n cap us xss own :=
  ⟨r.out.mono h2, r.len, fun j u xs ho hu hx => (r.mine j u xs ho hu hx).mono h2, r.rest, r.apart, r.away⟩
theorem Mix.drewN (r : Mix w l h e e1 g n cap us xss own) (k : Nat) : Mix (w.drewN k) l h e e1 g n cap us xss own :=
  r.below (B := w.heap.size) (below_drewN (Below.refl _ _) k) (.inr (Nat.le_refl _))
theorem Mix.lt (r : Mix w l h e e1 g n cap us xss own) : Mix w l w.heap.size e e1 g n cap us xss own :=
  ⟨r.out.lt, r.len, fun j u xs ho hu hx => (r.mine j u xs ho hu hx).lt, r.rest, r.apart, r.away⟩
theorem Mix.own_congr (r : Mix w l h e e1 g n cap us xss own) (ho : ∀ j, j < n → (own' j ↔ own j)) : Mix w l h e e1 g n cap us xss own' :=
  ⟨r.out, r.len, fun j u xs o hu hx => r.mine j u xs ((ho j (r.lt_n hu)).1 o) hu hx, fun j u xs o hu hx => r.rest j u xs (fun o' => o ((ho j (r.lt_n hu)).2 o')) hu hx,
    fun i j u v b hij oi oj hu hv hb => r.apart i j u v b hij ((ho i (r.lt_n hu)).1 oi) ((ho j (r.lt_n hv)).1 oj) hu hv hb, fun j u b o hu hb => r.away j u b ((ho j (r.lt_n hu)).1 o) hu hb⟩
/-- One row: the slice at hand, its numbers, its cell. -/
theorem Mix.at_ (r : Mix w l h e e1 g n cap us xss own) {j : Nat} (hj : j < n) : ∃ ad' n' cap' xs, us[j]? = some (.slice ad' n' cap') ∧ xss[j]? = some xs ∧ Sl w 0 h .i64 ad' n' cap' xs ∧ w.cell? ⟨g, j, none⟩ = some (.slice ad' n' cap') ∧ w.frozen? ⟨g, j, none⟩ = false := by
  have h2 : j < xss.length := by rw [r.len]; exact hj
  have hg := r.gpos (by omega)
  obtain ⟨u, hu, hc, hf⟩ := r.out.there hj
  by_cases ho : own j
  · obtain ⟨ad', n', cap', rfl, s⟩ := (r.mine j u _ ho hu (List.getElem?_eq_getElem h2)).ints
    exact ⟨ad', n', cap', _, hu, List.getElem?_eq_getElem h2, s.mono (Nat.zero_le _) (Nat.le_refl _), hc, hf⟩
  · obtain ⟨ad', n', cap', rfl, s⟩ := r.rest j u _ ho hu (List.getElem?_eq_getElem h2)
    exact ⟨ad', n', cap', _, hu, List.getElem?_eq_getElem h2, s.mono (Nat.le_refl _) (by omega), hc, hf⟩
theorem Mix.block (r : Mix w l h e e1 g n cap us xss own) {j b : Nat} (ho : own j) (hu : us[j]? = some u) (hb : blockOf u = some b) : l ≤ b ∧ b < h ∧ b < w.heap.size := by
  have h2 : j < xss.length := by rw [r.len]; exact r.lt_n hu
  exact (r.mine j _ _ ho hu (List.getElem?_eq_getElem h2)).block hb
theorem Mix.sls (r : Mix w l h e e1 g n cap us xss own) : Sls w 0 h (some ⟨g, 0, none⟩) n cap xss := by
  refine ⟨r.len, r.out.le, r.out.big, r.out.sl.nil, fun j xs hx => ?_⟩
  have hj : j < n := by rw [← r.len]; exact (List.getElem?_eq_some_iff.1 hx).1
  have hg := r.gpos (by omega)
  obtain ⟨ad', n', cap', xs', h1, h2, h3, h4, _⟩ := r.at_ hj
  obtain rfl := Option.some.inj (h2.symm.trans hx)
  exact ⟨_, _, rfl, Nat.zero_le _, hg.2, by rw [Addr.add_lit, Nat.zero_add]; exact h4, ad', n', cap', rfl, h3⟩
/-- What lies elsewhere stays where a row is put in place. -/
theorem Mix.kept (r : Mix w l h e e1 g n cap us xss own) (hn : 0 < n) {j : Nat} (u : Value) {i : Nat} {v : Value} {ys : List Int} (hv : us[i]? = some v) (hy : xss[i]? = some ys) :
    (own i → OwnInts (w.setCell ⟨g, j, none⟩ u) l h e v ys) ∧ (¬ own i → IsInts (w.setCell ⟨g, j, none⟩ u) 0 l v ys) := by
  have hg := r.gpos hn
  refine ⟨fun o => RedW.OwnInts.keep (r.mine i v ys o hv hy) (fun b hb => r.away i v b o hv hb) u, fun o => ?_⟩
  obtain ⟨ad, n', cap', rfl, s⟩ := r.rest i v ys o hv hy
  exact ⟨ad, n', cap', rfl, s.mv ((Mv.refl w g (g + 1)).setCell (Nat.le_refl _) (Nat.lt_succ_self _) u) (.inl hg.1)⟩
/-- A row of the call's own is put in place: a new one, whose block is none of the others'. -/
theorem Mix.put {j : Nat} (r : Mix w l h e e1 g n cap us xss own) (hj : j < n) (hu : OwnInts w l h e u xs) (hg : ∀ b, blockOf u = some b → b ≠ g)
    (hne : ∀ i v b, i ≠ j → own i → us[i]? = some v → blockOf v = some b → blockOf u ≠ some b) :
    Mix (w.setCell ⟨g, j, none⟩ u) l h e e1 g n cap (us.set j u) (xss.set j xs) (fun i => i = j ∨ own i) ∧ Mv w (w.setCell ⟨g, j, none⟩ u) l h := by
  obtain ⟨h1, h2⟩ := r.out.set hj hu.one
  have hn : 0 < n := by omega
  have hget : ∀ i v, (us.set j u)[i]? = some v → (i = j ∧ v = u) ∨ (i ≠ j ∧ us[i]? = some v) := fun i v hv => by
    rw [List.getElem?_set] at hv
    by_cases hij : j = i
    · rw [if_pos hij] at hv
      split at hv
      · exact .inl ⟨hij.symm, (Option.some.inj hv).symm⟩
      · cases hv
    · rw [if_neg hij] at hv; exact .inr ⟨Ne.symm hij, hv⟩
  have hgetx : ∀ i y, (xss.set j xs)[i]? = some y → i ≠ j → xss[i]? = some y := fun i y hy hij => by
    rw [List.getElem?_set, if_neg (Ne.symm hij)] at hy; exact hy
  refine ⟨⟨h1, by rw [List.length_set]; exact r.len, fun i v ys o hv hy => ?_, fun i v ys o hv hy => ?_, fun i i' v v' b hii o o' hv hv' hb => ?_, fun i v b o hv hb => ?_⟩, h2⟩
  · rcases hget i v hv with ⟨rfl, rfl⟩ | ⟨hij, hv⟩
    · rw [List.getElem?_set, if_pos rfl] at hy
      split at hy
      · obtain rfl := Option.some.inj hy
        exact RedW.OwnInts.keep hu hg _
      · cases hy
    · exact (r.kept hn u hv (hgetx i ys hy hij)).1 (o.resolve_left hij)
  · rcases hget i v hv with ⟨rfl, rfl⟩ | ⟨hij, hv⟩
    · exact absurd (.inl rfl) o
    · exact (r.kept hn u hv (hgetx i ys hy hij)).2 fun o' => o (.inr o')
  · rcases hget i v hv with ⟨rfl, rfl⟩ | ⟨hij, hv⟩
    · rcases hget i' v' hv' with ⟨rfl, rfl⟩ | ⟨hij', hv'⟩
      · exact absurd rfl hii
      · exact fun hb' => hne i' v' b hij' (o'.resolve_left hij') hv' hb' hb
    · rcases hget i' v' hv' with ⟨rfl, rfl⟩ | ⟨hij', hv'⟩
      · rcases hget i v ‹_› with ⟨e0, _⟩ | ⟨_, hv2⟩
        · exact absurd e0 hij
        · exact fun hb' => hne i v b hij (o.resolve_left hij) hv2 hb hb'
      · exact r.apart i i' v v' b hii (o.resolve_left hij) (o'.resolve_left hij') hv hv' hb
  · rcases hget i v hv with ⟨rfl, rfl⟩ | ⟨hij, hv⟩
    · exact hg b hb
    · exact r.away i v b (o.resolve_left hij) hv hb
/-- Two rows change places. -/
theorem Mix.swap {i j : Nat} {u v : Value} {xs ys : List Int} (r : Mix w l h e e1 g n cap us xss own) (hi : i < n) (hj : j < n) (hij : i ≠ j) (hu : us[i]? = some u) (hv : us[j]? = some v) (hx : xss[i]? = some xs) (hy : xss[j]? = some ys) (ho : ∀ a b, own a ↔ own b) :
    Mix ((w.setCell ⟨g, i, none⟩ v).setCell ⟨g, j, none⟩ u) l h e e1 g n cap ((us.set i v).set j u) ((xss.set i ys).set j xs) own ∧ Mv w ((w.setCell ⟨g, i, none⟩ v).setCell ⟨g, j, none⟩ u) l h := by
  have hn : 0 < n := by omega
  have u1 : u.oneCell' = true := r.out.one u (List.mem_of_getElem? hu)
  have v1 : v.oneCell' = true := r.out.one v (List.mem_of_getElem? hv)
  obtain ⟨h1, h2⟩ := r.out.set hi v1
  obtain ⟨h3, h4⟩ := h1.set hj u1
  have hul := (List.getElem?_eq_some_iff.1 hu).1
  have hvl := (List.getElem?_eq_some_iff.1 hv).1
  have hxl := (List.getElem?_eq_some_iff.1 hx).1
  have hyl := (List.getElem?_eq_some_iff.1 hy).1
  have hget : ∀ {α : Type} (L : List α) (p q : α), i < L.length → j < L.length → ∀ k x, ((L.set i q).set j p)[k]? = some x → (k = j ∧ x = p) ∨ (k = i ∧ x = q) ∨ (k ≠ i ∧ k ≠ j ∧ L[k]? = some x) := fun L p q hli hlj k x hk => by
    rw [List.getElem?_set] at hk
    by_cases hjk : j = k
    · rw [if_pos hjk, if_pos (by rw [List.length_set]; exact hlj)] at hk
      exact .inl ⟨hjk.symm, (Option.some.inj hk).symm⟩
    · rw [if_neg hjk, List.getElem?_set] at hk
      by_cases hik : i = k
      · rw [if_pos hik, if_pos hli] at hk
        exact .inr (.inl ⟨hik.symm, (Option.some.inj hk).symm⟩)
      · rw [if_neg hik] at hk
        exact .inr (.inr ⟨Ne.symm hik, Ne.symm hjk, hk⟩)
  -- where a row of the swapped list stood
  have from_ : ∀ k x y, ((us.set i v).set j u)[k]? = some x → ((xss.set i ys).set j xs)[k]? = some y → ∃ k', us[k']? = some x ∧ xss[k']? = some y ∧ (own k ↔ own k') := fun k x y hk hk2 => by
    rcases hget us u v hul hvl k x hk with ⟨rfl, rfl⟩ | ⟨rfl, rfl⟩ | ⟨a, b, hk⟩
    · rcases hget xss xs ys hxl hyl k y hk2 with ⟨_, rfl⟩ | ⟨e, _⟩ | ⟨_, e, _⟩
      · exact ⟨i, hu, hx, ho _ _⟩
      · exact absurd e.symm hij
      · exact absurd rfl e
    · rcases hget xss xs ys hxl hyl k y hk2 with ⟨e, _⟩ | ⟨_, rfl⟩ | ⟨e, _, _⟩
      · exact absurd e hij
      · exact ⟨j, hv, hy, ho _ _⟩
      · exact absurd rfl e
    · rcases hget xss xs ys hxl hyl k y hk2 with ⟨e, _⟩ | ⟨e, _⟩ | ⟨_, _, hk2⟩
      · exact absurd e b
      · exact absurd e a
      · exact ⟨k, hk, hk2, Iff.rfl⟩
  have hg := r.gpos hn
  have m2 : Mv w ((w.setCell ⟨g, i, none⟩ v).setCell ⟨g, j, none⟩ u) g (g + 1) := ((Mv.refl w g (g + 1)).setCell (Nat.le_refl _) (Nat.lt_succ_self _) v).setCell (Nat.le_refl _) (Nat.lt_succ_self _) u
  have wher : ∀ k x, ((us.set i v).set j u)[k]? = some x → ∃ k', us[k']? = some x ∧ (own k ↔ own k') ∧ (k = j → k' = i) ∧ (k = i → k' = j) ∧ (k ≠ i → k ≠ j → k' = k) := fun k x hk => by
    rcases hget us u v hul hvl k x hk with ⟨rfl, rfl⟩ | ⟨rfl, rfl⟩ | ⟨a, b, hk⟩
    · exact ⟨i, hu, ho _ _, fun _ => rfl, fun e => absurd e.symm hij, fun _ e => absurd rfl e⟩
    · exact ⟨j, hv, ho _ _, fun e => absurd e hij, fun _ => rfl, fun e => absurd rfl e⟩
    · exact ⟨k, hk, Iff.rfl, fun e => absurd e b, fun e => absurd e a, fun _ _ => rfl⟩
  refine ⟨⟨h3, by rw [List.length_set, List.length_set]; exact r.len, fun k x zs o hk hz => ?_, fun k x zs o hk hz => ?_, fun k k' x x' b hkk o o' hk hk' hb => ?_, fun k x b o hk hb => ?_⟩, h2.trans h4⟩
  · obtain ⟨k', a, c, hoo⟩ := from_ k x zs hk hz
    have hm := r.mine k' x zs (hoo.1 o) a c
    have hk1 := RedW.OwnInts.keep (j := i) hm (fun b hb => r.away k' x b (hoo.1 o) a hb) v
    exact RedW.OwnInts.keep (j := j) hk1 (fun b hb => r.away k' x b (hoo.1 o) a hb) u
  · obtain ⟨k', a, c, hoo⟩ := from_ k x zs hk hz
    obtain ⟨ad, n', cap', rfl, s⟩ := r.rest k' x zs (fun o' => o (hoo.2 o')) a c
    exact ⟨ad, n', cap', rfl, s.mv m2 (.inl hg.1)⟩
  · obtain ⟨a, ha, hoa, a1, a2, a3⟩ := wher k x hk
    obtain ⟨a', ha', hoa', c1, c2, c3⟩ := wher k' x' hk'
    refine r.apart a a' x x' b (fun he => ?_) (hoa.1 o) (hoa'.1 o') ha ha' hb
    by_cases e1 : k = i
    · have := a2 e1
      by_cases e2 : k' = j
      · have := c1 e2; omega
      · have := c3 (fun h => hkk (by omega)) e2; omega
    · by_cases e2 : k = j
      · have := a1 e2
        by_cases e3 : k' = i
        · have := c2 e3; omega
        · have := c3 e3 (fun h => hkk (by omega)); omega
      · have := a3 e1 e2
        by_cases e3 : k' = i
        · have := c2 e3; omega
        · by_cases e4 : k' = j
          · have := c1 e4; omega
          · have := c3 e3 e4; omega
  · obtain ⟨k', hk2, hoo, _⟩ := wher k x hk
    exact r.away k' x b (hoo.1 o) hk2 hb
/-- All rows are the call's own. -/
theorem Mix.net (r : Mix w l h e e1 g n cap us xss own) (ho : ∀ j, j < n → own j) : Net w l h e (some ⟨g, 0, none⟩) n cap us xss :=
  ⟨r.out.sl, r.len, fun j u xs hu hx => (r.mine j u xs (ho j (r.lt_n hu)) hu hx).tail, fun i j u v b hij hu hv hb => r.apart i j u v b hij (ho i (r.lt_n hu)) (ho j (r.lt_n hv)) hu hv hb,
    fun j u b a hu hb ha => by obtain rfl := Option.some.inj ha; exact r.away j u b (ho j (r.lt_n hu)) hu hb⟩
end
end Go.Proofs.YtefcfeikooknmaaGreat.Seq
namespace Go.Proofs.YtefcfeikooknmaaGreat.Help
open Go.ChangeShapes Go.WideShapes Go.ChangeAt Go.RowKit
open Go.Proofs.YtefcfeikooknmaaGreat.Seq

/-- New rows that read as xss, in memory of their own, apart from each other. -/
def Gives3 (xss : List (List Int)) (w : World) (e : Ending) (w' : World) : Prop :=
  ∃ ad n cap us, e = .returned (.slice ad n cap) ∧ Net w' w.heap.size w'.heap.size 3 ad n cap us xss ∧ Below w.heap.size w w'
def Gives3B (xss : List (List Int)) (b : Bool) (w : World) (e : Ending) (w' : World) : Prop :=
  ∃ ad n cap us, e = .returned (.tuple #[.slice ad n cap, .bool b]) ∧ Net w' w.heap.size w'.heap.size 3 ad n cap us xss ∧ Below w.heap.size w w'
theorem pre_set {pre ys : List Int} {j : Nat} {x : Int} : (pre ++ ys).set (pre.length + j) x = pre ++ ys.set j x := by
  rw [List.set_append_right _ _ (by omega), Nat.add_sub_cancel_left]

theorem markT (w : World) {l h g C n cap : Nat} {pre xs : List Int} (r : Row w l h .i64 3 (some ⟨g, 0, none⟩) (pre.length + n) C (pre ++ xs)) (hc : n ≤ cap) (_ : cap ≤ maxLen) (hn : n ≤ 17592186044416) (m : Int) (hm0 : 0 ≤ m) (hm1 : m ≤ 1000000000000000000) :
    Calls Tryz.prog 79 #[.slice (some ⟨g, pre.length, none⟩) n cap, .int .i64 m] w fun e w' => e = .returned (.int .i64 (m + n)) ∧ Row w' l h .i64 3 (some ⟨g, 0, none⟩) (pre.length + n) C (pre ++ stamps .i64 m n) ∧ Mv w w' l h := by
  have hxl : xs.length = n := by have := r.len; rw [List.length_append] at this; omega
  have hol := r.len
  obtain ⟨o, hO⟩ : ∃ o, o = pre.length := ⟨_, rfl⟩
  have HO := Lib.hid hO
  rw [← hO] at r ⊢
  clear hO
  go_enter Tryz.func79, Tryz.ntmps79
  go_wp2
  go_loopw [5, 1] (fun i kk wr => ∃ j : Nat, j ≤ n ∧ i = .int .i64 j ∧ kk = .int .i64 (m + j) ∧ Row wr l h .i64 3 (some ⟨g, 0, none⟩) (o + n) C (pre ++ ((stamps .i64 m n).take j ++ xs.drop j)) ∧ Mv w wr l h) (fun i _ _ => n - (intOf i).toNat)
  case atStart => exact ⟨0, Nat.zero_le _, rfl, by go_num, by simpa using r, Mv.refl _ _ _⟩
  case round =>
    obtain ⟨j, hj, rfl, rfl, hr, hb⟩ := hrel
    by_cases hlt : j < n
    · obtain ⟨y, _, _, hy, hf⟩ := hr.there (j := o + j) (by omega)
      go_wp2
      go_roundw
      case rel =>
        have hh := hr.set (j := o + j) (by omega) (stamp_fits (k := .i64) (m := m + j) (by simp) (by omega) (by omega))
        rw [HO.out, pre_set, ← HO.out] at hh
        exact ⟨j + 1, by omega, by go_num, by go_num, over hxl (stamps_len _ _ _) hlt (stamps_get hlt) ▸ hh.1, hb.trans hh.2⟩
      case measure => simp [intOf]; omega
    · obtain rfl : j = n := by omega
      have HR := Lib.hid hr
      clear hr
      go_wp2
      go_ret
      have e1 : (stamps .i64 m j).take j ++ xs.drop j = stamps .i64 m j := by
        rw [List.take_of_length_le (by rw [stamps_len]; exact Nat.le_refl _), List.drop_eq_nil_of_le (by rw [hxl]; exact Nat.le_refl _), List.append_nil]
      exact ⟨rfl, e1 ▸ HR.out, hb⟩
theorem markSSN (w : World) {l h : Nat} {ad : Option Addr} {n cap : Nat} {us : List Value} {xss : List (List Int)} (r : Net w l h 3 ad n cap us xss) (hn : n ≤ 1099511627776) (hS : sumLen xss ≤ 17592186044416) (m : Int) (hm0 : 0 ≤ m) (hm1 : m ≤ 100000000000000000) :
    Calls Tryz.prog 46 #[.slice ad n cap, .int .i64 m] w fun e w' => e = .returned (.int .i64 (m + sumLen xss)) ∧ Net w' l h 3 ad n cap us (stampss m xss) ∧ Mv w w' l h := by
  have hcap := r.out.le
  have hbig := r.out.big
  unfold maxLen at hbig
  go_enter Tryz.func46, Tryz.ntmps46
  go_wp2
  go_loopw [5, 1] (fun i kk wr => ∃ j : Nat, j ≤ n ∧ i = .int .i64 j ∧ kk = .int .i64 (m + sumLen (xss.take j)) ∧ Net wr l h 3 ad n cap us ((stampss m xss).take j ++ xss.drop j) ∧ Mv w wr l h) (fun i _ _ => n - (intOf i).toNat)
  case atStart => exact ⟨0, Nat.zero_le _, rfl, by simp [sumLen], by simpa using r, Mv.refl _ _ _⟩
  case round =>
    obtain ⟨j, hj, rfl, rfl, hr, hb⟩ := hrel
    by_cases hlt : j < n
    · obtain ⟨u, xs, a, hu, hxs, ho, rfl, hc⟩ := hr.row hlt
      rw [at_drop (by rw [stampss_len]; exact r.len) hlt] at hxs
      have hst := stampss_get (m := m) hxs
      have hsm := sumLen_le xss (j + 1)
      rw [sumLen_take hxs] at hsm
      have hkm := sumLen_take hxs
      generalize hK : sumLen (xss.take j) = K at *
      obtain ⟨ad3, n3, cap3, rfl, h31, h32, h33, ⟨rfl, rfl⟩ | ⟨hn3, g, C, pre, rfl, b1, b2, hr4⟩⟩ := ho
      · have hkm0 : sumLen (xss.take (j + 1)) = K := by rw [hkm]; rfl
        have HM := Lib.hid (markI0 wr ad3 cap3 (m + K))
        have HG := Lib.hid hr
        clear hr hkm hK
        go_wp2_with fail
        go_at_call 79
        refine HM.out.mono ?_
        rintro e w2 ⟨rfl, rfl⟩
        go_wp2
        go_roundw
        case rel => exact ⟨j + 1, by omega, by go_num, by rw [hkm0], by
          have := over2 (xs := xss) r.len (by rw [stampss_len]; exact r.len) hlt hst
          rw [← this, set_same (x := stamps .i64 (m + K) ([] : List Int).length) (by rw [at_drop (by rw [stampss_len]; exact r.len) hlt, hxs]; rfl)]
          exact HG.out, hb⟩
        case measure => simp [intOf]; omega
      · have hln : n3 = xs.length := by have := hr4.len; rw [List.length_append] at this; omega
        have HM := Lib.hid (markT wr hr4 h31 h32 (by omega) (m + K) (by omega) (by omega))
        have HG := Lib.hid hr
        have hkm1 : (K : Int) + n3 = sumLen (xss.take (j + 1)) := by rw [hkm, hln]; simp
        have HLN := Lib.hid hln
        clear hr hK hr4 hln
        go_wp2_with fail
        go_at_call 79
        refine HM.out.mono ?_
        rintro e w2 ⟨rfl, r5, m5⟩
        have HR5 := Lib.hid (HG.out.redo hu hn3 h31 h32 r5 m5 b1 b2)
        clear r5 m5
        go_wp2
        go_roundw
        case rel =>
          refine ⟨j + 1, by omega, by go_num, by rw [← hkm1]; congr 1; omega, ?_, hb.trans HR5.out.2⟩
          have h6 := HR5.out.1
          rw [HLN.out] at h6
          rw [over2 (xs := xss) r.len (by rw [stampss_len]; exact r.len) hlt hst] at h6
          exact h6
        case measure => simp [intOf]; omega
    · obtain rfl : j = n := by omega
      rw [List.take_of_length_le (Nat.le_of_eq (by rw [stampss_len]; exact r.len)), List.drop_eq_nil_of_le (Nat.le_of_eq r.len), List.append_nil] at hr
      have e1 : xss.take j = xss := List.take_of_length_le (Nat.le_of_eq r.len)
      have HG := Lib.hid hr
      clear hr
      rw [e1]
      go_wp2
      go_ret
      exact ⟨rfl, HG.out, hb⟩
end Go.Proofs.YtefcfeikooknmaaGreat.Help
namespace Go.Proofs.YtefcfeikooknmaaGreat.InvP
open Go.Proofs.YtefcfeikooknmaaGreat.Field Go.Proofs.YtefcfeikooknmaaGreat.Vec Go.Proofs.YtefcfeikooknmaaGreat.Mat Go.Proofs.YtefcfeikooknmaaGreat.MatP Go.Proofs.YtefcfeikooknmaaGreat.Lin Go.Proofs.YtefcfeikooknmaaGreat.Rref Go.Proofs.YtefcfeikooknmaaGreat.Det

theorem cleared_det {n a q k : Nat} {M : Nat → V} (ha : a < n) : det n (cleared invF M a q k) = invF (M q k) * det n (swapped M a q) := by
  have hD := form_det n
  have hall : ∀ i, i ≤ n → det n (clr invF M a q k i) = det n (clr invF M a q k 0) := fun i => by
    induction i with
    | zero => intro _; rfl
    | succ i ih =>
      intro h
      rw [clr_s]
      split
      · exact ih (by omega)
      · rename_i hia
        rw [hD.alt.addrow _ (show i < n by omega) ha hia, ih (by omega)]
  have e1 : det n (cleared invF M a q k) = det n (clr invF M a q k n) := hD.loc _ _ fun i j hi _ => by unfold clr; rw [if_pos hi]
  have e2 : upd (swapped M a q) a (M q) = swapped M a q := by
    conv => rhs; rw [← upd_self (swapped M a q) a]
    rw [swapped_a]
  rw [e1, hall n (Nat.le_refl _), clr_0, hD.alt.scale _ ha, e2]
theorem swapped_det {n a q : Nat} {M : Nat → V} (ha : a < n) (hq : q < n) : det n (swapped M a q) = (if q = a then 1 else 0 - 1) * det n M := by
  by_cases hqa : q = a
  · subst hqa
    rw [if_pos rfl]
    have : swapped M q q = M := by
      funext l
      unfold swapped
      split
      · rename_i h; rw [h]
      · rfl
    rw [this]; grind
  · rw [if_neg hqa, swapped_swap, (form_det n).alt.swap _ hq ha hqa]; grind
/-- The factor that elimination keeps. -/
theorem factor_step {n a q k : Nat} {M : Nat → V} {f D : F} (h : D = f * det n M) (ha : a < n) (hq : q < n) (hne : M q k ≠ 0) : D = (if q = a then f else 0 - f) * M q k * det n (cleared invF M a q k) := by
  have h1 := cleared_det (k := k) (M := M) (q := q) ha
  rw [swapped_det ha hq] at h1
  have h2 := invF_ok _ hne
  rw [h1]
  by_cases hqa : q = a
  · rw [if_pos hqa, if_pos hqa]; grind
  · rw [if_neg hqa, if_neg hqa]; grind
/-- Columns without a pivot are passed over. -/
theorem jump {n a k k' : Nat} {M : Nat → V} {p : Nat → Nat} (h : Elim n a k M p) (hk : k ≤ k') (hz : ∀ j l, j < k' → a ≤ l → l < n → M l j = 0) : Elim n a k' M p := by
  obtain ⟨d, rfl⟩ : ∃ d, k' = k + d := ⟨k' - k, by omega⟩
  induction d with
  | zero => exact h
  | succ d ih => exact (ih (by omega) fun j l hj => hz j l (by omega)).none fun l h1 h2 => hz (k + d) l (by omega) h1 h2
theorem past {n a k k' q : Nat} {M : Nat → V} {p : Nat → Nat} (h : Elim n a k M p) (h1 : a ≤ q) (h2 : q < n) (hne : M q k' ≠ 0) : k ≤ k' := by
  rcases Nat.lt_or_ge k' k with h3 | h3
  · exact absurd (h.rest q k' h1 h2 h3) hne
  · exact h3
end Go.Proofs.YtefcfeikooknmaaGreat.InvP
namespace Go.Proofs.YtefcfeikooknmaaGreat.RedP
open Go.Proofs.YtefcfeikooknmaaGreat.Field Go.Proofs.YtefcfeikooknmaaGreat.Vec Go.Proofs.YtefcfeikooknmaaGreat.Mat Go.Proofs.YtefcfeikooknmaaGreat.MatP Go.Proofs.YtefcfeikooknmaaGreat.Lin Go.Proofs.YtefcfeikooknmaaGreat.Rref Go.Proofs.YtefcfeikooknmaaGreat.SolP Go.Proofs.YtefcfeikooknmaaGreat.Det Go.Proofs.YtefcfeikooknmaaGreat.RedW

theorem leadFrom_cases (xs : List Int) : ∀ c : Int, (leadFrom c xs = -1 ∧ ∀ x ∈ xs, x = 0) ∨ ∃ (j : Nat) (x : Int), xs[j]? = some x ∧ x ≠ 0 ∧ (∀ y ∈ xs.take j, y = 0) ∧ leadFrom c xs = c + j := by
  induction xs with
  | nil => intro c; exact .inl ⟨rfl, by simp⟩
  | cons a xs ih =>
    intro c
    by_cases ha : a = 0
    · subst ha
      have e : leadFrom c (0 :: xs) = leadFrom (c + 1) xs := rfl
      rw [e]
      rcases ih (c + 1) with ⟨h1, h2⟩ | ⟨j, x, h1, h2, h3, h4⟩
      · exact .inl ⟨h1, fun x hx => (List.mem_cons.1 hx).elim id (h2 x)⟩
      · refine .inr ⟨j + 1, x, by simpa using h1, h2, fun y hy => ?_, by rw [h4]; omega⟩
        rw [List.take_succ_cons] at hy
        exact (List.mem_cons.1 hy).elim id (h3 y)
    · refine .inr ⟨0, a, rfl, ha, by simp, ?_⟩
      have : (a == 0) = false := by simpa using ha
      simp [leadFrom, this]
theorem lead_cases (xs : List Int) : (lead xs = -1 ∧ ∀ x ∈ xs, x = 0) ∨ ∃ (j : Nat) (x : Int), xs[j]? = some x ∧ x ≠ 0 ∧ (∀ y ∈ xs.take j, y = 0) ∧ lead xs = j := by
  rcases leadFrom_cases xs 0 with h | ⟨j, x, h1, h2, h3, h4⟩
  · exact .inl h
  · exact .inr ⟨j, x, h1, h2, h3, by unfold lead; rw [h4]; omega⟩
theorem lead_ge (xs : List Int) : -1 ≤ lead xs := by
  rcases lead_cases xs with ⟨h, _⟩ | ⟨j, _, _, _, _, h⟩ <;> omega
theorem lead_lt {xs : List Int} : lead xs < xs.length := by
  rcases lead_cases xs with ⟨h, _⟩ | ⟨j, _, h1, _, _, h⟩
  · omega
  · have := (List.getElem?_eq_some_iff.1 h1).1; omega
theorem column_mk {n c k : Nat} (f : Nat → V) (hk : k < c) : column (mk n c f) k = vec n fun l => f l k := by
  unfold column mk vec
  rw [List.map_map]
  exact List.map_congr_left fun l _ => by simp [hk]
theorem vec_inj {n : Nat} {f g : V} (h : vec n f = vec n g) : ∀ l, l < n → f l = g l := fun l hl => by
  have h1 := vec_get f hl
  rw [h, vec_get g hl] at h1
  exact (em_inj (Option.some.inj h1)).symm

/-- The pivot of the row ahead; -1 of none. -/
def lastOf (m : List (List Int)) (i : Nat) : Int := if i = 0 then -1 else lead (m[i - 1]?.getD [])
/-- A row whose pivot lies beyond the last one, in a column that is 0 elsewhere. -/
def Pass (m : List (List Int)) (i : Nat) : Prop := lastOf m i < lead (m[i]?.getD []) ∧ column m (lead (m[i]?.getD [])).toNat = unit m.length i
variable {m : List (List Int)}
theorem row_vec (hm : isMat m = true) {i : Nat} (hi : i < m.length) : m[i]?.getD [] = vec (colsOf m) (ent m i) := by
  have h := mk_get (c := colsOf m) (ent m) hi
  rw [mk_ent hm] at h
  rw [h]; rfl
theorem pass_all (hm : isMat m = true) (h : ∀ i, i < m.length → Pass m i) : rref m = m := by
  have hge : ∀ i, i < m.length → 0 ≤ lead (m[i]?.getD []) := fun i hi => by
    have h1 := (h i hi).1
    unfold lastOf at h1
    split at h1
    · omega
    · have := lead_ge (m[i - 1]?.getD []); omega
  have hlt : ∀ i, i < m.length → (lead (m[i]?.getD [])).toNat < colsOf m := fun i hi => by
    have h1 := lead_lt (xs := m[i]?.getD [])
    have h2 := hge i hi
    have h3 : (m[i]?.getD []).length = colsOf m := by rw [row_vec hm hi, vec_len]
    omega
  have hcol : ∀ i, i < m.length → ∀ l, l < m.length → ent m l (lead (m[i]?.getD [])).toNat = one i l := fun i hi => by
    have h1 := (h i hi).2
    rw [unit_vec (isMat_iff.1 hm).2 hi] at h1
    conv at h1 => lhs; arg 1; rw [← mk_ent hm]
    rw [column_mk _ (hlt i hi)] at h1
    exact vec_inj h1
  have hup1 : ∀ i, i + 1 < m.length → (lead (m[i]?.getD [])).toNat < (lead (m[i + 1]?.getD [])).toNat := fun i hi => by
    have h1 := (h (i + 1) hi).1
    unfold lastOf at h1
    rw [if_neg (by omega), Nat.add_sub_cancel] at h1
    have := hge i (by omega)
    omega
  have hup : ∀ d i, i + d + 1 < m.length → (lead (m[i]?.getD [])).toNat < (lead (m[i + d + 1]?.getD [])).toNat := fun d => by
    induction d with
    | zero => exact hup1
    | succ d ih => exact fun i hi => Nat.lt_trans (ih i (by omega)) (hup1 (i + d + 1) hi)
  have hred : Red m.length (colsOf m) (ent m) fun i => (lead (m[i]?.getD [])).toNat := by
    refine ⟨hlt, fun i k hik hk => ?_, fun i hi => by rw [hcol i hi i hi, one_at, if_pos rfl], fun i k hi hk hki => by rw [hcol k hk i hi, one_at, if_neg (fun e => hki e.symm)], fun i j hi hj => ?_⟩
    · obtain ⟨d, rfl⟩ : ∃ d, k = i + d + 1 := ⟨k - i - 1, by omega⟩
      exact hup d i hk
    · have h2 := hge i hi
      have h3 := hlt i hi
      rcases lead_cases (m[i]?.getD []) with ⟨h1, _⟩ | ⟨j', x, a1, a2, a3, a4⟩
      · omega
      · have hjj : j < j' := by omega
        have hj2 : (m[i]?.getD [])[j]? = some (em (ent m i j)) := by rw [row_vec hm hi]; exact vec_get _ (by omega)
        have h0 := a3 _ (List.mem_of_getElem? (i := j) (by rw [List.getElem?_take, if_pos hjj]; exact hj2))
        exact em_inj (h0.trans em_0.symm)
  exact rref_is invF invF_ok hm ⟨m.length, ent m, _, (mk_ent hm).symm, hred, Nat.le_refl _, fun i hi => span_mem hi, fun l hl => span_mem hl⟩
theorem pass_of (hm : isMat m = true) (h : rref m = m) : ∀ i, i < m.length → Pass m i := by
  obtain ⟨n, R, p, hr, hred, _⟩ := rref_red invF invF_ok hm
  rw [h] at hr
  have hn : m.length = n := by rw [hr, mk_len]
  generalize colsOf m = c at *
  have hn4 := (isMat_iff.1 hm).2
  rw [hn] at hn4 ⊢
  have hl : ∀ i, i < n → lead (m[i]?.getD []) = p i := fun i hi => by
    rw [hr, mk_get R hi]
    exact lead_red hred hi
  intro i hi
  refine ⟨?_, ?_⟩
  · rw [hl i hi]
    unfold lastOf
    split
    · omega
    · rw [hl (i - 1) (by omega)]
      have := hred.up (i - 1) i (by omega) hi
      omega
  · rw [hl i hi, hn, unit_vec hn4 hi, Int.toNat_natCast, hr, column_mk R (hred.lt i hi)]
    refine vec_congr fun l hl => ?_
    rw [one_at]
    by_cases e : l = i
    · subst e; rw [if_pos rfl]; exact hred.one l hl
    · rw [if_neg e]; exact hred.zero l i hl hi (fun h => e h.symm)
theorem isRed_yes (hm : isMat m = true) (h : ∀ i, i < m.length → Pass m i) : RedW.isRed m = true := by
  unfold RedW.isRed MatW.sameM
  rw [hm, pass_all hm h]; simp
theorem isRed_no (hm : isMat m = true) {i : Nat} (hi : i < m.length) (h : ¬ Pass m i) : RedW.isRed m = false := by
  unfold RedW.isRed MatW.sameM
  rw [hm, decide_eq_false fun e => h (pass_of hm e i hi)]; rfl
/-- The determinant, told by what elimination leaves. -/
theorem det_red {n : Nat} {M : Nat → V} {p : Nat → Nat} (h : Red n n M p) : det n M = 1 := by
  rw [InvP.det_like (InvP.full_one h), det_one]
end Go.Proofs.YtefcfeikooknmaaGreat.RedP
namespace Go.Proofs.YtefcfeikooknmaaGreat.ElimP
open Go.Proofs.YtefcfeikooknmaaGreat.Field Go.Proofs.YtefcfeikooknmaaGreat.Vec Go.Proofs.YtefcfeikooknmaaGreat.Mat Go.Proofs.YtefcfeikooknmaaGreat.MatP Go.Proofs.YtefcfeikooknmaaGreat.Lin Go.Proofs.YtefcfeikooknmaaGreat.Rref Go.Proofs.YtefcfeikooknmaaGreat.SolP Go.Proofs.YtefcfeikooknmaaGreat.Det Go.Proofs.YtefcfeikooknmaaGreat.InvP Go.Proofs.YtefcfeikooknmaaGreat.RedW

/-- The rows of one matrix behind those of another. -/
def joinL (a b : List (List Int)) : List (List Int) := List.zipWith (fun x y => x ++ y) a b
theorem joinL_len {a b : List (List Int)} (h : a.length = b.length) : (joinL a b).length = a.length := by unfold joinL; rw [List.length_zipWith, ← h, Nat.min_self]
theorem joinL_get {a b : List (List Int)} {j : Nat} {x y : List Int} (hx : a[j]? = some x) (hy : b[j]? = some y) : (joinL a b)[j]? = some (x ++ y) := by
  unfold joinL; rw [List.getElem?_zipWith, hx, hy]
theorem join_id {m : List (List Int)} (h : m.length ≤ 40) : joinL m (identity m.length) = wideI m m.length := by
  obtain ⟨k, hk, he, hh⟩ := identity_is m.length
  obtain rfl : k = m.length := by omega
  unfold wideI
  rw [he, range_map_full]
  apply List.ext_getElem?
  intro j
  by_cases hj : j < m.length
  · rw [joinL_get (x := m[j]) (y := unit (m.length : Int) (j : Int)) (List.getElem?_eq_getElem hj) (by simp [hj])]
    simp [hj]
  · rw [List.getElem?_eq_none (by rw [joinL_len (by simp)]; omega), List.getElem?_eq_none (by simp; omega)]
theorem join_rhs {m : List (List Int)} {b : List Int} (h : b.length = m.length) : joinL m (b.map fun x => [x]) = wideB m b m.length := by
  unfold wideB
  rw [range_map_full]
  apply List.ext_getElem?
  intro j
  by_cases hj : j < m.length
  · rw [joinL_get (x := m[j]) (y := [b[j]'(by omega)]) (List.getElem?_eq_getElem hj) (by simp [show j < b.length by omega])]
    simp [hj, show j < b.length by omega]
  · rw [List.getElem?_eq_none (by rw [joinL_len (by simp [h])]; omega), List.getElem?_eq_none (by simp; omega)]
theorem full_det {m : List (List Int)} (h : m.length ≤ 20) : isFull m = decide (detM m ≠ 0) := by
  cases hs : isSq m
  · rw [detM_no hs]
    unfold isFull; rw [hs]; simp
  · rw [detM_ok hs]
    by_cases hd : det m.length (ent m) = 0
    · rw [hd]
      cases hf : isFull m
      · simp [em_0]
      · obtain ⟨_, _, hr⟩ := isFull_iff.1 hf
        exact absurd hd ((full_iff hs).1 hr)
    · rw [isFull_iff.2 ⟨hs, h, (full_iff hs).2 hd⟩]
      have : em (det m.length (ent m)) ≠ 0 := fun e => hd (em_inj (e.trans em_0.symm))
      simp [this]
/-- The reduced rows of the matrix with the identity behind it. -/
theorem inv_rref {m : List (List Int)} (hf : isFull m = true) : ∃ M : Nat → V, rref (wideI m m.length) = mk m.length (m.length + m.length) M ∧ invM m = mk m.length m.length fun i j => M i (m.length + j) := by
  obtain ⟨hs, h20, _⟩ := isFull_iff.1 hf
  rw [wideI_mk hs]
  obtain ⟨A, M, p, hA, h1, h2⟩ := exists_elim invF invF_ok m.length (wI m) m.length
  have hAn : A = m.length := by
    rcases Nat.lt_or_ge A m.length with h | h
    · have := wideI_none hs hA h2 h
      rw [hf] at this; cases this
    · have := hA.le; omega
  subst hAn
  refine ⟨M, ?_, (wideI_full hs h20 hA h1).2⟩
  generalize hn : m.length = n at *
  have hW : Mat.isMat (mk n (n + n) (wI m)) = true := isMat_mk _ (by omega) (by omega)
  rcases Nat.eq_zero_or_pos n with h0 | h0
  · subst h0
    exact rref_is invF invF_ok hW ⟨0, M, p, rfl, ⟨fun _ h => by omega, fun _ _ _ h => by omega, fun _ h => by omega, fun _ _ h => by omega, fun _ _ h => by omega⟩, Nat.zero_le _, fun _ h => by omega, fun l hl => by rw [mk_len] at hl; omega⟩
  · have hE := RedW.full (k' := n + n) hA (by omega)
    have hent : ∀ l, l < n → ent (mk n (n + n) (wI m)) l = wI m l := fun l hl => ent_red hl (by have := wI_supp (m := m) l (by omega); rwa [hn] at this)
    have := elim_rref (m := mk n (n + n) (wI m)) (A := n) (M := M) (p := p) hW (by rw [mk_len, mk_cols _ h0]; exact hE) (fun l hl => by
      rw [mk_len] at hl ⊢
      exact span_congr (fun i hi => (hent i hi).symm) (h1 l hl)) (fun l hl => by
      rw [mk_len] at hl ⊢
      rw [hent l hl]; exact h2 l hl)
    rw [mk_cols _ h0] at this
    exact this.symm
/-- The reduced rows of the matrix with the right side behind it. -/
theorem sys_rref {m : List (List Int)} {b : List Int} (hm : Mat.isMat m = true) (hb : Vec.isVec b = true) (hl : b.length = m.length) (hc : colsOf m < 40) : ∃ (A : Nat) (M : Nat → V) (p : Nat → Nat), rref (wideB m b m.length) = mk A (colsOf m + 1) M ∧
    Elim m.length A (colsOf m + 1) M p ∧ (∀ l, l < m.length → Span m.length (wide m b) (M l)) ∧ ∀ l, l < m.length → Span m.length M (wide m b l) := by
  rw [wideB_mk hm hb hl]
  obtain ⟨A, M, p, hA, h1, h2⟩ := exists_elim invF invF_ok m.length (wide m b) (colsOf m + 1)
  refine ⟨A, M, p, ?_, hA, h1, h2⟩
  have h4 := (isMat_iff.1 hm).2
  have hent : ∀ l, l < m.length → ent (mk m.length (colsOf m + 1) (wide m b)) l = wide m b l := fun l hl => ent_red hl (wide_supp hm l)
  have hW : Mat.isMat (mk m.length (colsOf m + 1) (wide m b)) = true := isMat_mk _ h4 (by omega)
  rcases Nat.eq_zero_or_pos m.length with h0 | h0
  · have hA0 : A = 0 := by have := hA.le; omega
    subst hA0
    rw [h0] at hW ⊢
    exact rref_is invF invF_ok hW ⟨0, M, p, rfl, ⟨fun _ h => by omega, fun _ _ _ h => by omega, fun _ h => by omega, fun _ _ h => by omega, fun _ _ h => by omega⟩, Nat.zero_le _, fun _ h => by omega, fun l hl => by rw [mk_len] at hl; omega⟩
  · have := elim_rref (m := mk m.length (colsOf m + 1) (wide m b)) (A := A) (M := M) (p := p) hW (by rw [mk_len, mk_cols _ h0]; exact hA) (fun l hl => by
      rw [mk_len] at hl ⊢
      exact span_congr (fun i hi => (hent i hi).symm) (h1 l hl)) (fun l hl => by
      rw [mk_len] at hl ⊢
      rw [hent l hl]; exact h2 l hl)
    rw [mk_cols _ h0] at this
    exact this.symm
end Go.Proofs.YtefcfeikooknmaaGreat.ElimP
namespace Go.Proofs.YtefcfeikooknmaaGreat.ElimOps
open Go.ChangeShapes Go.WideShapes Go.ChangeAt Go.RowKit
open Go.Proofs.YtefcfeikooknmaaGreat.Seq Go.Proofs.YtefcfeikooknmaaGreat.Help Go.Proofs.YtefcfeikooknmaaGreat.Vec Go.Proofs.YtefcfeikooknmaaGreat.VecOps Go.Proofs.YtefcfeikooknmaaGreat.Mat Go.Proofs.YtefcfeikooknmaaGreat.MatW Go.Proofs.YtefcfeikooknmaaGreat.MatOps Go.Proofs.YtefcfeikooknmaaGreat.RedW

noncomputable def invR (m : List (List Int)) : List (List Int) × Bool := (InvP.invM m, InvP.isFull m)
theorem few_invR (m : List (List Int)) : Few (invR m).1 := ⟨by have := (InvP.few_invM m).1; show (InvP.invM m).length ≤ 40; omega, fun xs hx => by have := (InvP.few_invM m).2 xs hx; omega⟩
def RrefOp : Prop := ∀ (w : World) {l h : Nat} {ad : Option Addr} {n cap : Nat} {m : List (List Int)}, Sls w l h ad n cap m → n ≤ 1099511627776 → Short m →
  Calls Tryz.prog 72 #[.slice ad n cap] w (Gives3 (Rref.rref m) w)
def IsRedOp : Prop := ∀ (w : World) {l h : Nat} {ad : Option Addr} {n cap : Nat} {m : List (List Int)}, Sls w l h ad n cap m → n ≤ 1099511627776 → Short m →
  Calls Tryz.prog 57 #[.slice ad n cap] w (SaysB (isRed m) w)
def NullOp : Prop := ∀ (w : World) {l h : Nat} {ad : Option Addr} {n cap : Nat} {m : List (List Int)}, Sls w l h ad n cap m → n ≤ 1099511627776 → Short m →
  Calls Tryz.prog 42 #[.slice ad n cap] w (Gives2 (SolP.nullOf m) w)
end Go.Proofs.YtefcfeikooknmaaGreat.ElimOps
namespace Go.Proofs.YtefcfeikooknmaaGreat.Concat
open Go.ChangeShapes Go.WideShapes Go.ChangeAt Go.RowKit
open Go.Proofs.YtefcfeikooknmaaGreat.Seq Go.Proofs.YtefcfeikooknmaaGreat.Help

/-- An own slice without elements, with room. -/
theorem row_room (w : World) (e : TypeId) (cur : Array Value) (cap : Nat) (hm : cap ≤ maxLen) (hs : cur.size = cap) :
    Row (w.drew.alloc (.cells cur e)) w.heap.size (w.drew.alloc (.cells cur e)).heap.size .i64 e (some ⟨w.heap.size, 0, none⟩) 0 cap [] :=
  ⟨rfl, Nat.zero_le _, hm, by simp, .inr ⟨w.heap.size, rfl, Nat.le_refl _, by rw [World.size_alloc]; exact Nat.lt_succ_self _, by
    have := World.ownsRow_made (base := w.heap.size) (e := e) (size := 1) w.drew cur cap (Nat.le_refl _) hm (by omega)
    exact this⟩⟩
/-- 'append([]int(nil), make([]int, n)...)', as the walk meets it. -/
theorem wpList_zeros {P : Program} {w : World} {ops : Array Oper} {rest : List Oper} {o : Oper} {a : Act} {Q : Exit → Act → World → Prop} {e t tn : TypeId} {kn kq : IntKind} (ht : P.underlying t = some (.slice e)) (htn : P.underlying tn = some (.int kn)) {z : Value} {bytes : Nat}
    (hinfo : (P.info? e).map (fun i => (i.zero, i.size, i.bytes)) = some (some z, 1, bytes)) (hzs : z.cells.size = 1) {n : Nat} (h0 : 0 < n) (hn : n ≤ maxLen) (hby : n * bytes ≤ 281474976710656)
    (hg : o.guard = none) (p q : Operand) (hop : o.op = Op.call { callee := Callee.builtin Builtin.append, args := #[p, q], argTypes := #[t, tn] }) (hp : a.eval p = .slice none 0 0) (hq : a.eval q = .int kq (n : Int))
    (hK : ∀ cap w', n ≤ cap → cap ≤ maxLen → Row w' w.heap.size w'.heap.size .i64 e (some ⟨w.heap.size, 0, none⟩) 0 cap [] → Below w.heap.size w w' → wpList P ops Q rest (a.put o.dst (.slice (some ⟨w.heap.size, 0, none⟩) n cap)) w') : wpList P ops Q (o :: rest) a w := by
  obtain ⟨i, hi, hz, hs, hb⟩ := info_parts hinfo
  have hn9 : (n : Int) ≤ 9223372036854775807 := by unfold maxLen at hn; omega
  have hrun := Lib.run_append_nil_zeros w t tn o.type e i z kq kn ht htn hi hz n h0 (by omega) hn9 (by rw [hb]; exact hby)
  have hge := grownCap_ge w n 0 e
  have hle := grownCap_le_maxLen w n 0 e hn
  refine Lib.wpList_append_run w hg p q t tn hop _ _ hp hq _ _ hrun (hK _ _ hge hle (row_room w e _ _ hle ?_) ((Below.refl _ _).drew.alloc (Nat.le_refl _) _))
  rw [Array.size_append, size_zeroCells, size_zeroCells, hzs]; omega
theorem flat_more {xss : List (List Int)} {xs : List Int} {j : Nat} (h : xss[j]? = some xs) : (xss.take (j + 1)).flatten = (xss.take j).flatten ++ xs := by
  rw [List.take_add_one, h]; simp
theorem flat_len (xss : List (List Int)) : xss.flatten.length = sumLen xss := by unfold sumLen; rw [List.length_flatten]
end Go.Proofs.YtefcfeikooknmaaGreat.Concat
namespace Go.Proofs.YtefcfeikooknmaaGreat.ElimI
open Go.ChangeShapes Go.WideShapes Go.ChangeAt Go.RowKit
open Go.Proofs.YtefcfeikooknmaaGreat.Drawn Go.Proofs.YtefcfeikooknmaaGreat.Seq Go.Proofs.YtefcfeikooknmaaGreat.Help Go.Proofs.YtefcfeikooknmaaGreat.Field Go.Proofs.YtefcfeikooknmaaGreat.FieldW Go.Proofs.YtefcfeikooknmaaGreat.Vec Go.Proofs.YtefcfeikooknmaaGreat.VecOps Go.Proofs.YtefcfeikooknmaaGreat.Mat Go.Proofs.YtefcfeikooknmaaGreat.MatW Go.Proofs.YtefcfeikooknmaaGreat.MatOps Go.Proofs.YtefcfeikooknmaaGreat.MatP Go.Proofs.YtefcfeikooknmaaGreat.Lin Go.Proofs.YtefcfeikooknmaaGreat.Rref Go.Proofs.YtefcfeikooknmaaGreat.RedW

/-- The list itself, as values. -/
theorem outer {w : World} {l h : Nat} {ad : Option Addr} {n cap : Nat} {m : List (List Int)} (s : Sls w l h ad n cap m) : ∃ us, SlV w l h ad n cap us ∧ ∀ (j : Nat) (u : Value) (xs : List Int), us[j]? = some u → m[j]? = some xs → IsInts w l h u xs := by
  obtain ⟨us, h1, h2⟩ := build (α := Value) n (fun j u => ∃ a xs, ad = some a ∧ l ≤ a.block ∧ a.block < h ∧ w.cell? (a.add j) = some u ∧ m[j]? = some xs ∧ IsInts w l h u xs) fun j hj => by
    have hl : j < m.length := by rw [s.len]; exact hj
    have hx : m[j]? = some m[j] := List.getElem?_eq_getElem hl
    obtain ⟨a, u, e, g1, g2, g3, g4⟩ := s.cells j _ hx
    exact ⟨u, a, _, e, g1, g2, g3, hx, g4⟩
  refine ⟨us, ⟨h1, s.le, s.big, s.nil, fun u hu => ?_, fun j u hu => ?_⟩, fun j u xs hu hx => ?_⟩
  · obtain ⟨j, hj⟩ := List.mem_iff_getElem?.1 hu
    obtain ⟨_, _, _, _, _, _, _, hi⟩ := h2 j u hj
    exact hi.one
  · obtain ⟨a, _, e, g1, g2, g3, _⟩ := h2 j u hu
    exact ⟨a, e, g1, g2, g3⟩
  · obtain ⟨_, ys, _, _, _, _, hy, hi⟩ := h2 j u hu
    obtain rfl := Option.some.inj (hy.symm.trans hx)
    exact hi
/-- A new list of the same rows. -/
def Copied (m : List (List Int)) (l h : Nat) (w : World) (e : Ending) (w' : World) : Prop :=
  ∃ ad n cap us, e = .returned (.slice ad n cap) ∧ RowV w' w.heap.size w'.heap.size 61 ad n cap us ∧ m.length = n ∧ (∀ (j : Nat) (u : Value) (xs : List Int), us[j]? = some u → m[j]? = some xs → IsInts w l h u xs) ∧ Below w.heap.size w w'
theorem clone (w : World) {l h : Nat} {ad : Option Addr} {n cap : Nat} {m : List (List Int)} (s : Sls w l h ad n cap m) (hn : n ≤ 1099511627776) :
    Calls Tryz.prog 124 #[.slice ad n cap] w (Copied m l h w) := by
  obtain ⟨us, so, hu⟩ := outer s
  have HU := Lib.hid hu
  have HL := Lib.hid s.len
  clear hu
  unfold Copied
  cases ad with
  | none =>
    obtain rfl := s.nil rfl
    obtain rfl : n = 0 := by have := s.le; omega
    obtain rfl : us = [] := List.eq_nil_of_length_eq_zero so.len
    clear s so
    have hq := Lib.run_eql_slice_nil_nil (P := Tryz.prog) w 0 0 Tryz.underlying24
    go_enter Tryz.func124, Tryz.ntmps124
    go_wp2
    go_ret
    exact ⟨_, _, _, [], rfl, RowV.nil _ _ _ _ _, HL.out, HU.out, Below.refl _ _⟩
  | some a =>
    clear s
    have SO := Lib.hid so
    clear so
    have hq := Lib.run_eql_slice_some_nil (P := Tryz.prog) w a n cap Tryz.underlying24
    go_enter Tryz.func124, Tryz.ntmps124
    go_wp2_with (at_builtin; refine wpList_appV (RowV.nil (w.alloc (.cells #[] 61)) w.heap.size w.heap.size 61 (some ⟨w.heap.size, 0, none⟩)) (SO.out.alloc _) Tryz.underlying24 info_ints rfl (by unfold maxLen; omega) (by omega) (by simp) rfl _ _ rfl rfl rfl ?_; intro ad4 cap4 w4 r4 m4)
    rw [List.nil_append, Nat.zero_add] at r4
    have b4 : Below w.heap.size w w4 := ((Below.refl _ w).alloc (Nat.le_refl _) (.cells #[] 61)).trans (m4.below (Nat.le_refl _) (by simp))
    have R4 := Lib.hid r4
    clear r4 m4
    go_wp2
    go_ret
    exact ⟨_, _, _, us, by first | rfl | simp, R4.out, HL.out, HU.out, b4⟩
/-- What the search for a pivot finds, from row A on. -/
def Found (n c A : Nat) (M : Nat → V) (q K : Nat) : Prop :=
  (K < c ∧ A ≤ q ∧ q < n ∧ M q K ≠ 0 ∧ ∀ k l, k < K → A ≤ l → l < n → M l k = 0) ∨ (K = c ∧ ∀ k l, k < c → A ≤ l → l < n → M l k = 0)
set_option maxRecDepth 100000 in
theorem findPivot (w : World) {l h : Nat} {ad : Option Addr} {n cap c A : Nat} {M : Nat → V} (s : Sls w l h ad n cap (mk n c M)) (hA : A < n) (hn : n ≤ 40) (hc : c ≤ 40) :
    Calls Tryz.prog 125 #[.slice ad n cap, .int .i64 A] w fun e w' => w' = w ∧ ∃ q K : Nat, e = .returned (.tuple #[.int .i64 q, .int .i64 K]) ∧ Found n c A M q K := by
  have hcap := s.le
  have hbig := s.big
  unfold maxLen at hbig
  have KC := MatI.cols_is w s
  rw [mk_cols M (by omega)] at KC
  have HC := Lib.hid KC
  clear KC
  go_enter Tryz.func125, Tryz.ntmps125
  go_wp2
  go_step3
  go_wp2
  go_step3
  go_wp2
  go_loopg [4, 5] c (fun g s4 s5 wx => ∃ K q : Nat, K + g = c ∧ q ≤ n ∧ s4 = .int .i64 q ∧ s5 = .int .i64 K ∧ w = wx ∧ Aside (∀ k l, k < K → A ≤ l → l < n → M l k = 0))
  case atStart => exact ⟨0, 0, by omega, by omega, rfl, rfl, rfl, fun _ _ h => by omega⟩
  case round =>
    obtain ⟨K, q, hKg, hqn, rfl, rfl, rfl, HZ⟩ := hrel
    cases gk with
    | zero =>
      obtain rfl : K = c := by omega
      go_wp2_with fail
      go_at_call 58
      refine HC.out.mono ?_
      rintro e w' ⟨rfl, rfl⟩
      go_wp2
      try rw [Exit.noGoto_ret]
      go_ret2
      exact ⟨rfl, q, K, rfl, .inr ⟨rfl, HZ.out⟩⟩
    | succ g =>
      have hKc : K < c := by omega
      go_wp2_with fail
      go_at_call 58
      refine HC.out.mono ?_
      rintro e w' ⟨rfl, rfl⟩
      go_wp2
      go_loopg [4] (n - A) (fun g2 s4 wy => ∃ q : Nat, q + g2 = n ∧ A ≤ q ∧ s4 = .int .i64 q ∧ w = wy ∧ Aside (∀ l, A ≤ l → l < q → M l K = 0))
      case atStart => exact ⟨A, by omega, Nat.le_refl _, rfl, rfl, fun _ _ h => by omega⟩
      case round =>
        obtain ⟨q, hqg, hAq, rfl, rfl, HY⟩ := hrel
        cases gk with
        | zero =>
          obtain rfl : q = n := by omega
          have HZ2 : Aside (∀ k l, k < K + 1 → A ≤ l → l < q → M l k = 0) := fun k l hk h1 h2 => by
            rcases Nat.lt_or_eq_of_le (Nat.le_of_lt_succ hk) with h3 | rfl
            · exact HZ.out k l h3 h1 h2
            · exact HY.out l h1 h2
          go_wp2
          go_roundg g
          case measure => omega
          case rel => exact ⟨K + 1, q, by omega, Nat.le_refl _, rfl, by go_num, rfl, HZ2⟩
        | succ g2 =>
          have hq1 : q < n := by omega
          obtain ⟨a, ad3, n3, cap3, xs, rfl, hx, hcl⟩ := s.at_ hq1
          obtain rfl : vec c (M q) = xs := Option.some.inj ((mk_get M hq1).symm.trans hx.get)
          have hn3 : n3 = c := by rw [← hx.sl.len, vec_len]
          subst hn3
          obtain ⟨a3, x, rfl, hx3, hc3⟩ := hx.sl.at_ (j := K) hKc
          obtain rfl : em (M q K) = x := Option.some.inj ((vec_get (M q) hKc).symm.trans hx3.get)
          have hle3 := hx.sl.le
          have hbg3 := hx.sl.big
          unfold maxLen at hbg3
          by_cases hz : M q K = 0
          · have hz2 : em (M q K) = 0 := by rw [hz]; rfl
            rw [hz2] at hc3
            have HY2 : Aside (∀ l, A ≤ l → l < q + 1 → M l K = 0) := fun l h1 h2 => by
              rcases Nat.lt_or_eq_of_le (Nat.le_of_lt_succ h2) with h3 | rfl
              · exact HY.out l h1 h3
              · exact hz
            clear hx hx3 hz hz2
            go_wp2
            go_roundg g2
            case measure => omega
            case rel => exact ⟨q + 1, by omega, by omega, by go_num, rfl, HY2⟩
          · have hz2 : (em (M q K) == 0) = false := by simp; exact fun e => hz (em_inj e)
            have hz3 : (em (M q K) != 0) = true := by simp; exact fun e => hz (em_inj e)
            have HN := Lib.hid hz
            clear hx hx3 hz
            go_wp2
            try rw [Exit.noGoto_ret]
            go_ret2
            exact ⟨rfl, q, K, rfl, .inl ⟨hKc, hAq, hq1, HN.out, HZ.out⟩⟩
end Go.Proofs.YtefcfeikooknmaaGreat.ElimI
namespace Go.Proofs.YtefcfeikooknmaaGreat.ElimI
open Go.ChangeShapes Go.WideShapes Go.ChangeAt Go.RowKit
open Go.Proofs.YtefcfeikooknmaaGreat.Drawn Go.Proofs.YtefcfeikooknmaaGreat.Seq Go.Proofs.YtefcfeikooknmaaGreat.Help Go.Proofs.YtefcfeikooknmaaGreat.Field Go.Proofs.YtefcfeikooknmaaGreat.FieldW Go.Proofs.YtefcfeikooknmaaGreat.Vec Go.Proofs.YtefcfeikooknmaaGreat.VecOps Go.Proofs.YtefcfeikooknmaaGreat.Mat Go.Proofs.YtefcfeikooknmaaGreat.MatW Go.Proofs.YtefcfeikooknmaaGreat.MatOps Go.Proofs.YtefcfeikooknmaaGreat.MatP Go.Proofs.YtefcfeikooknmaaGreat.Lin Go.Proofs.YtefcfeikooknmaaGreat.Rref Go.Proofs.YtefcfeikooknmaaGreat.RedW

theorem sub0_em (x : F) : Field.sub 0 (em x) = em (0 - x) := by
  have := em_sub 0 x
  rw [em_0] at this
  rw [this, show Field.sub 0 (em x) = _ from sub_el (by decide) (em_el x)]
theorem own_more {own : Nat → Prop} {A I : Nat} (h : own A) (e : I = A) (j : Nat) : (own j ∨ j < I + 1) ↔ (own j ∨ j < I) := by
  refine ⟨fun h1 => h1.elim .inl fun h2 => ?_, fun h1 => h1.imp id fun h2 => by omega⟩
  by_cases h3 : j = A
  · exact .inl (h3 ▸ h)
  · exact .inr (by omega)
set_option maxRecDepth 100000 in
set_option maxHeartbeats 1600000 in
theorem clearM (w : World) {l g n cap c A K q : Nat} {us : List Value} {M : Nat → V} {own : Nat → Prop} (r : Mix w l w.heap.size 3 61 g n cap us (mk n c (RedW.part M A q K 0)) own) (ho : own A) (hA : A < n) (hK : K < c) (hc : c ≤ 40) :
    Calls Tryz.prog 95 #[.slice (some ⟨g, 0, none⟩) n cap, .int .i64 A, .int .i64 K] w fun e w' => e = .returned (.tuple #[]) ∧ (∃ us', Mix w' l w'.heap.size 3 61 g n cap us' (mk n c (cleared invF M A q K)) (fun _ => True)) ∧ Mv w w' g (g + 1) := by
  have hcap := r.out.le
  have hbig := r.out.big
  unfold maxLen at hbig
  have HO := Lib.hid ho
  have hr0 : Mix w l w.heap.size 3 61 g n cap us (mk n c (RedW.part M A q K 0)) (fun j => own j ∨ j < 0) := r.own_congr fun j _ => ⟨fun h => h.elim id fun h => by omega, .inl⟩
  have HR0 := Lib.hid hr0
  clear hr0 r ho
  go_enter Tryz.func95, Tryz.ntmps95
  go_wp2
  go_loopw [10] (fun i w2 => ∃ (I : Nat) (us2 : List Value), I ≤ n ∧ i = .int .i64 I ∧ Mix w2 l w2.heap.size 3 61 g n cap us2 (mk n c (RedW.part M A q K I)) (fun j => own j ∨ j < I) ∧ Mv w w2 g (g + 1)) (fun i _ => n - (intOf i).toNat)
  case atStart => exact ⟨0, _, Nat.zero_le _, rfl, HR0.out, Mv.refl _ _ _⟩
  case round =>
    obtain ⟨I, us2, hI, rfl, hr2, hb2⟩ := hrel
    have zb2 := hb2.size
    by_cases hIn : I < n
    case neg =>
      obtain rfl : I = n := by omega
      rw [mk_congr (g := cleared invF M A q K) fun i j hi _ => by rw [part_all hi]] at hr2
      have HR2 := Lib.hid (hr2.own_congr (own' := fun _ => True) fun j hj => ⟨fun _ => .inr hj, fun _ => trivial⟩)
      clear hr2
      go_wp2
      go_returns
      exact ⟨rfl, ⟨us2, HR2.out⟩, hb2⟩
    obtain ⟨adI, nI, capI, xI, huI, hxI, sI, hcI, hfI⟩ := hr2.at_ hIn
    obtain rfl : vec c (RedW.part M A q K I I) = xI := Option.some.inj ((mk_get _ hIn).symm.trans hxI)
    have hnI : nI = c := by rw [← sI.len, vec_len]
    subst hnI
    by_cases hIA : I = A
    · subst hIA
      have HM := Lib.hid (mk_congr (r := n) (c := nI) (fun i j _ _ => by rw [part_same (.inl rfl)] : ∀ i j, i < n → j < nI → RedW.part M I q K (I + 1) i j = RedW.part M I q K I i j))
      have HR2 := Lib.hid (hr2.own_congr fun j _ => own_more HO.out rfl j)
      clear hxI sI hr2
      go_wp2
      go_roundw
      case rel => exact ⟨I + 1, us2, by omega, by go_num, HM.out ▸ HR2.out, hb2⟩
      case measure => simp [intOf]; omega
    have hIA2 : ((I : Int) != (A : Int)) = true := by simp; omega
    have hIA3 : ((I : Int) == (A : Int)) = false := by simp; omega
    obtain ⟨aI, xk2, e2, hxk2, hck2⟩ := sI.at_ (j := K) (by omega)
    obtain rfl : em (RedW.part M A q K I I K) = xk2 := Option.some.inj ((vec_get _ (by omega)).symm.trans hxk2.get)
    subst e2
    rw [part_own hIA] at *
    have hle4 := sI.le
    have hbg4 := sI.big
    unfold maxLen at hbg4
    obtain ⟨adP, nP, capP, xP, huP, hxP, sP, hcP, hfP⟩ := hr2.at_ hA
    obtain rfl : vec nI (RedW.part M A q K I A) = xP := Option.some.inj ((mk_get _ hA).symm.trans hxP)
    rw [part_piv] at *
    have hS := VecI.adds wr.drew (sI.drewN 1) (by omega) (sP.drewN 1) (by have h7 : nP = nI := sP.len.symm.trans (vec_len _ _); omega) (em (0 - swapped M A q I K))
    rw [adds_vec _ _ _ hc] at hS
    have HS := Lib.hid hS
    have hrD : Mix wr.drew l wr.heap.size 3 61 g n cap us2 (mk n nI (RedW.part M A q K I)) (fun j => own j ∨ j < I) := hr2.drewN 1
    have hbD : Mv w wr.drew g (g + 1) := hb2.drew
    have hgp2 := hr2.gpos (by omega)
    have HRD := Lib.hid hrD
    have HBD := Lib.hid hbD
    have c1 : wr.drew.cell? ⟨g, I, none⟩ = some (.slice (some aI) nI capI) := hcI
    have c2 : wr.drew.cell? ⟨g, A, none⟩ = some (.slice adP nP capP) := hcP
    have c3 : wr.drew.cell? (aI.add K) = some (.int .i64 (em (swapped M A q I K))) := hck2
    have sub_is := fun w x y => impl_sub w x y
    clear hS hrD hbD hr2 sI sP hxI hxP hxk2 HR0 hb2
    go_wp2
    refine wp_region_last (S := (fun w' => w'.cell? ⟨g, I, none⟩ = some (.slice (some aI) nI capI) ∧ w'.cell? ⟨g, A, none⟩ = some (.slice adP nP capP) ∧ w'.cell? (aI.add K) = some (.int .i64 (em (swapped M A q I K))))) 14 (by kernel_rfl) (by kernel_rfl) rfl ?_
    have HH := Lib.hid (And.intro c1 (And.intro c2 c3))
    refine wpAnyH_take (i := 0) (oi := ⟨some 18, _, _, _, _, _⟩) (v := ?_) rfl (by kernel_rfl) (by kernel_rfl) (by kernel_rfl) (fun _ _ _ h => h) (Or.inl ⟨by rfl, ?_⟩) HH.out ?_
    rotate_left
    · intro wS hSw
      try dsimp only at hSw
      go_simp
      all_goals (with_reducible rfl)
    simp only [Act.put, List.setIfInBounds_toArray, List.set_cons_zero, List.set_cons_succ]
    refine wpAnyH_take (i := 1) (oi := ⟨some 19, _, _, _, _, _⟩) (v := ?_) rfl (by kernel_rfl) (by kernel_rfl) (by kernel_rfl) (fun _ _ _ h => h) (Or.inl ⟨by rfl, ?_⟩) HH.out ?_
    rotate_left
    · intro wS hSw
      try dsimp only at hSw
      go_simp
      all_goals (with_reducible rfl)
    simp only [Act.put, List.setIfInBounds_toArray, List.set_cons_zero, List.set_cons_succ]
    refine wpAnyH_take (i := 2) (oi := ⟨some 20, _, _, _, _, _⟩) (v := ?_) rfl (by kernel_rfl) (by kernel_rfl) (by kernel_rfl) (fun _ _ _ h => h) (Or.inl ⟨by rfl, ?_⟩) HH.out ?_
    rotate_left
    · intro wS hSw
      try dsimp only at hSw
      go_simp
      all_goals (with_reducible rfl)
    simp only [Act.put, List.setIfInBounds_toArray, List.set_cons_zero, List.set_cons_succ]
    refine wpAnyH_take (i := 3) (oi := ⟨some 21, _, _, _, _, _⟩) (v := ?_) rfl (by kernel_rfl) (by kernel_rfl) (by kernel_rfl) (fun _ _ _ h => h) (Or.inl ⟨by rfl, ?_⟩) HH.out ?_
    rotate_left
    · intro wS hSw
      try dsimp only at hSw
      go_simp
      all_goals (with_reducible rfl)
    simp only [Act.put, List.setIfInBounds_toArray, List.set_cons_zero, List.set_cons_succ]
    refine wpAnyH_take (i := 4) (oi := ⟨some 22, _, _, _, _, _⟩) (v := ?_) rfl (by kernel_rfl) (by kernel_rfl) (by kernel_rfl) (fun _ _ _ h => h) (Or.inl ⟨by rfl, ?_⟩) HH.out ?_
    rotate_left
    · intro wS hSw
      try dsimp only at hSw
      go_simp
      all_goals (with_reducible rfl)
    simp only [Act.put, List.setIfInBounds_toArray, List.set_cons_zero, List.set_cons_succ]
    refine wpAnyH_take (i := 5) (oi := ⟨some 23, _, _, _, _, _⟩) (v := ?_) rfl (by kernel_rfl) (by kernel_rfl) (by kernel_rfl) (fun _ _ _ h => h) (Or.inl ⟨by rfl, ?_⟩) HH.out ?_
    rotate_left
    · intro wS hSw
      try dsimp only at hSw
      go_simp
      all_goals (with_reducible rfl)
    simp only [Act.put, List.setIfInBounds_toArray, List.set_cons_zero, List.set_cons_succ]
    refine wpAnyH_take (i := 6) (oi := ⟨some 24, _, _, _, _, _⟩) (v := ?_) rfl (by kernel_rfl) (by kernel_rfl) (by kernel_rfl) (fun _ _ _ h => h) (Or.inl ⟨by rfl, ?_⟩) HH.out ?_
    rotate_left
    · intro wS hSw
      try dsimp only at hSw
      go_simp
      all_goals (with_reducible rfl)
    simp only [Act.put, List.setIfInBounds_toArray, List.set_cons_zero, List.set_cons_succ]
    refine wpAnyH_take (i := 7) (oi := ⟨some 25, _, _, _, _, _⟩) (v := ?_) rfl (by kernel_rfl) (by kernel_rfl) (by kernel_rfl) (fun _ _ _ h => h) (Or.inl ⟨by rfl, ?_⟩) HH.out ?_
    rotate_left
    · intro wS hSw
      try dsimp only at hSw
      go_simp
      all_goals (with_reducible rfl)
    simp only [Act.put, List.setIfInBounds_toArray, List.set_cons_zero, List.set_cons_succ]
    refine wpAnyH_take (i := 8) (oi := ⟨some 26, _, _, _, _, _⟩) (v := ?_) rfl (by kernel_rfl) (by kernel_rfl) (by kernel_rfl) (fun _ _ _ h => h) (Or.inl ⟨by rfl, ?_⟩) HH.out ?_
    rotate_left
    · intro wS hSw
      try dsimp only at hSw
      go_simp
      all_goals (with_reducible rfl)
    simp only [Act.put, List.setIfInBounds_toArray, List.set_cons_zero, List.set_cons_succ]
    refine wpAnyH_take (i := 9) (oi := ⟨some 27, _, _, _, _, _⟩) (v := ?_) rfl (by kernel_rfl) (by kernel_rfl) (by kernel_rfl) (fun _ _ _ h => h) (Or.inl ⟨by rfl, ?_⟩) HH.out ?_
    rotate_left
    · intro wS hSw
      try dsimp only at hSw
      go_simp
      all_goals (with_reducible rfl)
    simp only [Act.put, List.setIfInBounds_toArray, List.set_cons_zero, List.set_cons_succ]
    refine wpAnyH_take (i := 10) (oi := ⟨some 28, _, _, _, _, _⟩) (v := ?_) rfl (by kernel_rfl) (by kernel_rfl) (by kernel_rfl) (fun _ _ _ h => h) (Or.inl ⟨by rfl, ?_⟩) HH.out ?_
    rotate_left
    · intro wS hSw
      try dsimp only at hSw
      go_simp
      all_goals (with_reducible rfl)
    simp only [Act.put, List.setIfInBounds_toArray, List.set_cons_zero, List.set_cons_succ]
    refine wpAnyH_ready (rs := [11]) (by kernel_rfl) (by simp) ?_
    refine AllReadyH.cons (o := ⟨some 29, _, _, _, _, _⟩) rfl (fun Kq hKq => ?_) AllReadyH.nil
    go_simp
    refine (sub_is _ _ _).mono ?_
    rintro e w' ⟨rfl, rfl⟩
    refine hKq.out _ _ HH.out (fun _ => ?_)
    clear hKq Kq
    try simp only [Act.put, List.setIfInBounds_toArray, List.set_cons_zero, List.set_cons_succ]
    rw [sub0_em]
    refine wpAnyH_ready (rs := [12]) (by kernel_rfl) (by simp) ?_
    refine AllReadyH.cons (o := ⟨some 30, _, _, _, _, _⟩) rfl (fun Kq hKq => ?_) AllReadyH.nil
    go_simp
    refine (HS.out).mono ?_
    rintro e w6 ⟨ad6, n6, cap6, rfl, r6, b6⟩
    have hR6 := HRD.out.below b6 (.inr (Nat.le_refl _))
    obtain ⟨u6, _, _, hf6⟩ := hR6.out.there hIn
    have d1 := (b6.cell (World.block_lt_of_cell? _ _ c1)).trans c1
    have d2 := (b6.cell (World.block_lt_of_cell? _ _ c2)).trans c2
    have d3 := (b6.cell (World.block_lt_of_cell? _ _ c3)).trans c3
    have HH6 := Lib.hid (And.intro d1 (And.intro d2 d3))
    refine hKq.out _ _ HH6.out (fun _ => ?_)
    clear hKq Kq
    try simp only [Act.put, List.setIfInBounds_toArray, List.set_cons_zero, List.set_cons_succ]
    clear c1 c2 c3 d2 d3
    refine wpAnyH_take (i := 13) (oi := ⟨some 31, _, _, _, _, _⟩) (v := ?_) rfl (by kernel_rfl) (by kernel_rfl) (by kernel_rfl) (fun _ _ _ h => h) (Or.inl ⟨by rfl, ?_⟩) HH6.out ?_
    rotate_left
    · intro wS hSw
      try dsimp only at hSw
      go_simp
      all_goals (with_reducible rfl)
    simp only [Act.put, List.setIfInBounds_toArray, List.set_cons_zero, List.set_cons_succ]
    refine wpAnyH_ready (rs := [14]) (by kernel_rfl) (by simp) ?_
    refine AllReadyH.cons (o := ⟨none, .move (.const (.bool false)), _, _, _, _⟩) rfl (fun Kq hKq => ?_) AllReadyH.nil
    go_simp
    refine hKq.out _ _ HH6.out (fun _ => ?_)
    clear hKq Kq
    refine wpAnyH_done (by kernel_rfl) ?_ _
    refine ⟨_, rfl, ?_⟩
    go_simp
    have z6 : wr.heap.size ≤ w6.heap.size := b6.size
    have hl6 : n6 = nI := by rw [← r6.len, vec_len]
    subst hl6
    have hnew := fun (b : Nat) (hb : blockOf (.slice ad6 n6 cap6) = some b) => ((OwnInts.of r6).block hb).1
    have hp6 := (hR6.mono z6).put hIn ((OwnInts.of r6).lo (l' := l) (by show l ≤ wr.heap.size; omega)) (fun b hb => by have h7 : wr.heap.size ≤ b := hnew b hb; omega) (fun i v b _ hoi hv hb hb' => by
      have h7 : wr.heap.size ≤ b := hnew b hb'
      have h8 : b < wr.heap.size := (HRD.out.block hoi hv hb).2.1
      omega)
    rw [mk_set _ _ hIn] at hp6
    rw [← mk_congr (f := RedW.part M A q K (I + 1)) fun i j _ _ => by rw [part_more hIA]] at hp6
    have hb6 := (HBD.out.trans (Mv.of_below b6 (Nat.le_refl _))).setCell (p := ⟨g, I, none⟩) (Nat.le_refl _) (Nat.lt_succ_self _) (.slice ad6 n6 cap6)
    have HR6 := Lib.hid ((hp6.1.mono hp6.2.size).own_congr (own' := fun j => own j ∨ j < I + 1) fun j _ => ⟨fun h => h.elim (fun h => .inr (.inl h)) fun h => by
        by_cases e : j = I
        · exact .inl e
        · exact .inr (.inr (by omega)), fun h => h.elim (fun h => .inr (by omega)) fun h => h.imp id fun h => by omega⟩)
    have HB6' := Lib.hid hb6
    clear hp6 hb6 hR6 r6 b6 HBD HRD HS hnew
    go_wp2
    go_roundw
    case rel => exact ⟨I + 1, _, by omega, by go_num, HR6.out, HB6'.out⟩
    case measure => simp [intOf]; omega
theorem clear (w : World) {l g n cap c A K q : Nat} {us : List Value} {M : Nat → V} {own : Nat → Prop} (r : Mix w l w.heap.size 3 61 g n cap us (mk n c (RedW.part M A q K 0)) own) (ho : own A) (hA : A < n) (hK : K < c) (hc : c ≤ 40) (hl : l ≤ w.heap.size) :
    Calls Tryz.prog 95 #[.slice (some ⟨g, 0, none⟩) n cap, .int .i64 A, .int .i64 K] w fun e w' => e = .returned (.tuple #[]) ∧ (∃ us', Mix w' l w'.heap.size 3 61 g n cap us' (mk n c (cleared invF M A q K)) (fun _ => True)) ∧ Below l w w' :=
  (clearM w r ho hA hK hc).mono fun _ _ ⟨e, m, b⟩ => ⟨e, m, b.below (r.gpos (by omega)).1 hl⟩
end Go.Proofs.YtefcfeikooknmaaGreat.ElimI
namespace Go.Proofs.YtefcfeikooknmaaGreat.ElimI
open Go.ChangeShapes Go.WideShapes Go.ChangeAt Go.RowKit
open Go.Proofs.YtefcfeikooknmaaGreat.Drawn Go.Proofs.YtefcfeikooknmaaGreat.Seq Go.Proofs.YtefcfeikooknmaaGreat.Help Go.Proofs.YtefcfeikooknmaaGreat.Field Go.Proofs.YtefcfeikooknmaaGreat.FieldW Go.Proofs.YtefcfeikooknmaaGreat.Vec Go.Proofs.YtefcfeikooknmaaGreat.VecOps Go.Proofs.YtefcfeikooknmaaGreat.Mat Go.Proofs.YtefcfeikooknmaaGreat.MatW Go.Proofs.YtefcfeikooknmaaGreat.MatOps Go.Proofs.YtefcfeikooknmaaGreat.MatP Go.Proofs.YtefcfeikooknmaaGreat.Lin Go.Proofs.YtefcfeikooknmaaGreat.Rref Go.Proofs.YtefcfeikooknmaaGreat.RedW

theorem swapped_self (M : Nat → V) (A : Nat) : swapped M A A = M := by
  funext l
  unfold swapped
  split
  · rename_i h; rw [h]
  · rfl
theorem mk_swap {n c A q : Nat} (M : Nat → V) (hA : A < n) (hq : q < n) (hne : q ≠ A) : ((mk n c M).set A (vec c (M q))).set q (vec c (M A)) = mk n c (swapped M A q) := by
  rw [mk_set M (M q) hA, mk_set _ (M A) hq]
  refine mk_congr fun i j _ _ => ?_
  unfold swapped
  by_cases h1 : i = q
  · subst h1; rw [if_pos rfl, if_neg hne, if_pos rfl]
  · rw [if_neg h1, if_neg h1]
/-- What elimination has left: the first A rows are reduced, the others 0; the factor of the determinant. -/
structure Elimd (m : List (List Int)) (A : Nat) (M : Nat → V) (p : Nat → Nat) (f : F) : Prop where
  el : Elim m.length A (colsOf m) M p
  inn : ∀ l, l < m.length → Span m.length (ent m) (M l)
  out : ∀ l, l < m.length → Span m.length M (ent m l)
  det : m.length = colsOf m → Det.det m.length (ent m) = f * Det.det m.length M
/-- The state of elimination. -/
structure St (n c A : Nat) (M0 M : Nat → V) (x : F) : Prop where
  el : ∃ K p, K ≤ c ∧ Elim n A K M p
  inn : ∀ l, l < n → Span n M0 (M l)
  out : ∀ l, l < n → Span n M (M0 l)
  det : n = c → Det.det n M0 = x * Det.det n M
theorem St.start (n c : Nat) (M : Nat → V) : St n c 0 M M 1 := ⟨⟨0, fun _ => 0, Nat.zero_le _, Elim.start _ _ _⟩, span_self _ _, span_self _ _, fun _ => by grind⟩
theorem St.step {n c A q K : Nat} {M0 M : Nat → V} {x : F} (h : St n c A M0 M x) (hA : A < n) (hF : K < c ∧ A ≤ q ∧ q < n ∧ M q K ≠ 0 ∧ ∀ k l, k < K → A ≤ l → l < n → M l k = 0) : St n c (A + 1) M0 (cleared invF M A q K) ((if q = A then x else 0 - x) * M q K) := by
  obtain ⟨hK, h1, h2, h3, h4⟩ := hF
  obtain ⟨k, p, _, he⟩ := h.el
  have hj := InvP.jump he (InvP.past he h1 h2 h3) h4
  exact ⟨⟨K + 1, _, hK, hj.pivot invF invF_ok h1 h2 h3⟩, fun l hl => span_trans h.inn (cleared_in invF M K hA h2 l hl), fun l hl => span_trans (in_cleared invF invF_ok M hA h2 h3) (h.out l hl),
    fun e => InvP.factor_step (h.det e) hA h2 h3⟩
theorem St.none {n c A : Nat} {M0 M : Nat → V} {x : F} (h : St n c A M0 M x) (hz : ∀ k l, k < c → A ≤ l → l < n → M l k = 0) : ∃ p, Elim n A c M p := by
  obtain ⟨k, p, hk, he⟩ := h.el
  exact ⟨p, InvP.jump he hk hz⟩
theorem St.full {n c : Nat} {M0 M : Nat → V} {x : F} (h : St n c n M0 M x) : ∃ p, Elim n n c M p := by
  obtain ⟨k, p, hk, he⟩ := h.el
  exact ⟨p, RedW.full he hk⟩
theorem St.done {m : List (List Int)} {A : Nat} {M : Nat → V} {x : F} {p : Nat → Nat} (h : St m.length (colsOf m) A (ent m) M x) (he : Elim m.length A (colsOf m) M p) : Elimd m A M p x := ⟨he, h.inn, h.out, h.det⟩

def Elimds (m : List (List Int)) (w : World) (e : Ending) (w' : World) : Prop :=
  ∃ (ad : Option Addr) (cap A : Nat) (us : List Value) (M : Nat → V) (p : Nat → Nat) (f : F), e = .returned (.tuple #[.slice ad A cap, .int .i64 (em f)]) ∧ Net w' w.heap.size w'.heap.size 3 ad A cap us (mk A (colsOf m) M) ∧ Elimd m A M p f ∧ Below w.heap.size w w'
set_option maxRecDepth 100000 in
set_option maxHeartbeats 1600000 in
theorem eliminate (w : World) {l h : Nat} {ad : Option Addr} {n cap : Nat} {m : List (List Int)} (s : Sls w l h ad n cap m) (hm : isMat m = true) :
    Calls Tryz.prog 102 #[.slice ad n cap] w (Elimds m w) := by
  have hL := s.len
  have hn40 := (isMat_iff.1 hm).2
  have hc40 := colsOf_le hm
  rw [hL] at hn40
  have HC := Lib.hid (clone w (s.lt (B := w.heap.size) (Nat.le_refl _)) (by omega))
  have HM := Lib.hid (mk_ent hm)
  have HD := Lib.hid (fun (A : Nat) (M : Nat → V) (x : F) (p : Nat → Nat) => St.done (m := m) (A := A) (M := M) (x := x) (p := p))
  unfold Elimds
  rw [hL] at HM HD
  obtain ⟨c, hc⟩ : ∃ c, colsOf m = c := ⟨_, rfl⟩
  rw [hc] at HM HD hc40 ⊢
  generalize hM0 : ent m = M0 at *
  clear hc hM0 hm s
  go_enter Tryz.func102, Tryz.ntmps102
  go_wp2_with fail
  go_at_call 124
  refine HC.out.mono ?_
  rintro e w1 ⟨ad1, n1, cap1, us, rfl, r1, hL1, hU1, b1⟩
  obtain rfl : n = n1 := hL.symm.trans hL1
  have z1 := b1.size
  clear HC hL1
  rcases Nat.eq_zero_or_pos n with hn0 | hn0
  · subst hn0
    have HN := Lib.hid (Net.nil w1 w.heap.size w1.heap.size 3 ad1 cap1 r1.big r1.sl.nil)
    have HD0 := Lib.hid (HD.out 0 M0 1 (fun _ => 0) (St.start 0 c M0) (RedW.full (Elim.start _ _ _) (Nat.zero_le _)))
    have hbg := r1.big
    unfold maxLen at hbg
    clear HM HD r1 hU1
    go_wp2
    go_loopw [5, 14] (fun f t wr => f = .int .i64 (em 1) ∧ t = .int .i64 (0 : Nat) ∧ w1 = wr) (fun _ _ _ => 0)
    case atStart => exact ⟨rfl, rfl, rfl⟩
    case round =>
      obtain ⟨rfl, rfl, rfl⟩ := hrel
      go_wp2
      go_ret2
      exact ⟨_, _, 0, [], M0, fun _ => 0, 1, rfl, HN.out, HD0.out, b1⟩
  obtain ⟨g, rfl, _⟩ := r1.pos hn0
  have hr1 : Mix w1 w.heap.size w1.heap.size 3 61 g n cap1 us (mk n c M0) (fun _ => 0 < 0) := by
    rw [HM.out]
    refine ⟨r1, hL, fun j u xs o => absurd o (Nat.lt_irrefl 0), fun j u xs _ hu hx => ?_, fun i j u v b _ o => absurd o (Nat.lt_irrefl 0), fun j u b o => absurd o (Nat.lt_irrefl 0)⟩
    obtain ⟨ad', n', cap', rfl, s'⟩ := hU1 j u xs hu hx
    exact ⟨ad', n', cap', rfl, (s'.below b1 (.inr (Nat.le_refl _))).mono (Nat.zero_le _) (Nat.le_refl _)⟩
  have HR1 := Lib.hid hr1
  have hcap := r1.le
  have hbig := r1.big
  unfold maxLen at hbig
  clear HM hr1 r1 hU1 hL
  go_wp2
  go_loopw [5, 14] (fun f t wr => ∃ (A : Nat) (x : F) (M : Nat → V) (vs : List Value), A ≤ n ∧ f = .int .i64 (em x) ∧ t = .int .i64 A ∧ Mix wr w.heap.size wr.heap.size 3 61 g n cap1 vs (mk n c M) (fun _ => 0 < A) ∧ Hid (St n c A M0 M x) ∧ Below w.heap.size w wr) (fun _ t _ => n - (intOf t).toNat)
  case atStart => exact ⟨0, 1, M0, us, Nat.zero_le _, rfl, rfl, HR1.out, St.start _ _ _, b1⟩
  case round =>
    obtain ⟨A, x, M, vs, hA, rfl, rfl, hr, HE, hb⟩ := hrel
    have zb := hb.size
    clear HR1
    by_cases hAn : A = n
    · subst hAn
      obtain ⟨p, hp⟩ := HE.out.full
      have HN := Lib.hid (hr.net fun _ _ => hn0)
      have HD0 := Lib.hid (HD.out A M x p HE.out hp)
      clear hr HE HD hp
      go_wp2
      go_ret2
      exact ⟨_, _, A, vs, M, p, x, rfl, HN.out, HD0.out, hb⟩
    have hA1 : A < n := by omega
    have HF := Lib.hid (findPivot wr hr.sls hA1 hn40 hc40)
    have HCC := MatI.cols_is wr hr.sls
    rw [mk_cols M hn0] at HCC
    have HCC := Lib.hid HCC
    go_wp2_with fail
    go_at_call 125
    refine HF.out.mono ?_
    rintro e w' ⟨rfl, q, K, rfl, hF⟩
    rcases hF with hF | ⟨rfl, hz⟩
    case inr =>
      obtain ⟨p, hp⟩ := HE.out.none hz
      have HN : Hid (∃ vs', Net w' w.heap.size w'.heap.size 3 (some ⟨g, 0, none⟩) A A vs' (mk A K M)) := by
        rcases Nat.eq_zero_or_pos A with h0 | h0
        · subst h0
          exact ⟨[], Net.nil _ _ _ _ _ _ (Nat.zero_le _) (fun h => by cases h)⟩
        · have := (hr.net fun _ _ => h0).take hA (Nat.le_refl _) (by omega) (fun h => by cases h)
          rw [mk_take M hA] at this
          exact ⟨_, this⟩
      have HD0 := Lib.hid (HD.out A M x p HE.out hp)
      clear hr HE HD HF hp hz
      go_wp2_with fail
      go_at_call 58
      refine HCC.out.mono ?_
      rintro e w2 ⟨rfl, rfl⟩
      go_wp2
      go_ret2
      obtain ⟨vs', HN⟩ := HN.out
      exact ⟨_, _, A, vs', M, p, x, rfl, HN, HD0.out, hb⟩
    have hKc : K < c := hF.1
    have hqn : q < n := hF.2.2.1
    have HS := Lib.hid (HE.out.step hA1 hF)
    have HNZ := Lib.hid hF.2.2.2.1
    have hKc2 : ((K : Int) == (c : Int)) = false := by simp; omega
    clear hF HF HE
    go_wp2_with fail
    go_at_call 58
    refine HCC.out.mono ?_
    rintro e w2 ⟨rfl, rfl⟩
    clear HCC
    obtain ⟨M1, hM1⟩ : ∃ M1, M1 = swapped M A q := ⟨_, rfl⟩
    obtain ⟨x1, hx1⟩ : ∃ x1, x1 = if q = A then x else 0 - x := ⟨_, rfl⟩
    have hMA : M1 A = M q := by rw [hM1, swapped_a]
    have hMK : M1 A K ≠ 0 := by rw [hMA]; exact HNZ.out
    have hS2 := HS.out
    rw [← hx1, ← hMA] at hS2
    have HS2 := Lib.hid hS2
    have HMK := Lib.hid hMK
    clear hS2 hMK HS HNZ
    by_cases hqA : q = A
    case' pos =>
      have hqA2 : ((q : Int) != (A : Int)) = false := by simp; omega
      have hqA3 : ((q : Int) == (A : Int)) = true := by simp; omega
      have hr1 : Mix w' w.heap.size w'.heap.size 3 61 g n cap1 vs (mk n c M1) (fun _ => 0 < A) := by
        rw [hM1, hqA, swapped_self]; exact hr
      rw [if_pos hqA] at hx1
      subst hx1
      obtain ⟨W, hW⟩ : ∃ W, W = w' := ⟨_, rfl⟩
      obtain ⟨vs1, hvs⟩ : ∃ vs1, vs1 = vs := ⟨_, rfl⟩
      rw [← hW, ← hvs] at hr1
      rw [← hW] at hb
      have HM1 := Lib.hid hM1
      have HB1 := Lib.hid hb
      obtain ⟨adA, nA, capA, xA, huA, hxA, sA, hcA, hfA⟩ := hr1.at_ hA1
      obtain rfl : vec c (M1 A) = xA := Option.some.inj ((mk_get M1 hA1).symm.trans hxA)
      obtain ⟨aA, yA, eA, hyA, hcK⟩ := sA.at_ (j := K) (by have h7 : nA = c := sA.len.symm.trans (vec_len _ _); omega)
      obtain rfl : em (M1 A K) = yA := Option.some.inj ((vec_get (M1 A) hKc).symm.trans hyA.get)
      subst eA
      have HNA : Hid (nA = c) := sA.len.symm.trans (vec_len _ _)
      have HSA := Lib.hid sA
      have HR1 := Lib.hid hr1
      have hleA := sA.le
      have hbgA := sA.big
      have hKA : K < nA := by have := HNA.out; omega
      unfold maxLen at hbgA
      rw [← hW]
      clear hr hb hM1 hvs hW hqA hMA hxA sA hyA hr1 huA
      go_wp2_with fail
      go_at_call 126
      refine (impl_mul _ _ _).mono ?_
      rintro e w3 ⟨rfl, rfl⟩
      rw [mul_em]
    case' neg =>
      have hqA2 : ((q : Int) != (A : Int)) = true := by simp; omega
      have hqA3 : ((q : Int) == (A : Int)) = false := by simp; omega
      obtain ⟨adq, nq, capq, xq, huq, hxq, sq, hcq, hfq⟩ := hr.at_ hqn
      obtain rfl : vec c (M q) = xq := Option.some.inj ((mk_get M hqn).symm.trans hxq)
      obtain ⟨adA0, nA0, capA0, xA0, huA0, hxA0, sA0, hcA0, hfA0⟩ := hr.at_ hA1
      obtain rfl : vec c (M A) = xA0 := Option.some.inj ((mk_get M hA1).symm.trans hxA0)
      have hsw := hr.swap hA1 hqn (Ne.symm hqA) huA0 huq hxA0 hxq (fun _ _ => Iff.rfl)
      rw [mk_swap M hA1 hqn hqA, ← hM1] at hsw
      have hr1 := (hsw.1.mono hsw.2.size).drewN 1
      have hb1 := (hb.trans (hsw.2.below (Nat.le_refl _) zb)).drew
      rw [if_neg hqA] at hx1
      have HX1 := Lib.hid hx1
      have HM1 := Lib.hid hM1
      have HR := Lib.hid (And.intro hr1 hb1)
      clear hr hb hM1 hx1 hMA hxq sq hxA0 sA0 huq huA0 hsw hr1 hb1
      go_wp2
      go_region
      obtain ⟨W, hW⟩ : ∃ W, W = ((w'.setCell ⟨g, A, none⟩ (.slice adq nq capq)).setCell ⟨g, q, none⟩ (.slice adA0 nA0 capA0)).drew := ⟨_, rfl⟩
      obtain ⟨vs1, hvs⟩ : ∃ vs1, vs1 = (vs.set A (.slice adq nq capq)).set q (.slice adA0 nA0 capA0) := ⟨_, rfl⟩
      have hR := HR.out
      rw [← hvs] at hR
      change Mix ((w'.setCell ⟨g, A, none⟩ (.slice adq nq capq)).setCell ⟨g, q, none⟩ (.slice adA0 nA0 capA0)).drew w.heap.size ((w'.setCell ⟨g, A, none⟩ (.slice adq nq capq)).setCell ⟨g, q, none⟩ (.slice adA0 nA0 capA0)).drew.heap.size 3 61 g n cap1 vs1 (mk n c M1) (fun _ => 0 < A) ∧ _ at hR
      rw [← hW] at hR ⊢
      obtain ⟨hr1, hb1⟩ := hR
      have HB1 := Lib.hid hb1
      obtain ⟨adA, nA, capA, xA, huA, hxA, sA, hcA, hfA⟩ := hr1.at_ hA1
      obtain rfl : vec c (M1 A) = xA := Option.some.inj ((mk_get M1 hA1).symm.trans hxA)
      obtain ⟨aA, yA, eA, hyA, hcK⟩ := sA.at_ (j := K) (by have h7 : nA = c := sA.len.symm.trans (vec_len _ _); omega)
      obtain rfl : em (M1 A K) = yA := Option.some.inj ((vec_get (M1 A) hKc).symm.trans hyA.get)
      subst eA
      have HNA : Hid (nA = c) := sA.len.symm.trans (vec_len _ _)
      have HSA := Lib.hid sA
      have HR1 := Lib.hid hr1
      have hleA := sA.le
      have hbgA := sA.big
      have hKA : K < nA := by have := HNA.out; omega
      unfold maxLen at hbgA
      clear HR hvs hW hqA hxA sA hyA hr1 huA hcq hfq hcA0 hfA0 hb1
      go_wp2_with fail
      go_at_call 77
      refine (impl_sub _ _ _).mono ?_
      rintro e w3 ⟨rfl, rfl⟩
      rw [sub0_em, ← HX1.out]
      go_wp2_with fail
      go_at_call 126
      refine (impl_mul _ _ _).mono ?_
      rintro e w3 ⟨rfl, rfl⟩
      rw [mul_em]
    all_goals
      have hzW := HB1.out.size
      have hinv := inv_el (em_el (M1 A K)) (fun e => HMK.out (em_inj e))
      have hin := isEl_iff.1 hinv.1
      have HSV : Hid (∀ w5, Below W.drew.heap.size W.drew w5 → Calls Tryz.prog 93 #[.slice (some aA) nA capA, .int .i64 (Field.inv (em (M1 A K)))] w5 (Gives .i64 3 (vec c fun j => M1 A j * invF (M1 A K)) w5)) := fun w5 b5 => by
        have := VecI.scale w5 ((HSA.out.drewN 1).below (w' := w5) b5 (.inl (Nat.le_refl _))) (by have := HNA.out; omega) (Field.inv (em (M1 A K))) (by omega) (by omega)
        rw [pivot_row (M1 A) hc40 HMK.out] at this
        exact this
      have hinvc := fun w0 => InvW.impl_inv w0 (em (M1 A K))
      have HIV := Lib.hid hinvc
      have c1 : W.drew.cell? ⟨g, A, none⟩ = some (.slice (some aA) nA capA) := hcA
      have HRD : Hid (Mix W.drew w.heap.size W.drew.heap.size 3 61 g n cap1 vs1 (mk n c M1) (fun _ => 0 < A)) := HR1.out.drewN 1
      have HBD : Hid (Below w.heap.size w W.drew) := HB1.out.drew
      have HZW : Hid (w.heap.size ≤ W.drew.heap.size) := hzW
      generalize Field.inv (em (M1 A K)) = iv at *
      clear hinv hin hinvc HB1 HR1 hzW
      go_wp2
      refine wp_region_last (S := (fun w' => w'.cell? ⟨g, A, none⟩ = some (.slice (some aA) nA capA))) 10 (by kernel_rfl) (by kernel_rfl) rfl ?_
      have HH := Lib.hid c1
      refine wpAnyH_take (i := 0) (oi := ⟨some 61, _, _, _, _, _⟩) (v := ?_) rfl (by kernel_rfl) (by kernel_rfl) (by kernel_rfl) (fun _ _ _ h => h) (Or.inl ⟨by rfl, ?_⟩) HH.out ?_
      rotate_left
      · intro wS hSw
        try dsimp only at hSw
        go_simp
        all_goals (with_reducible rfl)
      simp only [Act.put, List.setIfInBounds_toArray, List.set_cons_zero, List.set_cons_succ]
      refine wpAnyH_take (i := 1) (oi := ⟨some 62, _, _, _, _, _⟩) (v := ?_) rfl (by kernel_rfl) (by kernel_rfl) (by kernel_rfl) (fun _ _ _ h => h) (Or.inl ⟨by rfl, ?_⟩) HH.out ?_
      rotate_left
      · intro wS hSw
        try dsimp only at hSw
        go_simp
        all_goals (with_reducible rfl)
      simp only [Act.put, List.setIfInBounds_toArray, List.set_cons_zero, List.set_cons_succ]
      refine wpAnyH_take (i := 2) (oi := ⟨some 63, _, _, _, _, _⟩) (v := ?_) rfl (by kernel_rfl) (by kernel_rfl) (by kernel_rfl) (fun _ _ _ h => h) (Or.inl ⟨by rfl, ?_⟩) HH.out ?_
      rotate_left
      · intro wS hSw
        try dsimp only at hSw
        go_simp
        all_goals (with_reducible rfl)
      simp only [Act.put, List.setIfInBounds_toArray, List.set_cons_zero, List.set_cons_succ]
      refine wpAnyH_take (i := 3) (oi := ⟨some 64, _, _, _, _, _⟩) (v := ?_) rfl (by kernel_rfl) (by kernel_rfl) (by kernel_rfl) (fun _ _ _ h => h) (Or.inl ⟨by rfl, ?_⟩) HH.out ?_
      rotate_left
      · intro wS hSw
        try dsimp only at hSw
        go_simp
        all_goals (with_reducible rfl)
      simp only [Act.put, List.setIfInBounds_toArray, List.set_cons_zero, List.set_cons_succ]
      refine wpAnyH_take (i := 4) (oi := ⟨some 65, _, _, _, _, _⟩) (v := ?_) rfl (by kernel_rfl) (by kernel_rfl) (by kernel_rfl) (fun _ _ _ h => h) (Or.inl ⟨by rfl, ?_⟩) HH.out ?_
      rotate_left
      · intro wS hSw
        try dsimp only at hSw
        go_simp
        all_goals (with_reducible rfl)
      simp only [Act.put, List.setIfInBounds_toArray, List.set_cons_zero, List.set_cons_succ]
      refine wpAnyH_take (i := 5) (oi := ⟨some 66, _, _, _, _, _⟩) (v := ?_) rfl (by kernel_rfl) (by kernel_rfl) (by kernel_rfl) (fun _ _ _ h => h) (Or.inl ⟨by rfl, ?_⟩) HH.out ?_
      rotate_left
      · intro wS hSw
        try dsimp only at hSw
        go_simp
        all_goals (with_reducible rfl)
      simp only [Act.put, List.setIfInBounds_toArray, List.set_cons_zero, List.set_cons_succ]
      refine wpAnyH_take (i := 6) (oi := ⟨some 67, _, _, _, _, _⟩) (v := ?_) rfl (by kernel_rfl) (by kernel_rfl) (by kernel_rfl) (fun _ _ _ h => h) (Or.inl ⟨by rfl, ?_⟩) HH.out ?_
      rotate_left
      · intro wS hSw
        try dsimp only at hSw
        go_simp
        all_goals (with_reducible rfl)
      simp only [Act.put, List.setIfInBounds_toArray, List.set_cons_zero, List.set_cons_succ]
      refine wpAnyH_ready (rs := [7]) (by kernel_rfl) (by simp) ?_
      refine AllReadyH.cons (o := ⟨some 68, _, _, _, _, _⟩) rfl (fun Kq hKq => ?_) AllReadyH.nil
      go_simp
      refine (HIV.out _).mono ?_
      rintro e w5 ⟨rfl, b5⟩
      have d5 := (b5.cell (World.block_lt_of_cell? _ _ c1)).trans c1
      have HH5 := Lib.hid d5
      have hc5 := HSV.out w5 b5
      refine hKq.out _ _ HH5.out (fun _ => ?_)
      clear hKq Kq
      try simp only [Act.put, List.setIfInBounds_toArray, List.set_cons_zero, List.set_cons_succ]
      refine wpAnyH_ready (rs := [8]) (by kernel_rfl) (by simp) ?_
      refine AllReadyH.cons (o := ⟨some 69, _, _, _, _, _⟩) rfl (fun Kq hKq => ?_) AllReadyH.nil
      go_simp
      refine (hc5).mono ?_
      rintro e w6 ⟨ad6, n6, cap6, rfl, r6, b6⟩
      have hR6 := (HRD.out.below b5 (.inr (Nat.le_refl _))).below b6 (.inl b5.size)
      obtain ⟨u6, _, _, hf6⟩ := hR6.out.there hA1
      have d6 := (b6.cell (World.block_lt_of_cell? _ _ d5)).trans d5
      have HH6 := Lib.hid d6
      refine hKq.out _ _ HH6.out (fun _ => ?_)
      clear hKq Kq
      try simp only [Act.put, List.setIfInBounds_toArray, List.set_cons_zero, List.set_cons_succ]
      clear c1 d5 hc5
      refine wpAnyH_take (i := 9) (oi := ⟨some 70, _, _, _, _, _⟩) (v := ?_) rfl (by kernel_rfl) (by kernel_rfl) (by kernel_rfl) (fun _ _ _ h => h) (Or.inl ⟨by rfl, ?_⟩) HH6.out ?_
      rotate_left
      · intro wS hSw
        try dsimp only at hSw
        go_simp
        all_goals (with_reducible rfl)
      simp only [Act.put, List.setIfInBounds_toArray, List.set_cons_zero, List.set_cons_succ]
      refine wpAnyH_ready (rs := [10]) (by kernel_rfl) (by simp) ?_
      refine AllReadyH.cons (o := ⟨none, .move (.const (.bool false)), _, _, _, _⟩) rfl (fun Kq hKq => ?_) AllReadyH.nil
      go_simp
      refine hKq.out _ _ HH6.out (fun _ => ?_)
      clear hKq Kq
      refine wpAnyH_done (by kernel_rfl) ?_ _
      refine ⟨_, rfl, ?_⟩
      go_simp
      have hl6 : n6 = c := by rw [← r6.len, vec_len]
      subst hl6
      have z5 := b5.size
      have z6 := b6.size
      have hzw := HZW.out
      have hnew := fun (b : Nat) (hb : blockOf (.slice ad6 n6 cap6) = some b) => ((OwnInts.of r6).block hb).1
      have hgp := HRD.out.gpos hn0
      have hp6 := (hR6.mono (h' := w6.heap.size) (by omega)).put hA1 ((OwnInts.of r6).lo (l' := w.heap.size) (by omega)) (fun b hb => by have h7 : w5.heap.size ≤ b := hnew b hb; omega) (fun i v b _ hoi hv hb hb' => by
        have h7 : w5.heap.size ≤ b := hnew b hb'
        have h8 : b < W.drew.heap.size := (HRD.out.block hoi hv hb).2.1
        omega)
      rw [mk_set _ _ hA1] at hp6
      rw [← mk_congr (f := RedW.part M A q K 0) fun i j _ _ => by
        rw [part_0, HM1.out]
        unfold swapped
        by_cases e1 : i = A
        · rw [if_pos e1, if_pos e1, cleared_a, if_pos rfl]
        · rw [if_neg e1, if_neg e1, if_neg e1]] at hp6
      have hb6 := ((HBD.out.trans (b5.mono (by omega))).trans (b6.mono (by omega))).trans (hp6.2.below (Nat.le_refl _) (by omega))
      have hR7 := hp6.1.mono (h' := (w6.setCell ⟨g, A, none⟩ (.slice ad6 n6 cap6)).heap.size) hp6.2.size
      obtain ⟨W2, hW2⟩ : ∃ W2, W2 = w6.setCell ⟨g, A, none⟩ (.slice ad6 n6 cap6) := ⟨_, rfl⟩
      rw [← hW2] at hR7 hb6 ⊢
      have HCL := Lib.hid (clear W2 hR7 (.inl rfl) hA1 hKc hc40 hb6.size)
      have HB6 := Lib.hid hb6
      clear hp6 hb6 hR6 r6 b6 b5 HBD HRD HSV hnew hR7 hW2 HSA hf6
      go_wp2_with fail
      go_at_call 95
      refine HCL.out.mono ?_
      rintro e w7 ⟨rfl, ⟨us7, r7⟩, b7⟩
      have HR7 := Lib.hid (r7.own_congr (own' := fun _ => 0 < A + 1) fun _ _ => ⟨fun _ => trivial, fun _ => Nat.succ_pos _⟩)
      have HB7 := Lib.hid (HB6.out.trans b7)
      clear r7 b7 HCL
      go_wp2
      go_roundw
      case rel => exact ⟨A + 1, _, _, us7, hA1, rfl, by go_num, HR7.out, HS2.out, HB7.out⟩
      case measure => simp [intOf]; omega
end Go.Proofs.YtefcfeikooknmaaGreat.ElimI
namespace Go.Proofs.YtefcfeikooknmaaGreat.ElimI
open Go.ChangeShapes Go.WideShapes Go.ChangeAt Go.RowKit
open Go.Proofs.YtefcfeikooknmaaGreat.Drawn Go.Proofs.YtefcfeikooknmaaGreat.Seq Go.Proofs.YtefcfeikooknmaaGreat.Help Go.Proofs.YtefcfeikooknmaaGreat.Field Go.Proofs.YtefcfeikooknmaaGreat.FieldW Go.Proofs.YtefcfeikooknmaaGreat.Vec Go.Proofs.YtefcfeikooknmaaGreat.VecOps Go.Proofs.YtefcfeikooknmaaGreat.Mat Go.Proofs.YtefcfeikooknmaaGreat.MatW Go.Proofs.YtefcfeikooknmaaGreat.MatOps Go.Proofs.YtefcfeikooknmaaGreat.MatP Go.Proofs.YtefcfeikooknmaaGreat.Lin Go.Proofs.YtefcfeikooknmaaGreat.Rref Go.Proofs.YtefcfeikooknmaaGreat.RedW Go.Proofs.YtefcfeikooknmaaGreat.ElimOps

theorem Elimd.rref {m : List (List Int)} {A : Nat} {M : Nat → V} {p : Nat → Nat} {f : F} (h : Elimd m A M p f) (hm : isMat m = true) : MatP.mk A (colsOf m) M = Rref.rref m := elim_rref hm h.el h.inn h.out
theorem rref : RrefOp := fun w l h ad n cap m s _ _ => by
  have K1 := MatI.isMat_is w s
  cases hm : Mat.isMat m
  · rw [hm] at K1
    have HE := Lib.hid (rref_no hm)
    have K1 := Lib.hid K1
    clear hm
    rw [HE.out]
    go_enter Tryz.func72, Tryz.ntmps72
    go_wp2_with fail
    go_at_call 71
    refine K1.out.mono ?_
    rintro e w1 ⟨rfl, rfl⟩
    go_wp2
    go_ret
    exact ⟨_, _, _, _, rfl, Net.nil _ _ _ _ _ _ (Nat.zero_le _) (fun h => by cases h), (Below.refl _ _).alloc (Nat.le_refl _) _⟩
  rw [hm] at K1
  have K1 := Lib.hid K1
  have K2 := Lib.hid (eliminate w s hm)
  have HE := Lib.hid (fun (A : Nat) (M : Nat → V) (p : Nat → Nat) (f : F) (h : Elimd m A M p f) => h.rref hm)
  clear hm
  go_enter Tryz.func72, Tryz.ntmps72
  go_wp2_with fail
  go_at_call 71
  refine K1.out.mono ?_
  rintro e w1 ⟨rfl, rfl⟩
  go_wp2_with fail
  go_at_call 102
  refine K2.out.mono ?_
  rintro e w2 ⟨ad2, cap2, A, us, M, p, f, rfl, r2, hE, b2⟩
  rw [HE.out A M p f hE] at r2
  have HR := Lib.hid r2
  clear hE r2
  go_wp2
  go_ret
  exact ⟨_, _, _, us, rfl, HR.out, b2⟩
end Go.Proofs.YtefcfeikooknmaaGreat.ElimI
namespace Go.Proofs.YtefcfeikooknmaaGreat.ElimI
open Go.ChangeShapes Go.WideShapes Go.ChangeAt Go.RowKit
open Go.Proofs.YtefcfeikooknmaaGreat.Drawn Go.Proofs.YtefcfeikooknmaaGreat.Seq Go.Proofs.YtefcfeikooknmaaGreat.Help Go.Proofs.YtefcfeikooknmaaGreat.Field Go.Proofs.YtefcfeikooknmaaGreat.FieldW Go.Proofs.YtefcfeikooknmaaGreat.Vec Go.Proofs.YtefcfeikooknmaaGreat.VecOps Go.Proofs.YtefcfeikooknmaaGreat.Mat Go.Proofs.YtefcfeikooknmaaGreat.MatW Go.Proofs.YtefcfeikooknmaaGreat.MatOps Go.Proofs.YtefcfeikooknmaaGreat.MatP Go.Proofs.YtefcfeikooknmaaGreat.Lin Go.Proofs.YtefcfeikooknmaaGreat.Rref Go.Proofs.YtefcfeikooknmaaGreat.RedW Go.Proofs.YtefcfeikooknmaaGreat.ElimOps Go.Proofs.YtefcfeikooknmaaGreat.RedP

theorem lastOf_ge (m : List (List Int)) (i : Nat) : -1 ≤ lastOf m i := by
  unfold lastOf; split
  · omega
  · exact lead_ge _
theorem lastOf_s {m : List (List Int)} {i : Nat} {xs : List Int} (hx : m[i]? = some xs) : lastOf m (i + 1) = lead xs := by
  unfold lastOf
  rw [if_neg (by omega), Nat.add_sub_cancel, hx]; rfl
theorem pass_iff {m : List (List Int)} {i : Nat} {xs : List Int} {k : Nat} (hx : m[i]? = some xs) (hk : lead xs = k) : Pass m i ↔ lastOf m i < k ∧ column m k = unit m.length i := by
  unfold Pass
  rw [hx]
  show lastOf m i < lead xs ∧ column m (lead xs).toNat = _ ↔ _
  rw [hk, Int.toNat_natCast]
theorem pass_no {m : List (List Int)} {i : Nat} {xs : List Int} (hx : m[i]? = some xs) (h : lead xs ≤ lastOf m i) : ¬ Pass m i := fun hp => by
  have := hp.1
  rw [hx] at this
  have h2 : lastOf m i < lead xs := this
  omega
set_option maxRecDepth 100000 in
set_option maxHeartbeats 1600000 in
theorem isRed : IsRedOp := fun w l h ad n cap m s hn hsh => by
  have hL := Lib.hid s.len
  have K1 := MatI.isMat_is w s
  cases hm : Mat.isMat m
  · rw [hm] at K1
    have HE := Lib.hid (show RedW.isRed m = false by unfold RedW.isRed; rw [hm]; rfl)
    have K1 := Lib.hid K1
    clear hm
    rw [HE.out]
    go_enter Tryz.func57, Tryz.ntmps57
    go_wp2_with fail
    go_at_call 71
    refine K1.out.mono ?_
    rintro e w1 ⟨rfl, rfl⟩
    go_wp2
    go_ret
    exact ⟨rfl, Below.refl _ _⟩
  rw [hm] at K1
  have K1 := Lib.hid K1
  have hn40 := (isMat_iff.1 hm).2
  rw [hL.out] at hn40
  have hc40 := colsOf_le hm
  have HM := Lib.hid hm
  have hT := MatI.transpose w s hn hsh
  rw [transpose_ok hm] at hT
  have HT := Lib.hid hT
  have hcap := s.le
  have hbig := s.big
  unfold maxLen at hbig
  clear hm hT
  go_enter Tryz.func57, Tryz.ntmps57
  go_wp2_with fail
  go_at_call 71
  refine K1.out.mono ?_
  rintro e w1 ⟨rfl, rfl⟩
  go_wp2_with fail
  go_at_call 96
  refine HT.out.mono ?_
  rintro e w2 ⟨ad2, n2, cap2, us2, rfl, r2, b2⟩
  have hn2 : n2 = colsOf m := by rw [← r2.len]; simp
  have HN2 := Lib.hid hn2
  rw [← hn2] at hc40
  have h2 : Sls w2 w.heap.size w2.heap.size ad2 n2 cap2 ((List.range (colsOf m)).map (column m)) := r2.sls
  have z2 := b2.size
  have hcap2 := r2.out.le
  have hbig2 := r2.out.big
  unfold maxLen at hbig2
  have s2 := s.below b2 (.inr (Nat.le_refl _))
  clear r2 hn2
  go_wp2
  go_loopw [4, 15] (fun f i wr => ∃ (j : Nat) (L : Int), j ≤ n ∧ f = .int .i64 L ∧ i = .int .i64 j ∧ Hid (L = lastOf m j ∧ ∀ k, k < j → Pass m k) ∧ Below w2.heap.size w2 wr) (fun _ i _ => n - (intOf i).toNat)
  case atStart => exact ⟨0, -1, Nat.zero_le _, rfl, rfl, ⟨rfl, fun k hk => by omega⟩, Below.refl _ _⟩
  case round =>
    obtain ⟨j, L, hj, rfl, rfl, HJ, hb⟩ := hrel
    have zb := hb.size
    by_cases hlt : j < n
    case neg =>
      obtain rfl : j = n := by omega
      have HE := Lib.hid (isRed_yes HM.out (by rw [hL.out]; exact HJ.out.2))
      clear HJ
      go_wp2
      go_ret
      exact ⟨by rw [HE.out]; rfl, b2.trans (hb.mono z2)⟩
    obtain ⟨a, ad3, n3, cap3, xs, rfl, hx, hc⟩ := (s2.below hb (.inr (Nat.le_refl _))).at_ hlt
    have HX := Lib.hid hx.get
    have hn3 : n3 = colsOf m := by rw [← hx.sl.len]; exact ((isMat_iff.1 HM.out).1 xs (List.mem_of_getElem? hx.get)).2
    have hK := VecI.lead wr hx.sl (by rw [hn3, ← HN2.out]; omega)
    obtain ⟨P, hP⟩ : ∃ P, P = lead xs := ⟨_, rfl⟩
    have hP0 : -1 ≤ P := hP ▸ lead_ge xs
    have hP1 : P < n2 := by rw [hP, HN2.out, ← hn3, ← hx.sl.len]; exact lead_lt
    have HP := Lib.hid hP
    rw [← hP] at hK
    have HK := Lib.hid hK
    have hL1 : -1 ≤ L := by rw [HJ.out.1]; exact lastOf_ge _ _
    clear hK hP hx hn3
    go_wp2_with fail
    go_at_call 74
    refine HK.out.mono ?_
    rintro e w3 ⟨rfl, b3⟩
    have z3 := b3.size
    have hb3 := hb.trans (b3.mono zb)
    by_cases hPL : P ≤ L
    · have HE := Lib.hid (isRed_no HM.out (by rw [hL.out]; exact hlt) (pass_no HX.out (by rw [← HP.out, ← HJ.out.1]; exact hPL)))
      have hd : decide (P ≤ L) = true := decide_eq_true hPL
      have HB := Lib.hid (b2.trans (hb3.mono z2))
      clear HJ hb b3 hb3
      go_wp2
      go_quiet (fail)
      go_wp2
      go_ret
      exact ⟨by rw [HE.out]; rfl, below_drewN HB.out _⟩
    obtain ⟨k, hk⟩ : ∃ k : Nat, P = k := ⟨P.toNat, by omega⟩
    subst hk
    have hk2 : k < n2 := by omega
    obtain ⟨a2, ad4, n4, cap4, ys, rfl, hy, hc4⟩ := (h2.below hb3 (.inr (Nat.le_refl _))).at_ hk2
    obtain rfl : column m k = ys := by
      have h7 := hy.get
      rw [List.getElem?_map, List.getElem?_range (by rw [← HN2.out]; exact hk2)] at h7
      exact Option.some.inj h7
    have hn4 : n4 = n := by rw [← hy.sl.len]; unfold column; rw [List.length_map, hL.out]
    have hPi := pass_iff HX.out HP.out.symm
    rw [hL.out, ← HJ.out.1] at hPi
    have HPI := Lib.hid hPi
    have HU := Lib.hid (VecI.unit w3.drew (n : Int) (j : Int) (by omega) (by omega) (by omega) (by omega))
    have hdl : decide ((k : Int) ≤ L) = false := decide_eq_false hPL
    have hSY : Sl w3.drew w.heap.size w2.heap.size .i64 ad4 n4 cap4 (column m k) := hy.sl.drewN 1
    have hul : (unit (n : Int) (j : Int)).length ≤ 40 := units_le _ _
    have HEQ : Hid (∀ (w5 : World) (ad5 : Option Addr) (n5 cap5 l5 h5 : Nat), Below w3.drew.heap.size w3.drew w5 → Sl w5 l5 h5 .i64 ad5 n5 cap5 (unit (n : Int) (j : Int)) →
        Calls Tryz.prog 60 #[.slice ad4 n4 cap4, .slice ad5 n5 cap5] w5 (SaysB (Eq.same (column m k) (unit (n : Int) (j : Int))) w5)) := fun w5 ad5 n5 cap5 l5 h5 b5 s5 => by
      have h7 := s5.len
      exact VecI.eqV w5 (hSY.below b5 (.inr (Nat.le_refl _))) (by omega) s5 (by omega)
    have hbB : Below w.heap.size w w3.drew := (b2.trans (hb3.mono z2)).drew
    have HBB := Lib.hid hbB
    have HB3 : Hid (Below w2.heap.size w2 w3.drew) := hb3.drew
    have HZ3 : Hid (w.heap.size ≤ w3.drew.heap.size ∧ w2.heap.size ≤ w3.drew.heap.size) := ⟨hbB.size, hb3.drew.size⟩
    have c1 : w3.drew.cell? (a2.add k) = some (.slice ad4 n4 cap4) := hc4
    have hle4 := h2.le
    clear hb b3 hb3 hy hSY hbB hc4 hPi hPL hn4
    cases hsame : Eq.same (column m k) (unit (n : Int) (j : Int))
    all_goals
      rw [hsame] at HEQ
      go_wp2
      go_region_held3 (fun w' => w'.cell? (a2.add k) = some (.slice ad4 n4 cap4)) (first | exact c1 | exact c5 | exact c6)
        (first
        | (go_at_call 76; refine HU.out.mono ?_; rintro e w5 ⟨ad5, n5, cap5, rfl, r5, b5⟩; have c5 := (b5.cell (World.block_lt_of_cell? _ _ c1)).trans c1; have hq5 := HEQ.out w5 ad5 n5 cap5 _ _ b5 r5.sl)
        | (go_at_call 60; refine hq5.mono ?_; rintro e w6 ⟨rfl, b6⟩; have c6 := (b6.cell (World.block_lt_of_cell? _ _ c5)).trans c5))
      have z5 := b5.size
      have z6 := b6.size
      have hB6 : Below w2.heap.size w2 w6 := (HB3.out.trans (b5.mono HZ3.out.2)).trans (b6.mono (by have := HZ3.out.2; omega))
    · have HE := Lib.hid (isRed_no HM.out (by rw [hL.out]; exact hlt) (fun hp => by
        have h7 := (HPI.out.1 hp).2
        rw [h7] at hsame
        exact absurd hsame (by simp [Eq.same])))
      clear HJ
      go_wp2
      go_ret
      exact ⟨by rw [HE.out]; rfl, b2.trans (hB6.mono z2)⟩
    · have HJ2 : Hid ((k : Int) = lastOf m (j + 1) ∧ ∀ i, i < j + 1 → Pass m i) := ⟨by rw [lastOf_s HX.out]; exact HP.out, fun i hi => by
        by_cases e : i = j
        · subst e
          exact HPI.out.2 ⟨Int.not_le.1 (of_decide_eq_false hdl), by simpa [Eq.same] using hsame⟩
        · exact HJ.out.2 i (by omega)⟩
      clear HJ
      go_wp2
      go_roundw
      case rel => exact ⟨j + 1, (k : Int), hlt, rfl, by go_num, HJ2.out, hB6⟩
      case measure => simp [intOf]; omega
end Go.Proofs.YtefcfeikooknmaaGreat.ElimI
namespace Go.Proofs.YtefcfeikooknmaaGreat.ElimI
open Go.ChangeShapes Go.WideShapes Go.ChangeAt Go.RowKit
open Go.Proofs.YtefcfeikooknmaaGreat.Drawn Go.Proofs.YtefcfeikooknmaaGreat.Seq Go.Proofs.YtefcfeikooknmaaGreat.Help Go.Proofs.YtefcfeikooknmaaGreat.Field Go.Proofs.YtefcfeikooknmaaGreat.FieldW Go.Proofs.YtefcfeikooknmaaGreat.Vec Go.Proofs.YtefcfeikooknmaaGreat.VecOps Go.Proofs.YtefcfeikooknmaaGreat.Mat Go.Proofs.YtefcfeikooknmaaGreat.MatW Go.Proofs.YtefcfeikooknmaaGreat.MatOps Go.Proofs.YtefcfeikooknmaaGreat.MatP Go.Proofs.YtefcfeikooknmaaGreat.Lin Go.Proofs.YtefcfeikooknmaaGreat.Rref Go.Proofs.YtefcfeikooknmaaGreat.RedW Go.Proofs.YtefcfeikooknmaaGreat.ElimOps Go.Proofs.YtefcfeikooknmaaGreat.ElimP

/-- A new block of two rows. -/
theorem two (w : World) (e : TypeId) {l h l2 h2 : Nat} {ad ad2 : Option Addr} {n cap n2 cap2 : Nat} {xs ys : List Int} (s : Sl w l h .i64 ad n cap xs) (s2 : Sl w l2 h2 .i64 ad2 n2 cap2 ys) :
    Sls (w.alloc (.cells #[.slice ad n cap, .slice ad2 n2 cap2] e)) 0 (w.alloc (.cells #[.slice ad n cap, .slice ad2 n2 cap2] e)).heap.size (some ⟨w.heap.size, 0, none⟩) 2 2 [xs, ys] := by
  have hz : (w.alloc (.cells #[.slice ad n cap, .slice ad2 n2 cap2] e)).heap.size = w.heap.size + 1 := by simp
  refine ⟨rfl, Nat.le_refl _, by unfold maxLen; omega, (fun e => by cases e), fun j zs hj => ?_⟩
  match j, hj with
  | 0, hj =>
    obtain rfl : xs = zs := by simpa using hj
    exact ⟨_, _, rfl, Nat.zero_le _, by show w.heap.size < _; omega, by rw [Addr.add_lit, World.cell?_alloc_new]; rfl, ⟨_, _, _, rfl, (((s.lt (Nat.le_refl _)).mono (Nat.zero_le _) (Nat.le_refl _)).alloc _).mono (Nat.le_refl _) (by omega)⟩⟩
  | 1, hj =>
    obtain rfl : ys = zs := by simpa using hj
    exact ⟨_, _, rfl, Nat.zero_le _, by show w.heap.size < _; omega, by rw [Addr.add_lit, World.cell?_alloc_new]; rfl, ⟨_, _, _, rfl, (((s2.lt (Nat.le_refl _)).mono (Nat.zero_le _) (Nat.le_refl _)).alloc _).mono (Nat.le_refl _) (by omega)⟩⟩
  | j + 2, hj => simp at hj

/-- A slice less its first k elements. -/
def tlv (k : Nat) : Value → Value
  | .slice (some a) N C => .slice (some (a.add k)) (N - k) (C - k)
  | v => v
theorem tail_drop {w : World} {l h k : Nat} {e : TypeId} {u : Value} {xs : List Int} (s : OwnTail w l h e u xs) (hk : k < xs.length) :
    ∃ a N C, u = .slice (some a) N C ∧ k < N ∧ N ≤ C ∧ C ≤ maxLen ∧ OwnTail w l h e (tlv k u) (xs.drop k) ∧ blockOf (tlv k u) = blockOf u ∧ (tlv k u).oneCell' = true := by
  obtain ⟨ad, N, C, rfl, h1, h2, h3, ⟨rfl, rfl⟩ | ⟨hn, g, C0, pre, rfl, b1, b2, r⟩⟩ := s
  · simp at hk
  · have hl := r.len
    rw [List.length_append] at hl
    have hN : xs.length = N := by omega
    have e1 : tlv k (.slice (some ⟨g, pre.length, none⟩) N C) = .slice (some ⟨g, pre.length + k, none⟩) (N - k) (C - k) := by
      show Value.slice (some ((⟨g, pre.length, none⟩ : Addr).add k)) _ _ = _
      rw [Addr.add_lit]
    refine ⟨_, N, C, rfl, by omega, h1, h2, ?_, ?_, ?_⟩
    · rw [e1]
      have hp : (pre ++ xs.take k).length = pre.length + k := by rw [List.length_append, List.length_take]; omega
      refine ⟨_, N - k, C - k, rfl, by omega, by omega, (fun h => by cases h), .inr ⟨by omega, g, C0, pre ++ xs.take k, by rw [hp], b1, b2, ?_⟩⟩
      rw [hp, List.append_assoc, List.take_append_drop, show pre.length + k + (N - k) = pre.length + N by omega]
      exact r
    · rw [e1]
      have h6 : N ≠ 0 := by omega
      have h7 : N - k ≠ 0 := by omega
      simp [blockOf, h6, h7]
    · rw [e1]; rfl
end Go.Proofs.YtefcfeikooknmaaGreat.ElimI
namespace Go.Proofs.YtefcfeikooknmaaGreat.ElimI
open Go.ChangeShapes Go.WideShapes Go.ChangeAt Go.RowKit
open Go.Proofs.YtefcfeikooknmaaGreat.Drawn Go.Proofs.YtefcfeikooknmaaGreat.Seq Go.Proofs.YtefcfeikooknmaaGreat.Help Go.Proofs.YtefcfeikooknmaaGreat.Field Go.Proofs.YtefcfeikooknmaaGreat.FieldW Go.Proofs.YtefcfeikooknmaaGreat.Vec Go.Proofs.YtefcfeikooknmaaGreat.VecOps Go.Proofs.YtefcfeikooknmaaGreat.Mat Go.Proofs.YtefcfeikooknmaaGreat.MatW Go.Proofs.YtefcfeikooknmaaGreat.MatOps Go.Proofs.YtefcfeikooknmaaGreat.MatP Go.Proofs.YtefcfeikooknmaaGreat.Lin Go.Proofs.YtefcfeikooknmaaGreat.Rref Go.Proofs.YtefcfeikooknmaaGreat.RedW Go.Proofs.YtefcfeikooknmaaGreat.ElimOps Go.Proofs.YtefcfeikooknmaaGreat.ElimP

end Go.Proofs.YtefcfeikooknmaaGreat.ElimI
namespace Go.Proofs.YtefcfeikooknmaaGreat.ElimI
open Go.ChangeShapes Go.WideShapes Go.ChangeAt Go.RowKit
open Go.Proofs.YtefcfeikooknmaaGreat.Drawn Go.Proofs.YtefcfeikooknmaaGreat.Seq Go.Proofs.YtefcfeikooknmaaGreat.Help Go.Proofs.YtefcfeikooknmaaGreat.Field Go.Proofs.YtefcfeikooknmaaGreat.FieldW Go.Proofs.YtefcfeikooknmaaGreat.Vec Go.Proofs.YtefcfeikooknmaaGreat.VecOps Go.Proofs.YtefcfeikooknmaaGreat.Mat Go.Proofs.YtefcfeikooknmaaGreat.MatW Go.Proofs.YtefcfeikooknmaaGreat.MatOps Go.Proofs.YtefcfeikooknmaaGreat.MatP Go.Proofs.YtefcfeikooknmaaGreat.Lin Go.Proofs.YtefcfeikooknmaaGreat.Rref Go.Proofs.YtefcfeikooknmaaGreat.RedW Go.Proofs.YtefcfeikooknmaaGreat.ElimOps Go.Proofs.YtefcfeikooknmaaGreat.ElimP Go.Proofs.YtefcfeikooknmaaGreat.SolP

end Go.Proofs.YtefcfeikooknmaaGreat.ElimI
namespace Go.Proofs.YtefcfeikooknmaaGreat.ElimI
open Go.ChangeShapes Go.WideShapes Go.ChangeAt Go.RowKit
open Go.Proofs.YtefcfeikooknmaaGreat.Drawn Go.Proofs.YtefcfeikooknmaaGreat.Seq Go.Proofs.YtefcfeikooknmaaGreat.Help Go.Proofs.YtefcfeikooknmaaGreat.Field Go.Proofs.YtefcfeikooknmaaGreat.FieldW Go.Proofs.YtefcfeikooknmaaGreat.Vec Go.Proofs.YtefcfeikooknmaaGreat.VecOps Go.Proofs.YtefcfeikooknmaaGreat.Mat Go.Proofs.YtefcfeikooknmaaGreat.MatW Go.Proofs.YtefcfeikooknmaaGreat.MatOps Go.Proofs.YtefcfeikooknmaaGreat.MatP Go.Proofs.YtefcfeikooknmaaGreat.Lin Go.Proofs.YtefcfeikooknmaaGreat.Rref Go.Proofs.YtefcfeikooknmaaGreat.RedW Go.Proofs.YtefcfeikooknmaaGreat.ElimOps Go.Proofs.YtefcfeikooknmaaGreat.ElimP Go.Proofs.YtefcfeikooknmaaGreat.SolP

theorem index (w : World) {l h : Nat} {ad : Option Addr} {n cap : Nat} {xs : List Int} (x : Int) (s : Sl w l h .i64 ad n cap xs) :
    Calls Tryz.prog 105 #[.slice ad n cap, .int .i64 x] w fun e w' => ∃ r : Int, e = .returned (.int .i64 r) ∧ (0 ≤ r ↔ x ∈ xs) ∧ w = w' := by
  have hcap := s.le
  have hbig := s.big
  unfold maxLen at hbig
  have HL := Lib.hid s.len
  go_enter Tryz.func105, Tryz.ntmps105
  go_wp2
  go_loopw [8] (fun i wr => ∃ j : Nat, j ≤ n ∧ i = .int .i64 j ∧ Hid (∀ y ∈ xs.take j, y ≠ x) ∧ w = wr) (fun i _ => n - (intOf i).toNat)
  case atStart => exact ⟨0, Nat.zero_le _, rfl, fun y hy => by simp at hy, rfl⟩
  case round =>
    obtain ⟨j, hj, rfl, HA, rfl⟩ := hrel
    by_cases hlt : j < n
    · obtain ⟨a, y, rfl, hy, hc⟩ := s.at_ hlt
      have HY := Lib.hid hy.get
      clear hy
      by_cases hxy : x = y
      · have HM := Lib.hid (show (0 ≤ (j : Int) ↔ x ∈ xs) from ⟨fun _ => hxy ▸ List.mem_of_getElem? HY.out, fun _ => by omega⟩)
        have h1 : (x == y) = true := by simpa using hxy
        clear hxy HA
        go_wp2
        go_ret
        exact ⟨_, rfl, HM.out, rfl⟩
      · have h1 : (x == y) = false := by simpa using hxy
        have HA2 := Lib.hid (show ∀ z ∈ xs.take (j + 1), z ≠ x from fun z hz => by
          rw [take_more HY.out] at hz
          rcases List.mem_append.1 hz with h | h
          · exact HA.out z h
          · obtain rfl := List.mem_singleton.1 h
            exact fun e => hxy e.symm)
        clear hxy HA
        go_wp2
        go_roundw
        case rel => exact ⟨j + 1, by omega, by go_num, HA2.out, by first | rfl | trivial⟩
        case measure => simp [intOf]; omega
    · obtain rfl : j = n := by omega
      have HM := Lib.hid (show (0 ≤ (-1 : Int) ↔ x ∈ xs) from ⟨fun h => by omega, fun h => by
        have := HA.out x (by rw [List.take_of_length_le (Nat.le_of_eq HL.out)]; exact h)
        exact absurd rfl this⟩)
      clear HA
      go_wp2
      go_ret
      exact ⟨_, rfl, HM.out, rfl⟩
theorem contains (w : World) {l h : Nat} {ad : Option Addr} {n cap : Nat} {xs : List Int} (x : Int) (s : Sl w l h .i64 ad n cap xs) :
    Calls Tryz.prog 75 #[.slice ad n cap, .int .i64 x] w (IsB (decide (x ∈ xs)) w) := by
  have HI := Lib.hid (index w x s)
  go_enter Tryz.func75, Tryz.ntmps75
  go_wp2_with fail
  go_at_call 105
  refine HI.out.mono ?_
  rintro e w' ⟨r, rfl, hr, rfl⟩
  have HR := Lib.hid hr
  clear hr
  go_wp2
  go_ret
  refine ⟨?_, rfl⟩
  by_cases hx : x ∈ xs
  · have := HR.out.2 hx
    simp [hx]; omega
  · have : ¬ 0 ≤ r := fun h => hx (HR.out.1 h)
    simp [hx]; omega
set_option maxRecDepth 100000 in
theorem mapLead (w : World) {l h : Nat} {ad : Option Addr} {n cap : Nat} {m : List (List Int)} (s : Sls w l h ad n cap m) (hn : n ≤ 1048576) (hr : ∀ xs ∈ m, xs.length ≤ 40) :
    Calls Tryz.prog 73 #[.slice ad n cap, .func (.func 74) #[] #[]] w (Gives .i64 3 (m.map lead) w) := by
  have hcap := s.le
  have hyl : (m.map lead).length = n := by rw [List.length_map]; exact s.len
  have hyg : ∀ (j : Nat) (xs : List Int), m[j]? = some xs → (m.map lead)[j]? = some (lead xs) := fun j xs hj => by simp [hj]
  generalize m.map lead = ys at *
  go_enter Tryz.func73, Tryz.ntmps73
  go_wp2_with (at_make; refine wpList_mk (n := n) Tryz.underlying77 info_int (fits_i64.2 (by omega)) (by unfold maxLen; omega) (by omega) rfl _ _ rfl rfl rfl ?_; intro w1 hr1 hb1)
  rw [show List.replicate n (0 : Int) = ys.take 0 ++ (List.replicate n 0).drop 0 by simp] at hr1
  go_loopw [13] (fun i wr => ∃ (j : Nat), j ≤ n ∧ i = .int .i64 j ∧ Row wr w.heap.size wr.heap.size .i64 3 (some ⟨w.heap.size, 0, none⟩) n n (ys.take j ++ (List.replicate n 0).drop j) ∧ Below w.heap.size w wr) (fun i _ => n - (intOf i).toNat)
  case atStart => exact ⟨0, Nat.zero_le _, rfl, hr1, hb1⟩
  case round =>
    obtain ⟨j, hj, rfl, hr', hb⟩ := hrel
    by_cases hlt : j < n
    · obtain ⟨a, ad2, n2, cap2, xs, rfl, hx, hc⟩ := (s.below hb (.inr (Nat.le_refl _))).at_ hlt
      have hxl := hr xs (List.mem_of_getElem? hx.get)
      have hcall := VecI.lead wr hx.sl (by rw [← hx.sl.len]; omega)
      have hf : Fits .i64 (lead xs) := fits_i64.2 (by have h1 := RedP.lead_ge xs; have h2 := RedP.lead_lt (xs := xs); omega)
      have HO := Lib.hid (MatI.over_z (n := n) (xs := List.replicate n 0) (by simp) hyl hlt (hyg j xs hx.get))
      have HC := Lib.hid hcall
      generalize lead xs = y at *
      clear hcall hx
      go_wp2_with fail
      go_at_call 74
      refine HC.out.mono ?_
      rintro e w2 ⟨rfl, b3⟩
      have z3 := b3.size
      have zb := hb.size
      replace hr' := (hr'.below b3 (.inr (Nat.le_refl _))).mono z3
      obtain ⟨y0, _, _, hc0, hf0⟩ := hr'.there hlt
      have hput := hr'.set hlt hf
      rw [HO.out] at hput
      have HP := Lib.hid hput
      have hb2 := Lib.hid (hb.trans (b3.mono zb))
      clear hput hr' b3
      go_wp2
      go_roundw
      case rel => exact ⟨j + 1, by omega, by go_num, HP.out.1.lt, hb2.out.trans (HP.out.2.below (Nat.le_refl _) hb2.out.size)⟩
      case measure => simp [intOf]; omega
    · obtain rfl : j = n := by omega
      rw [List.take_of_length_le (Nat.le_of_eq hyl), List.drop_eq_nil_of_le (by simp), List.append_nil] at hr'
      have HG := Lib.hid hr'
      clear hr'
      go_wp2
      go_ret
      exact ⟨_, _, _, rfl, HG.out, hb⟩
/-- The pivots, as numbers. -/
def pivL (A : Nat) (p : Nat → Nat) : List Int := (List.range A).map fun i => (p i : Int)
theorem pivL_len (A : Nat) (p : Nat → Nat) : (pivL A p).length = A := by simp [pivL]
theorem pivL_get {A i : Nat} (p : Nat → Nat) (h : i < A) : (pivL A p)[i]? = some (p i : Int) := by simp [pivL, h]
theorem pivL_lead {A w : Nat} {R : Nat → V} {p : Nat → Nat} (h : Red A w R p) : (mk A w R).map lead = pivL A p := by
  unfold mk pivL
  rw [List.map_map]
  exact List.map_congr_left fun i hi => lead_red h (List.mem_range.1 hi)
theorem pivL_mem (A : Nat) (p : Nat → Nat) (k : Nat) : decide ((k : Int) ∈ pivL A p) = isPiv A p k := by
  rw [Bool.eq_iff_iff, decide_eq_true_iff, isPiv_iff]
  unfold pivL
  rw [List.mem_map]
  exact ⟨fun ⟨i, hi, e⟩ => ⟨i, List.mem_range.1 hi, by omega⟩, fun ⟨i, hi, e⟩ => ⟨i, List.mem_range.2 hi, by omega⟩⟩
/-- A null vector, filled in by the first t rows. -/
def fillN (R : Nat → V) (p : Nat → Nat) (k : Nat) : Nat → V
  | 0 => ind k
  | t + 1 => fun j => if j = p t then 0 - R t k else fillN R p k t j
theorem vec_set {c j : Nat} (f : V) (x : F) : (vec c f).set j (em x) = vec c fun l => if l = j then x else f l := by
  apply List.ext_getElem?
  intro i
  rw [List.getElem?_set]
  by_cases hi : i < c
  · rw [vec_get _ hi, vec_get _ hi]
    by_cases e : j = i
    · subst e; rw [if_pos rfl, if_pos (by rw [vec_len]; exact hi), if_pos rfl]
    · rw [if_neg e, if_neg (fun h => e h.symm)]
  · rw [List.getElem?_eq_none (by rw [vec_len]; omega), List.getElem?_eq_none (by rw [vec_len]; omega)]
    by_cases e : j = i
    · subst e; rw [if_pos rfl, if_neg (by rw [vec_len]; omega)]
    · rw [if_neg e]
theorem fillN_at {A w : Nat} {R : Nat → V} {p : Nat → Nat} (h : Red A w R p) (k : Nat) : ∀ (t : Nat), t ≤ A → ∀ i, i < t → fillN R p k t (p i) = 0 - R i k
  | 0, _, i, hi => by omega
  | t + 1, ht, i, hi => by
    show (if p i = p t then 0 - R t k else fillN R p k t (p i)) = _
    rcases Nat.lt_or_eq_of_le (Nat.le_of_lt_succ hi) with h1 | rfl
    · have := h.up i t h1 (by omega)
      rw [if_neg (by omega)]
      exact fillN_at h k t (by omega) i h1
    · rw [if_pos rfl]
theorem fillN_o {R : Nat → V} {p : Nat → Nat} (k : Nat) {j : Nat} : ∀ (t : Nat), (∀ i, i < t → p i ≠ j) → fillN R p k t j = ind k j
  | 0, _ => rfl
  | t + 1, h => by
    show (if j = p t then 0 - R t k else fillN R p k t j) = _
    rw [if_neg (fun e => h t (Nat.lt_succ_self t) e.symm)]
    exact fillN_o k t fun i hi => h i (by omega)
theorem fillN_all {A w : Nat} {R : Nat → V} {p : Nat → Nat} (h : Red A w R p) {k : Nat} (hk : isPiv A p k = false) (c : Nat) : vec c (fillN R p k A) = vec c (nul A R p k) := vec_congr fun j _ => by
  cases hj : isPiv A p j
  · rw [fillN_o k A fun i hi => isPiv_no hj hi, nul_free hj]
  · obtain ⟨i, hi, rfl⟩ := isPiv_iff.1 hj
    rw [fillN_at h k A (Nat.le_refl _) i hi, nul_piv h hk hi]

set_option maxRecDepth 100000 in
set_option maxHeartbeats 1600000 in
theorem null : NullOp := fun w l h ad n cap m s hn hsh => by
  have hb0 : Below w.heap.size w (w.alloc (.cells #[] 61)) := (Below.refl _ _).alloc (Nat.le_refl _) _
  have hz0 : (w.alloc (.cells #[] 61)).heap.size = w.heap.size + 1 := by simp
  have s1 := s.alloc (.cells #[] 61)
  have K1 := MatI.isMat_is _ s1
  cases hm : Mat.isMat m
  · rw [hm] at K1
    have HE := Lib.hid (nullOf_no hm)
    have K1 := Lib.hid K1
    clear hm s1
    rw [HE.out]
    go_enter Tryz.func42, Tryz.ntmps42
    go_wp2_with fail
    go_at_call 71
    refine K1.out.mono ?_
    rintro e w1 ⟨rfl, rfl⟩
    go_wp2
    go_ret
    exact ⟨_, _, _, _, rfl, Grid.nil _ _ _ _ _ _, hb0⟩
  rw [hm] at K1
  have K1 := Lib.hid K1
  obtain ⟨A, R, p, hd⟩ := dec_exists hm
  obtain ⟨c, hcc⟩ : ∃ c, c = colsOf m := ⟨_, rfl⟩
  have K3 := rref _ s1 hn hsh
  rw [hd.rref hm] at K3
  have hE := nullOf_is hm hd
  have hRed := hd.red
  have hA40 : A ≤ 40 := by have := hd.le; have := (isMat_iff.1 hm).2; omega
  have hc40 := colsOf_le hm
  have KC := fun (W : World) (hW : Below w.heap.size w W) => MatI.cols_is W (s.below hW (.inr (Nat.le_refl _)))
  rw [hE]
  rw [← hcc] at K3 hE hRed hc40 KC ⊢
  rw [show nulls A R p c = nullsTo A R p c c from rfl]
  have K3 := Lib.hid K3
  have KC := Lib.hid KC
  have HRed := Lib.hid hRed
  clear hm hd hcc hE hRed s1
  go_enter Tryz.func42, Tryz.ntmps42
  go_wp2_with fail
  go_at_call 71
  refine K1.out.mono ?_
  rintro e w1 ⟨rfl, rfl⟩
  go_wp2_with fail
  go_at_call 72
  refine K3.out.mono ?_
  rintro e w2 ⟨ad5, n5, cap5, us5, rfl, r5, b2⟩
  obtain rfl : n5 = A := by rw [← r5.len, mk_len]
  have hb2 := hb0.trans (b2.mono (by omega))
  have z2 : w.heap.size + 1 ≤ w2.heap.size := by have := b2.size; omega
  have hX2 := (r5.sls.lt (Nat.le_refl w2.heap.size))
  have K5 := mapLead w2 hX2 (by omega) (fun xs hx => by
    obtain ⟨i, _, rfl⟩ := List.mem_map.1 hx
    rw [vec_len]; exact hc40)
  rw [pivL_lead HRed.out] at K5
  have K5 := Lib.hid K5
  have HX2 := Lib.hid hX2
  clear r5 b2 hb0 hz0 K1 K3 hX2
  go_wp2_with fail
  go_at_call 73
  refine K5.out.mono ?_
  rintro e w3 ⟨ad6, n6, cap6, rfl, r6, b3⟩
  obtain rfl : n5 = n6 := by rw [← r6.len, pivL_len]
  have z3 := b3.size
  have hb3 := hb2.trans (b3.mono (by omega))
  have HX := Lib.hid ((HX2.out.below b3 (.inr (Nat.le_refl _))).lt (Nat.le_refl w3.heap.size))
  have HP4 := Lib.hid r6.sl
  clear r6 b3 hb2 K5 HX2
  go_wp2_with fail
  go_at_call 58
  refine (KC.out _ hb3).mono ?_
  rintro e w' ⟨rfl, rfl⟩
  go_wp2
  go_loopw [3, 21] (fun o k wr => ∃ (K N : Nat) (ad' : Option Addr) (cap' : Nat) (us : List Value), K ≤ c ∧ k = .int .i64 K ∧ o = .slice ad' N cap' ∧ (∀ g, ad' = some ⟨g, 0, none⟩ → g < wr.heap.size) ∧
    Grid wr w3.heap.size wr.heap.size 3 61 ad' N cap' us (nullsTo n5 R p c K) ∧ Below w3.heap.size w3 wr) (fun _ k _ => c - (intOf k).toNat)
  case atStart => exact ⟨0, 0, _, 0, [], Nat.zero_le _, rfl, rfl, (fun g hg => by obtain rfl := (Addr.mk.inj (Option.some.inj hg)).1; omega), Grid.nil _ _ _ _ _ _, Below.refl _ _⟩
  case round =>
    obtain ⟨K, N, ad', cap', us, hK, rfl, rfl, had, hr, hb⟩ := hrel
    have zb := hb.size
    by_cases hlt2 : K < c
    case neg =>
      obtain rfl : K = c := by omega
      have HG := Lib.hid (hr.lo (l' := w.heap.size) (by omega))
      have HB := Lib.hid (hb3.trans (hb.mono (by omega)))
      clear hr hb
      go_wp2
      go_ret
      exact ⟨_, _, _, _, rfl, HG.out, HB.out⟩
    have hN : N ≤ 40 := by rw [← hr.len]; have := nullsTo_le n5 R p c K; omega
    have KK := contains wr (K : Int) (HP4.out.below hb (.inr (Nat.le_refl _)))
    rw [pivL_mem] at KK
    cases hpv : isPiv n5 p K
    case true =>
      rw [hpv] at KK
      have KK := Lib.hid KK
      have HN := Lib.hid (nullsTo_piv (R := R) (c := c) hpv)
      clear hpv
      go_wp2_with fail
      go_at_call 75
      refine KK.out.mono ?_
      rintro e w' ⟨rfl, rfl⟩
      go_wp2
      go_roundw
      case rel => exact ⟨K + 1, N, _, _, us, by omega, by go_num, rfl, had, HN.out ▸ hr, hb⟩
      case measure => simp [intOf]; omega
    rw [hpv] at KK
    have KK := Lib.hid KK
    have HN := Lib.hid (nullsTo_free (R := R) (c := c) hpv)
    have HFA := Lib.hid (fillN_all HRed.out hpv c)
    have KU := VecI.unit wr (c : Int) (K : Int) (by omega) (by omega) (by omega) (by omega)
    rw [unit_vec hc40 hlt2] at KU
    have KU : Hid (Calls Tryz.prog 76 #[.int .i64 c, .int .i64 K] wr (Gives .i64 3 (vec c (fillN R p K 0)) wr)) := KU
    have hbw := hb3.trans (hb.mono (by omega))
    clear hpv
    go_wp2_with fail
    go_at_call 75
    refine KK.out.mono ?_
    rintro e w' ⟨rfl, rfl⟩
    go_wp2_with fail
    go_at_call 58
    refine (KC.out _ hbw).mono ?_
    rintro e w' ⟨rfl, rfl⟩
    go_wp2_with fail
    go_at_call 76
    refine KU.out.mono ?_
    rintro e w6 ⟨ad7, n7, cap7, rfl, r7, b6⟩
    obtain rfl : c = n7 := by rw [← r7.len, vec_len]
    obtain ⟨g6, rfl, hg6, _⟩ := r7.pos (by omega)
    have hleX := HX.out.le
    have hbgX := HX.out.big
    have hleP := HP4.out.le
    have hbgP := HP4.out.big
    unfold maxLen at hbgX hbgP
    have hle7 := r7.le
    have hbg7 := r7.big
    unfold maxLen at hbg7
    clear KK KU
    go_wp2
    go_loopw [33] (fun i w7 => ∃ J : Nat, J ≤ n5 ∧ i = .int .i64 J ∧ Row w7 wr.heap.size w7.heap.size .i64 3 (some ⟨g6, 0, none⟩) c cap7 (vec c (fillN R p K J)) ∧ Below wr.heap.size wr w7) (fun i _ => n5 - (intOf i).toNat)
    case atStart => exact ⟨0, Nat.zero_le _, rfl, r7, b6⟩
    case round =>
      obtain ⟨J, hJ, rfl, r8, hb7⟩ := hrel
      have z7 := hb7.size
      have hb70 := hb.trans (hb7.mono zb)
      by_cases hJn : J < n5
      case neg =>
        obtain rfl : J = n5 := by omega
        rw [HFA.out] at r8
        have hr9 := (hr.below hb7 (.inr (Nat.le_refl _))).alloc (.cells #[.slice (some ⟨g6, 0, none⟩) c cap7] 61)
        have ho9 := (OwnInts.of r8).below ((Below.refl _ _).alloc (Nat.le_refl _) (.cells #[.slice (some ⟨g6, 0, none⟩) c cap7] 61)) (.inl (Nat.le_refl _))
        clear r7 r8 b6 hr HX HP4 KC hbw
        go_wp2_with (at_builtin; refine wpList_snoc hr9.out (u := .slice (some ⟨g6, 0, none⟩) c cap7) (by rw [World.cell?_alloc_new]; rfl) rfl Tryz.underlying24 info_ints rfl (by unfold maxLen; omega) (by omega) rfl _ _ rfl rfl rfl ?_; intro g9 cap9 w9 o9 p9)
        have hA := hr9.add ho9 had o9 p9 (by simp; omega) zb
        have hb9 := (hb70.alloc hb70.size (.cells #[.slice (some ⟨g6, 0, none⟩) c cap7] 61)).trans (p9.below (Nat.le_refl _) (by simp; omega))
        have HA := Lib.hid (HN.out ▸ hA.1)
        have HA2 := hA.2
        clear hA hr9 ho9 o9 p9
        go_roundw
        case rel => exact ⟨K + 1, N + 1, _, _, _, by omega, by go_num, rfl, HA2, HA.out, hb9⟩
        case measure => simp [intOf]; omega
      have hpt := HRed.out.lt J hJn
      have hF : (vec c (fillN R p K J)).set (p J) (em (0 - R J K)) = vec c (fillN R p K (J + 1)) := vec_set _ _
      obtain ⟨aP, xP, rfl, hxP, hcP⟩ := (HP4.out.below hb70 (.inr (Nat.le_refl _))).at_ hJn
      obtain rfl : (p J : Int) = xP := Option.some.inj ((pivL_get p hJn).symm.trans hxP.get)
      obtain ⟨q, hq⟩ : ∃ q, q = p J := ⟨_, rfl⟩
      rw [← hq] at hpt hF hcP
      obtain ⟨ax, ad8, n8, cap8, x8, rfl, hx8, hc8⟩ := (HX.out.below hb70 (.inr (Nat.le_refl _))).at_ hJn
      obtain rfl : vec c (R J) = x8 := Option.some.inj ((mk_get R hJn).symm.trans hx8.get)
      obtain rfl : c = n8 := by rw [← hx8.sl.len, vec_len]
      obtain ⟨aR, y9, rfl, hy9, hcR⟩ := hx8.sl.at_ (j := K) hlt2
      obtain rfl : em (R J K) = y9 := Option.some.inj ((vec_get (R J) hlt2).symm.trans hy9.get)
      obtain ⟨u9, _, _, hcu, hfu⟩ := r8.there hpt
      have hem := em_in (0 - R J K)
      have hput := (r8.drewN 1).set (x := em (0 - R J K)) hpt (fits_i64.2 (by omega))
      rw [hF] at hput
      have HPut := Lib.hid hput
      have hle8 := hx8.sl.le
      have hbg8 := hx8.sl.big
      unfold maxLen at hbg8
      have c1 : wr.drew.cell? (aP.add J) = some (.int .i64 (q : Int)) := hcP
      have c2 : wr.drew.cell? (aR.add K) = some (.int .i64 (em (R J K))) := hcR
      have c3 : wr.drew.cell? ⟨g6, q, none⟩ = some (.int .i64 u9) := hcu
      have c4 : wr.drew.frozen? ⟨g6, q, none⟩ = false := hfu
      have HB7 := Lib.hid hb7.drew
      clear hx8 hy9 hput r7 r8 hxP hq hF hr b6 hb7 hb70
      go_wp2
      refine wp_region_last (S := (fun w' => w'.cell? (aP.add J) = some (.int .i64 (q : Int)) ∧ w'.cell? (aR.add K) = some (.int .i64 (em (R J K))))) 11 (by kernel_rfl) (by kernel_rfl) rfl ?_
      have HH := Lib.hid (And.intro c1 c2)
      refine wpAnyH_take (i := 0) (oi := ⟨some 38, _, _, _, _, _⟩) (v := ?_) rfl (by kernel_rfl) (by kernel_rfl) (by kernel_rfl) (fun _ _ _ h => h) (Or.inl ⟨by rfl, ?_⟩) HH.out ?_
      rotate_left
      · intro wS hSw
        try dsimp only at hSw
        go_simp
        all_goals (with_reducible rfl)
      simp only [Act.put, List.setIfInBounds_toArray, List.set_cons_zero, List.set_cons_succ]
      refine wpAnyH_take (i := 1) (oi := ⟨some 39, _, _, _, _, _⟩) (v := ?_) rfl (by kernel_rfl) (by kernel_rfl) (by kernel_rfl) (fun _ _ _ h => h) (Or.inl ⟨by rfl, ?_⟩) HH.out ?_
      rotate_left
      · intro wS hSw
        try dsimp only at hSw
        go_simp
        all_goals (with_reducible rfl)
      simp only [Act.put, List.setIfInBounds_toArray, List.set_cons_zero, List.set_cons_succ]
      refine wpAnyH_take (i := 2) (oi := ⟨some 40, _, _, _, _, _⟩) (v := ?_) rfl (by kernel_rfl) (by kernel_rfl) (by kernel_rfl) (fun _ _ _ h => h) (Or.inl ⟨by rfl, ?_⟩) HH.out ?_
      rotate_left
      · intro wS hSw
        try dsimp only at hSw
        go_simp
        all_goals (with_reducible rfl)
      simp only [Act.put, List.setIfInBounds_toArray, List.set_cons_zero, List.set_cons_succ]
      refine wpAnyH_take (i := 3) (oi := ⟨some 41, _, _, _, _, _⟩) (v := ?_) rfl (by kernel_rfl) (by kernel_rfl) (by kernel_rfl) (fun _ _ _ h => h) (Or.inl ⟨by rfl, ?_⟩) HH.out ?_
      rotate_left
      · intro wS hSw
        try dsimp only at hSw
        go_simp
        all_goals (with_reducible rfl)
      simp only [Act.put, List.setIfInBounds_toArray, List.set_cons_zero, List.set_cons_succ]
      refine wpAnyH_take (i := 4) (oi := ⟨some 42, _, _, _, _, _⟩) (v := ?_) rfl (by kernel_rfl) (by kernel_rfl) (by kernel_rfl) (fun _ _ _ h => h) (Or.inl ⟨by rfl, ?_⟩) HH.out ?_
      rotate_left
      · intro wS hSw
        try dsimp only at hSw
        go_simp
        all_goals (with_reducible rfl)
      simp only [Act.put, List.setIfInBounds_toArray, List.set_cons_zero, List.set_cons_succ]
      refine wpAnyH_take (i := 5) (oi := ⟨some 43, _, _, _, _, _⟩) (v := ?_) rfl (by kernel_rfl) (by kernel_rfl) (by kernel_rfl) (fun _ _ _ h => h) (Or.inl ⟨by rfl, ?_⟩) HH.out ?_
      rotate_left
      · intro wS hSw
        try dsimp only at hSw
        go_simp
        all_goals (with_reducible rfl)
      simp only [Act.put, List.setIfInBounds_toArray, List.set_cons_zero, List.set_cons_succ]
      refine wpAnyH_take (i := 6) (oi := ⟨some 44, _, _, _, _, _⟩) (v := ?_) rfl (by kernel_rfl) (by kernel_rfl) (by kernel_rfl) (fun _ _ _ h => h) (Or.inl ⟨by rfl, ?_⟩) HH.out ?_
      rotate_left
      · intro wS hSw
        try dsimp only at hSw
        go_simp
        all_goals (with_reducible rfl)
      simp only [Act.put, List.setIfInBounds_toArray, List.set_cons_zero, List.set_cons_succ]
      refine wpAnyH_take (i := 7) (oi := ⟨some 45, _, _, _, _, _⟩) (v := ?_) rfl (by kernel_rfl) (by kernel_rfl) (by kernel_rfl) (fun _ _ _ h => h) (Or.inl ⟨by rfl, ?_⟩) HH.out ?_
      rotate_left
      · intro wS hSw
        try dsimp only at hSw
        go_simp
        all_goals (with_reducible rfl)
      simp only [Act.put, List.setIfInBounds_toArray, List.set_cons_zero, List.set_cons_succ]
      refine wpAnyH_take (i := 8) (oi := ⟨some 46, _, _, _, _, _⟩) (v := ?_) rfl (by kernel_rfl) (by kernel_rfl) (by kernel_rfl) (fun _ _ _ h => h) (Or.inl ⟨by rfl, ?_⟩) HH.out ?_
      rotate_left
      · intro wS hSw
        try dsimp only at hSw
        go_simp
        all_goals (with_reducible rfl)
      simp only [Act.put, List.setIfInBounds_toArray, List.set_cons_zero, List.set_cons_succ]
      refine wpAnyH_ready (rs := [9]) (by kernel_rfl) (by simp) ?_
      refine AllReadyH.cons (o := ⟨some 47, _, _, _, _, _⟩) rfl (fun Kq hKq => ?_) AllReadyH.nil
      go_simp
      refine (impl_sub _ _ _).mono ?_
      rintro e w9 ⟨rfl, rfl⟩
      refine hKq.out _ _ HH.out (fun _ => ?_)
      clear hKq Kq
      try simp only [Act.put, List.setIfInBounds_toArray, List.set_cons_zero, List.set_cons_succ]
      rw [sub0_em]
      refine wpAnyH_take (i := 10) (oi := ⟨some 48, _, _, _, _, _⟩) (v := ?_) rfl (by kernel_rfl) (by kernel_rfl) (by kernel_rfl) (fun _ _ _ h => h) (Or.inl ⟨by rfl, ?_⟩) HH.out ?_
      rotate_left
      · intro wS hSw
        try dsimp only at hSw
        go_simp
        all_goals (with_reducible rfl)
      simp only [Act.put, List.setIfInBounds_toArray, List.set_cons_zero, List.set_cons_succ]
      refine wpAnyH_ready (rs := [11]) (by kernel_rfl) (by simp) ?_
      refine AllReadyH.cons (o := ⟨none, .move (.const (.bool false)), _, _, _, _⟩) rfl (fun Kq hKq => ?_) AllReadyH.nil
      go_simp
      refine hKq.out _ _ HH.out (fun _ => ?_)
      clear hKq Kq
      refine wpAnyH_done (by kernel_rfl) ?_ _
      refine ⟨_, rfl, ?_⟩
      go_simp
      go_wp2
      go_roundw
      case rel => exact ⟨J + 1, by omega, by go_num, HPut.out.1.lt, HB7.out.trans (HPut.out.2.below (Nat.le_refl _) HB7.out.size)⟩
      case measure => simp [intOf]; omega
end Go.Proofs.YtefcfeikooknmaaGreat.ElimI
