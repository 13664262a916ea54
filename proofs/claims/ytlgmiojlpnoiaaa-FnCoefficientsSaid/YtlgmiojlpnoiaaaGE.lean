/-
  Elimination, of the model: what its functions answer.
  Slices of slices whose rows lie apart in own memory, each anywhere within its block; the list may be a part of a longer one (Net). And rows of which only some are the call's own (Mix). No program.
  Slices of structs in memory (K cells an element): one that reads as a list of values (SlK), one that the call itself has made (RowK), and what append, make and a store do to them. No program.
  A row put into a list of rows: what append of zero values, append without room and copy do to slices of one-cell values. No program.
  Symbols and generations as lists: what the functions of chapter 10 answer. No program.
-/
import Derived.Test.YtlgmiojlpnoiaaaGD
import Derived.Test.YtlgmiojlpnoiaaaGA
import Derived.Lib.AppendZerosOnto
import Derived.Laws.IdiomCopy
import Derived.Test.YtlgmiojlpnoiaaaGB
namespace Go.Proofs.Ytlgmiojlpnoiaaa.RedW
open Go.ChangeShapes Go.WideShapes Go.ChangeAt Go.RowKit
open Go.Proofs.Ytlgmiojlpnoiaaa.Seq Go.Proofs.Ytlgmiojlpnoiaaa.Help Go.Proofs.Ytlgmiojlpnoiaaa.Field Go.Proofs.Ytlgmiojlpnoiaaa.FieldW Go.Proofs.Ytlgmiojlpnoiaaa.Vec Go.Proofs.Ytlgmiojlpnoiaaa.VecW Go.Proofs.Ytlgmiojlpnoiaaa.Mat Go.Proofs.Ytlgmiojlpnoiaaa.MatW

/-- Rows in own memory; two of them may be one slice. -/
structure Rws (w : World) (l h : Nat) (e e1 : TypeId) (g n cap : Nat) (us : List Value) (xss : List (List Int)) : Prop where
  out : RowV w l h e1 (some ⟨g, 0, none⟩) n cap us
  len : xss.length = n
  rows : ∀ (j : Nat) (u : Value) (xs : List Int), us[j]? = some u → xss[j]? = some xs → OwnInts w l h e u xs
  away : ∀ (j : Nat) (u : Value) (b : Nat), us[j]? = some u → blockOf u = some b → b ≠ g
section
variable {w w' : World} {l h l' h' g : Nat} {e e1 : TypeId} {n cap : Nat} {us : List Value} {xss : List (List Int)} {u : Value} {xs : List Int}
theorem Rws.of {ad : Option Addr} (r : Grid w l h e e1 ad n cap us xss) (hn : 0 < n) : ∃ g, ad = some ⟨g, 0, none⟩ ∧ Rws w l h e e1 g n cap us xss := by
  obtain ⟨g, rfl, _⟩ := r.out.pos hn
  exact ⟨g, rfl, r.out, r.len, r.rows, fun j u b hu hb => r.away j u b g hu hb rfl⟩
theorem Rws.below {B : Nat} (r : Rws w l h e e1 g n cap us xss) (m : Below B w w') (hB : h ≤ B ∨ w.heap.size ≤ B) : Rws w' l h e e1 g n cap us xss :=
  ⟨r.out.below m hB, r.len, fun j u xs hu hx => (r.rows j u xs hu hx).below m hB, r.away⟩
theorem Rws.mono (r : Rws w l h e e1 g n cap us xss) (h2 : h ≤ h') : Rws w l h' e e1 g n cap us xss :=
  ⟨r.out.mono h2, r.len, fun j u xs hu hx => (r.rows j u xs hu hx).mono h2, r.away⟩
theorem Rws.drewN (r : Rws w l h e e1 g n cap us xss) (k : Nat) : Rws (w.drewN k) l h e e1 g n cap us xss :=
  r.below (B := w.heap.size) (below_drewN (Below.refl _ _) k) (.inr (Nat.le_refl _))
theorem Rws.sls (r : Rws w l h e e1 g n cap us xss) : Sls w l h (some ⟨g, 0, none⟩) n cap xss := by
  refine ⟨r.len, r.out.le, r.out.big, r.out.sl.nil, fun j xs hx => ?_⟩
  have hj : j < us.length := by rw [r.out.len, ← r.len]; exact (List.getElem?_eq_some_iff.1 hx).1
  obtain ⟨a, ea, h1, h2, h3⟩ := r.out.sl.cells j us[j] (List.getElem?_eq_getElem hj)
  exact ⟨a, us[j], ea, h1, h2, h3, (r.rows j _ _ (List.getElem?_eq_getElem hj) hx).ints⟩
theorem Rws.gpos (r : Rws w l h e e1 g n cap us xss) (hn : 0 < n) : l ≤ g ∧ g < h := by
  obtain ⟨_, hge, hg1, hg2⟩ := r.out.pos hn
  obtain rfl := (Addr.mk.inj (Option.some.inj hge)).1
  exact ⟨hg1, hg2⟩
theorem Rws.block (r : Rws w l h e e1 g n cap us xss) {j b : Nat} (hu : us[j]? = some u) (hb : blockOf u = some b) : l ≤ b ∧ b < h ∧ b < w.heap.size := by
  have h1 := (List.getElem?_eq_some_iff.1 hu).1
  have h2 : j < xss.length := by rw [r.len, ← r.out.len]; exact h1
  exact (r.rows j _ _ hu (List.getElem?_eq_getElem h2)).block hb
/-- One row: the slice at hand, its numbers, its cell. -/
theorem Rws.at_ (r : Rws w l h e e1 g n cap us xss) {j : Nat} (hj : j < n) : ∃ ad' n' cap' xs, us[j]? = some (.slice ad' n' cap') ∧ xss[j]? = some xs ∧ Sl w l h .i64 ad' n' cap' xs ∧ OwnInts w l h e (.slice ad' n' cap') xs ∧ w.cell? ⟨g, j, none⟩ = some (.slice ad' n' cap') ∧ w.frozen? ⟨g, j, none⟩ = false := by
  have h2 : j < xss.length := by rw [r.len]; exact hj
  obtain ⟨u, hu, hc, hf⟩ := r.out.there hj
  have ho := r.rows j u _ hu (List.getElem?_eq_getElem h2)
  obtain ⟨ad', n', cap', rfl, s⟩ := ho.ints
  exact ⟨ad', n', cap', _, hu, List.getElem?_eq_getElem h2, s, ho, hc, hf⟩
theorem OwnInts.keep {j : Nat} {v : Value} {ys : List Int} (ho : OwnInts w l h e v ys) (hb : ∀ b, blockOf v = some b → b ≠ g) (u : Value) : OwnInts (w.setCell ⟨g, j, none⟩ u) l h e v ys := by
  have mg : Mv w (w.setCell ⟨g, j, none⟩ u) g (g + 1) := (Mv.refl w g (g + 1)).setCell (Nat.le_refl _) (Nat.lt_succ_self _) u
  refine ho.imp fun ad' n' cap' hn hv hr => ?_
  subst hv
  obtain ⟨b, rfl, b1, b2, hr'⟩ := hr.tight hn
  have hn' : n' ≠ 0 := by omega
  have hbg := hb b (by simp [blockOf, hn'])
  exact ((hr'.mv mg (by omega)).lo b1).mono (by omega)
theorem OwnInts.sl {ad : Option Addr} {n cap : Nat} (ho : OwnInts w l h e (.slice ad n cap) xs) : Sl w l h .i64 ad n cap xs := by
  obtain ⟨ad', n', cap', e1, s⟩ := ho.ints
  obtain ⟨rfl, rfl, rfl⟩ := Value.slice.inj e1
  exact s
/-- A row is put in place. -/
theorem Rws.put {j : Nat} (r : Rws w l h e e1 g n cap us xss) (hj : j < n) (hu : OwnInts w l h e u xs) (hg : ∀ b, blockOf u = some b → b ≠ g) :
    Rws (w.setCell ⟨g, j, none⟩ u) l h e e1 g n cap (us.set j u) (xss.set j xs) ∧ Mv w (w.setCell ⟨g, j, none⟩ u) l h := by
  obtain ⟨h1, h2⟩ := r.out.set hj hu.one
  obtain ⟨_, hge, hg1, hg2⟩ := r.out.pos (by omega)
  obtain rfl := (Addr.mk.inj (Option.some.inj hge)).1
  have mg : Mv w (w.setCell ⟨g, j, none⟩ u) g (g + 1) := (Mv.refl w g (g + 1)).setCell (Nat.le_refl _) (Nat.lt_succ_self _) u
  have keep : ∀ v ys, OwnInts w l h e v ys → (∀ b, blockOf v = some b → b ≠ g) → OwnInts (w.setCell ⟨g, j, none⟩ u) l h e v ys := by
    intro v ys ho hb
    refine ho.imp fun ad' n' cap' hn hv hr => ?_
    subst hv
    obtain ⟨b, rfl, b1, b2, hr'⟩ := hr.tight hn
    have hn' : n' ≠ 0 := by omega
    have hbg := hb b (by simp [blockOf, hn'])
    exact ((hr'.mv mg (by omega)).lo b1).mono (by omega)
  refine ⟨⟨h1, by rw [List.length_set]; exact r.len, ?_, ?_⟩, h2⟩
  · intro i v ys hv hy
    rw [List.getElem?_set] at hv hy
    by_cases hij : j = i
    · subst hij
      rw [if_pos rfl] at hv hy
      split at hv
      · split at hy
        · obtain rfl := Option.some.inj hv
          obtain rfl := Option.some.inj hy
          exact keep _ _ hu hg
        · cases hy
      · cases hv
    · rw [if_neg hij] at hv hy
      exact keep _ _ (r.rows i v ys hv hy) fun b hb => r.away i v b hv hb
  · intro i v b hv hb
    rw [List.getElem?_set] at hv
    by_cases h3 : j = i
    · subst h3
      rw [if_pos rfl] at hv
      split at hv
      · obtain rfl := Option.some.inj hv; exact hg b hb
      · cases hv
    · rw [if_neg h3] at hv
      exact r.away i v b hv hb
end
/-- Rows in own memory, none of them in the list's block; two of them may be one slice; the list has been built by appends. -/
structure Loose (w : World) (l h : Nat) (e e1 : TypeId) (ad : Option Addr) (n cap : Nat) (us : List Value) (xss : List (List Int)) : Prop where
  out : RowV w l h e1 ad n cap us
  len : xss.length = n
  rows : ∀ (j : Nat) (u : Value) (xs : List Int), us[j]? = some u → xss[j]? = some xs → OwnInts w l h e u xs
  away : ∀ (j : Nat) (u : Value) (b g : Nat), us[j]? = some u → blockOf u = some b → ad = some ⟨g, 0, none⟩ → b ≠ g
section
variable {w w' : World} {l h l' h' : Nat} {e e1 : TypeId} {ad : Option Addr} {n cap : Nat} {us : List Value} {xss : List (List Int)} {u : Value} {xs : List Int}
theorem Rws.loose {g : Nat} (r : Rws w l h e e1 g n cap us xss) : Loose w l h e e1 (some ⟨g, 0, none⟩) n cap us xss :=
  ⟨r.out, r.len, r.rows, fun j u b g' hu hb hg => by obtain rfl := (Addr.mk.inj (Option.some.inj hg)).1; exact r.away j u b hu hb⟩
theorem _root_.Go.Proofs.Ytlgmiojlpnoiaaa.Seq.Grid.loose (r : Grid w l h e e1 ad n cap us xss) : Loose w l h e e1 ad n cap us xss := ⟨r.out, r.len, r.rows, r.away⟩
theorem Loose.nil (w : World) (l h : Nat) (e e1 : TypeId) (ad : Option Addr) : Loose w l h e e1 ad 0 0 [] [] := (Grid.nil w l h e e1 ad).loose
theorem Loose.sls (r : Loose w l h e e1 ad n cap us xss) : Sls w l h ad n cap xss := by
  refine ⟨r.len, r.out.le, r.out.big, r.out.sl.nil, fun j xs hx => ?_⟩
  have hj : j < us.length := by rw [r.out.len, ← r.len]; exact (List.getElem?_eq_some_iff.1 hx).1
  obtain ⟨a, ea, h1, h2, h3⟩ := r.out.sl.cells j us[j] (List.getElem?_eq_getElem hj)
  exact ⟨a, us[j], ea, h1, h2, h3, (r.rows j _ _ (List.getElem?_eq_getElem hj) hx).ints⟩
theorem Loose.mv (r : Loose w l h e e1 ad n cap us xss) (m : Mv w w' l' h') (hd : h ≤ l' ∨ h' ≤ l) : Loose w' l h e e1 ad n cap us xss :=
  ⟨r.out.mv m hd, r.len, fun j u xs hu hx => (r.rows j u xs hu hx).mv m hd, r.away⟩
theorem Loose.below {B : Nat} (r : Loose w l h e e1 ad n cap us xss) (m : Below B w w') (hB : h ≤ B ∨ w.heap.size ≤ B) : Loose w' l h e e1 ad n cap us xss :=
  ⟨r.out.below m hB, r.len, fun j u xs hu hx => (r.rows j u xs hu hx).below m hB, r.away⟩
theorem Loose.mono (r : Loose w l h e e1 ad n cap us xss) (h1 : l' ≤ l) (h2 : h ≤ h') : Loose w l' h' e e1 ad n cap us xss :=
  ⟨(r.out.lo h1).mono h2, r.len, fun j u xs hu hx => ((r.rows j u xs hu hx).lo h1).mono h2, r.away⟩
theorem Loose.lt (r : Loose w l h e e1 ad n cap us xss) : Loose w l w.heap.size e e1 ad n cap us xss :=
  ⟨r.out.lt, r.len, fun j u xs hu hx => (r.rows j u xs hu hx).lt, r.away⟩
theorem Loose.block (r : Loose w l h e e1 ad n cap us xss) {j b : Nat} (hu : us[j]? = some u) (hb : blockOf u = some b) : l ≤ b ∧ b < h ∧ b < w.heap.size := by
  have h1 := (List.getElem?_eq_some_iff.1 hu).1
  have h2 : j < xss.length := by rw [r.len, ← r.out.len]; exact h1
  exact (r.rows j _ _ hu (List.getElem?_eq_getElem h2)).block hb
/-- A row more, from behind the list's memory. -/
theorem Loose.snoc {g cap' l2 h2 : Nat} (r : Loose w l h e e1 ad n cap us xss) (hu : OwnInts w l2 h2 e u xs)
    (o : RowV w' g (g + 1) e1 (some ⟨g, 0, none⟩) (n + 1) cap' (us ++ [u])) (p : Put w w' l h ad g) (hl : l ≤ w.heap.size) (hl2 : l ≤ l2) (hh : h ≤ l2) :
    Loose w' l w'.heap.size e e1 (some ⟨g, 0, none⟩) (n + 1) cap' (us ++ [u]) (xss ++ [xs]) := by
  have hus := r.out.len
  have keep : ∀ v ys, OwnInts w l w.heap.size e v ys → (∀ b, blockOf v = some b → ad = some ⟨b, 0, none⟩ → h ≤ b) → OwnInts w' l w'.heap.size e v ys := by
    intro v ys ho hb
    rcases p with ⟨rfl, q1, q2, q3, m⟩ | ⟨q, b⟩
    · refine ho.imp fun ad' n' cap' hn hv hr => ?_
      subst hv
      obtain ⟨c, rfl, b1, b2, hr'⟩ := hr.tight hn
      have hn' : n' ≠ 0 := by omega
      have hbg : c ≠ g := fun hh => by have := hb c (by simp [blockOf, hn']) (by rw [hh]); omega
      exact ((hr'.mv m (by omega)).lo b1).mono (by have := m.size; omega)
    · exact (ho.below b (.inl (Nat.le_refl _))).mono b.size
  have hgl : l ≤ g := by
    rcases p with ⟨_, q1, _⟩ | ⟨q, _⟩ <;> omega
  have part : ∀ {α : Type} (L : List α) (x : α) (j : Nat) (v : α), (L ++ [x])[j]? = some v → (j < L.length ∧ L[j]? = some v) ∨ (j = L.length ∧ v = x) := fun L x j v hv => by
    by_cases hj : j < L.length
    · rw [List.getElem?_append_left hj] at hv; exact .inl ⟨hj, hv⟩
    · rw [List.getElem?_append_right (by omega)] at hv
      rcases Nat.eq_zero_or_pos (j - L.length) with h0 | h0
      · rw [h0] at hv; exact .inr ⟨by omega, by simpa using hv.symm⟩
      · rw [List.getElem?_eq_none (by simp; omega)] at hv; cases hv
  refine ⟨((o.lo hgl).lt), by rw [List.length_append, r.len]; rfl, fun j v ys hv hy => ?_, fun j v b g' hv hb hge => ?_⟩
  · rcases part us u j v hv with ⟨hj, hv⟩ | ⟨hj, rfl⟩
    · rcases part xss xs j ys hy with ⟨_, hy⟩ | ⟨hj2, _⟩
      · exact keep v ys ((r.rows j v ys hv hy).lt) fun b hb hge => absurd rfl (r.away j v b b hv hb hge)
      · rw [r.len, ← hus] at hj2; omega
    · rcases part xss xs j ys hy with ⟨hj2, _⟩ | ⟨_, rfl⟩
      · rw [r.len, ← hus] at hj2; omega
      · exact keep v ys ((hu.lo hl2).lt) fun b hb _ => by have := (hu.block hb).1; omega
  · obtain rfl := (Addr.mk.inj (Option.some.inj hge)).1
    intro hbg
    subst hbg
    rcases part us u j v hv with ⟨hj, hv⟩ | ⟨hj, rfl⟩
    · rcases p with ⟨rfl, _⟩ | ⟨q, _⟩
      · exact r.away j v b b hv hb rfl rfl
      · have := (r.block hv hb).2.2; omega
    · rcases p with ⟨rfl, _, q2, _⟩ | ⟨q, _⟩
      · have := (hu.block hb).1; omega
      · have := (hu.block hb).2.2; omega
end
/-- New memory that reads as these rows. -/
def Reads2 (xss : List (List Int)) (w : World) (e : Ending) (w' : World) : Prop :=
  ∃ ad n cap, e = .returned (.slice ad n cap) ∧ Sls w' w.heap.size w'.heap.size ad n cap xss ∧ Below w.heap.size w w'
end Go.Proofs.Ytlgmiojlpnoiaaa.RedW
namespace Go.Proofs.Ytlgmiojlpnoiaaa.Seq
open Go.ChangeShapes Go.WideShapes Go.RowKit

/-- The value is the end of a slice of the call's own that reads as xs; or it has no elements. -/
def OwnTail (w : World) (l h : Nat) (e : TypeId) (u : Value) (xs : List Int) : Prop :=
  ∃ ad n cap, u = .slice ad n cap ∧ n ≤ cap ∧ cap ≤ maxLen ∧ (ad = none → cap = 0) ∧ ((n = 0 ∧ xs = []) ∨
    (0 < n ∧ ∃ (g C : Nat) (pre : List Int), ad = some ⟨g, pre.length, none⟩ ∧ l ≤ g ∧ g < h ∧ Row w g (g + 1) .i64 e (some ⟨g, 0, none⟩) (pre.length + n) C (pre ++ xs)))
section
variable {w w' : World} {l h l' h' : Nat} {e : TypeId} {u : Value} {xs : List Int}
theorem OwnInts.tail (s : OwnInts w l h e u xs) : OwnTail w l h e u xs := by
  obtain ⟨ad, n, cap, rfl, ⟨rfl, rfl, h1, h2⟩ | ⟨hn, r⟩⟩ := s
  · exact ⟨ad, 0, cap, rfl, Nat.zero_le _, h1, h2, .inl ⟨rfl, rfl⟩⟩
  · obtain ⟨g, rfl, b1, b2, r'⟩ := r.tight hn
    exact ⟨_, n, cap, rfl, r.le, r.big, (fun h => by cases h), .inr ⟨hn, g, cap, [], rfl, b1, b2, by simpa using r'⟩⟩
theorem OwnTail.imp (s : OwnTail w l h e u xs) (f : ∀ (g N cap : Nat) (ys : List Int), blockOf u = some g → l ≤ g → g < h → Row w g (g + 1) .i64 e (some ⟨g, 0, none⟩) N cap ys → l' ≤ g ∧ g < h' ∧ Row w' g (g + 1) .i64 e (some ⟨g, 0, none⟩) N cap ys) : OwnTail w' l' h' e u xs := by
  obtain ⟨ad, n, cap, rfl, h1, h2, h3, r⟩ := s
  refine ⟨ad, n, cap, rfl, h1, h2, h3, r.imp id fun ⟨hn, g, C, pre, e1, b1, b2, rr⟩ => ?_⟩
  subst e1
  have hn' : n ≠ 0 := by omega
  obtain ⟨c1, c2, r'⟩ := f g _ C _ (by simp [blockOf, hn']) b1 b2 rr
  exact ⟨hn, g, C, pre, rfl, c1, c2, r'⟩
theorem OwnTail.ints (s : OwnTail w l h e u xs) : IsInts w l h u xs := by
  obtain ⟨ad, n, cap, rfl, h1, h2, h3, ⟨rfl, rfl⟩ | ⟨hn, g, C, pre, rfl, b1, b2, r⟩⟩ := s
  · exact ⟨ad, 0, cap, rfl, Sl.none _ _ _ _ _ _ h2 h3⟩
  · refine ⟨_, n, cap, rfl, ?_, h1, h2, h3, fun x hx => r.fits x (List.mem_append_right _ hx), fun j x hx => ⟨_, rfl, b1, b2, ?_⟩⟩
    · have := r.len
      rw [List.length_append] at this; omega
    · have := r.cell (j := pre.length + j) (x := x) (by rw [List.getElem?_append_right (by omega), Nat.add_sub_cancel_left]; exact hx)
      rwa [Addr.add_lit]
theorem OwnTail.mv (s : OwnTail w l h e u xs) (m : Mv w w' l' h') (hd : h ≤ l' ∨ h' ≤ l) : OwnTail w' l h e u xs :=
  s.imp fun _ _ _ _ _ b1 b2 r => ⟨b1, b2, r.mv m (by omega)⟩
theorem OwnTail.below {B : Nat} (s : OwnTail w l h e u xs) (m : Below B w w') (hB : h ≤ B ∨ w.heap.size ≤ B) : OwnTail w' l h e u xs :=
  s.imp fun _ _ _ _ _ b1 b2 r => ⟨b1, b2, r.below m (hB.imp (fun h => by omega) id)⟩
theorem OwnTail.mono (s : OwnTail w l h e u xs) (h1 : l' ≤ l) (h2 : h ≤ h') : OwnTail w l' h' e u xs :=
  s.imp fun _ _ _ _ _ b1 b2 r => ⟨by omega, by omega, r⟩
theorem OwnTail.block (s : OwnTail w l h e u xs) {b : Nat} (hb : blockOf u = some b) : l ≤ b ∧ b < h ∧ b < w.heap.size := by
  obtain ⟨ad, n, cap, rfl, _, _, _, ⟨rfl, _⟩ | ⟨hn, g, C, pre, rfl, b1, b2, r⟩⟩ := s
  · cases ad <;> simp [blockOf] at hb
  · have hn' : n ≠ 0 := by omega
    obtain rfl : g = b := by simpa [blockOf, hn'] using hb
    obtain ⟨_, hg, _, hg2⟩ := r.lt.pos (by omega)
    obtain rfl := (Addr.mk.inj (Option.some.inj hg)).1
    exact ⟨b1, b2, hg2⟩
theorem OwnTail.lt (s : OwnTail w l h e u xs) : OwnTail w l w.heap.size e u xs :=
  s.imp fun _ _ _ _ hb b1 _ r => ⟨b1, (s.block hb).2.2, r⟩
end

/-- The cells of a list at an address lie in its block. -/
theorem SlV.tight {w : World} {l h : Nat} {a : Addr} {n cap : Nat} {us : List Value} (s : SlV w l h (some a) n cap us) : SlV w a.block (a.block + 1) (some a) n cap us :=
  ⟨s.len, s.le, s.big, s.nil, s.one, fun j x hx => by
    obtain ⟨a', e, _, _, h3⟩ := s.cells j x hx
    obtain rfl := Option.some.inj e
    exact ⟨a, rfl, Nat.le_refl _, Nat.lt_succ_self _, h3⟩⟩

/-- A slice of slices that the call hands out as its own: rows in blocks apart from each other and from the list. -/
structure Net (w : World) (l h : Nat) (e : TypeId) (ad : Option Addr) (n cap : Nat) (us : List Value) (xss : List (List Int)) : Prop where
  out : SlV w l h ad n cap us
  len : xss.length = n
  rows : ∀ (j : Nat) (u : Value) (xs : List Int), us[j]? = some u → xss[j]? = some xs → OwnTail w l h e u xs
  apart : ∀ (i j : Nat) (u v : Value) (b : Nat), i ≠ j → us[i]? = some u → us[j]? = some v → blockOf u = some b → blockOf v ≠ some b
  away : ∀ (j : Nat) (u : Value) (b : Nat) (a : Addr), us[j]? = some u → blockOf u = some b → ad = some a → b ≠ a.block

section
variable {w w' : World} {l h l' h' : Nat} {e e1 : TypeId} {ad : Option Addr} {n cap : Nat} {us : List Value} {xss : List (List Int)} {u : Value} {xs : List Int}
theorem Grid.net (r : Grid w l h e e1 ad n cap us xss) : Net w l h e ad n cap us xss :=
  ⟨r.out.sl, r.len, fun j u xs hu hx => (r.rows j u xs hu hx).tail, r.apart, fun j u b a hu hb ha => by
    subst ha
    have hn : 0 < n := by rw [← r.out.len]; have := (List.getElem?_eq_some_iff.1 hu).1; omega
    obtain ⟨g, e1, _, _⟩ := r.out.pos hn
    obtain rfl := Option.some.inj e1
    exact r.away j u b g hu hb rfl⟩
theorem Net.sls (r : Net w l h e ad n cap us xss) : Sls w l h ad n cap xss := by
  refine ⟨r.len, r.out.le, r.out.big, r.out.nil, fun j xs hx => ?_⟩
  have hj : j < us.length := by rw [r.out.len, ← r.len]; exact (List.getElem?_eq_some_iff.1 hx).1
  obtain ⟨a, ea, h1, h2, h3⟩ := r.out.cells j us[j] (List.getElem?_eq_getElem hj)
  exact ⟨a, us[j], ea, h1, h2, h3, (r.rows j _ _ (List.getElem?_eq_getElem hj) hx).ints⟩
theorem Net.mv (r : Net w l h e ad n cap us xss) (m : Mv w w' l' h') (hd : h ≤ l' ∨ h' ≤ l) : Net w' l h e ad n cap us xss :=
  ⟨r.out.mv m hd, r.len, fun j u xs hu hx => (r.rows j u xs hu hx).mv m hd, r.apart, r.away⟩
theorem Net.below {B : Nat} (r : Net w l h e ad n cap us xss) (m : Below B w w') (hB : h ≤ B ∨ w.heap.size ≤ B) : Net w' l h e ad n cap us xss :=
  ⟨r.out.below m hB, r.len, fun j u xs hu hx => (r.rows j u xs hu hx).below m hB, r.apart, r.away⟩
theorem Net.mono (r : Net w l h e ad n cap us xss) (h1 : l' ≤ l) (h2 : h ≤ h') : Net w l' h' e ad n cap us xss :=
  ⟨r.out.mono h1 h2, r.len, fun j u xs hu hx => (r.rows j u xs hu hx).mono h1 h2, r.apart, r.away⟩
theorem Net.lt (r : Net w l h e ad n cap us xss) : Net w l w.heap.size e ad n cap us xss :=
  ⟨r.out.lt (Nat.le_refl _), r.len, fun j u xs hu hx => (r.rows j u xs hu hx).lt, r.apart, r.away⟩
theorem Net.alloc (r : Net w l h e ad n cap us xss) (o : Obj) : Net (w.alloc o) l h e ad n cap us xss := r.mv ((Mv.refl w 0 0).alloc o) (.inr (Nat.zero_le _))
theorem Net.drewN (r : Net w l h e ad n cap us xss) (k : Nat) : Net (w.drewN k) l h e ad n cap us xss := r.mv ((Mv.refl w 0 0).drewN k) (.inr (Nat.zero_le _))
theorem Net.nil (w : World) (l h : Nat) (e : TypeId) (ad : Option Addr) (cap : Nat) (h1 : cap ≤ maxLen) (h2 : ad = none → cap = 0) : Net w l h e ad 0 cap [] [] :=
  ⟨⟨rfl, Nat.zero_le _, h1, h2, by simp, by simp⟩, rfl, by simp, by simp, by simp⟩
theorem Net.row (r : Net w l h e ad n cap us xss) {j : Nat} (hj : j < n) : ∃ u xs a, us[j]? = some u ∧ xss[j]? = some xs ∧ OwnTail w l h e u xs ∧ ad = some a ∧ w.cell? (a.add j) = some u := by
  have h1 : j < us.length := by rw [r.out.len]; exact hj
  have h2 : j < xss.length := by rw [r.len]; exact hj
  obtain ⟨a, ea, _, _, h3⟩ := r.out.cells j us[j] (List.getElem?_eq_getElem h1)
  exact ⟨us[j], xss[j], a, List.getElem?_eq_getElem h1, List.getElem?_eq_getElem h2, r.rows j _ _ (List.getElem?_eq_getElem h1) (List.getElem?_eq_getElem h2), ea, h3⟩
/-- One row's numbers have been replaced, in its own block. -/
theorem Net.redo {b j n' cap' C : Nat} {pre ys : List Int} (r : Net w l h e ad n cap us xss) (hu : us[j]? = some (.slice (some ⟨b, pre.length, none⟩) n' cap')) (hn : 0 < n') (hc : n' ≤ cap') (hm : cap' ≤ maxLen)
    (hr : Row w' b (b + 1) .i64 e (some ⟨b, 0, none⟩) (pre.length + n') C (pre ++ ys)) (m : Mv w w' b (b + 1)) (hb1 : l ≤ b) (hb2 : b < h) :
    Net w' l h e ad n cap us (xss.set j ys) ∧ Mv w w' l h := by
  have hbo : blockOf (.slice (some ⟨b, pre.length, none⟩) n' cap') = some b := by simp [blockOf]; omega
  have hj : j < us.length := (List.getElem?_eq_some_iff.1 hu).1
  refine ⟨⟨?_, by rw [List.length_set]; exact r.len, ?_, r.apart, r.away⟩, m.mono hb1 hb2⟩
  · obtain ⟨a, rfl, _, _, _⟩ := r.out.cells j _ hu
    have hne := r.away j _ b a hu hbo rfl
    have ht := r.out.tight.mv m (by omega)
    exact ⟨r.out.len, r.out.le, r.out.big, r.out.nil, r.out.one, fun i v hv => by
      obtain ⟨a', e', c1, c2, _⟩ := r.out.cells i v hv
      obtain rfl := Option.some.inj e'
      obtain ⟨a'', e'', _, _, h3⟩ := ht.cells i v hv
      obtain rfl := Option.some.inj e''
      exact ⟨a, rfl, c1, c2, h3⟩⟩
  · intro i v zs hv hz
    rw [List.getElem?_set] at hz
    by_cases h3 : j = i
    · subst h3
      rw [hu] at hv
      obtain rfl := Option.some.inj hv
      rw [if_pos rfl] at hz
      split at hz
      · obtain rfl := Option.some.inj hz
        exact ⟨_, n', cap', rfl, hc, hm, (fun h => by cases h), .inr ⟨hn, b, C, pre, rfl, hb1, hb2, hr⟩⟩
      · cases hz
    · rw [if_neg h3] at hz
      refine (r.rows i v zs hv hz).imp fun g _ _ _ hb c1 c2 hr2 => ⟨c1, c2, hr2.mv m ?_⟩
      have hne : g ≠ b := fun hh => r.apart j i _ _ b h3 hu hv hbo (by rw [hb, hh])
      omega
/-- The first of its rows. -/
theorem Net.take (r : Net w l h e ad n cap us xss) {k c : Nat} (h1 : k ≤ n) (h2 : k ≤ c) (h3 : c ≤ cap) (h4 : ad = none → c = 0) : Net w l h e ad k c (us.take k) (xss.take k) := by
  have get : ∀ {α : Type} (L : List α) (j : Nat) (u : α), (L.take k)[j]? = some u → L[j]? = some u := fun L j u hu => by
    rw [List.getElem?_take] at hu
    split at hu
    · exact hu
    · cases hu
  exact ⟨⟨by rw [List.length_take, r.out.len]; omega, h2, by have := r.out.big; omega, h4, fun u hu => r.out.one u (List.mem_of_mem_take hu), fun j u hu => r.out.cells j u (get _ _ _ hu)⟩,
    by rw [List.length_take, r.len]; omega, fun j u xs hu hx => r.rows j u xs (get _ _ _ hu) (get _ _ _ hx), fun i j u v b hij hu hv hb => r.apart i j u v b hij (get _ _ _ hu) (get _ _ _ hv) hb,
    fun j u b a hu hb ha => r.away j u b a (get _ _ _ hu) hb ha⟩
end

/-- Rows in a list of the call's own: some of them are slices of its own, apart from each other; the others lie below l. -/
structure Mix (w : World) (l h : Nat) (e e1 : TypeId) (g n cap : Nat) (us : List Value) (xss : List (List Int)) (own : Nat → Prop) : Prop where
  out : RowV w l h e1 (some ⟨g, 0, none⟩) n cap us
  len : xss.length = n
  mine : ∀ (j : Nat) (u : Value) (xs : List Int), own j → us[j]? = some u → xss[j]? = some xs → OwnInts w l h e u xs
  rest : ∀ (j : Nat) (u : Value) (xs : List Int), ¬ own j → us[j]? = some u → xss[j]? = some xs → IsInts w 0 l u xs
  apart : ∀ (i j : Nat) (u v : Value) (b : Nat), i ≠ j → own i → own j → us[i]? = some u → us[j]? = some v → blockOf u = some b → blockOf v ≠ some b
  away : ∀ (j : Nat) (u : Value) (b : Nat), own j → us[j]? = some u → blockOf u = some b → b ≠ g

section
variable {w w' : World} {l h l' h' g : Nat} {e e1 : TypeId} {n cap : Nat} {us : List Value} {xss : List (List Int)} {u : Value} {xs : List Int} {own own' : Nat → Prop}
theorem Mix.lt_n (r : Mix w l h e e1 g n cap us xss own) {j : Nat} {u : Value} (hu : us[j]? = some u) : j < n := by rw [← r.out.len]; exact (List.getElem?_eq_some_iff.1 hu).1
theorem Mix.gpos (r : Mix w l h e e1 g n cap us xss own) (hn : 0 < n) : l ≤ g ∧ g < h := by
  obtain ⟨_, hge, hg1, hg2⟩ := r.out.pos hn
  obtain rfl := (Addr.mk.inj (Option.some.inj hge)).1
  exact ⟨hg1, hg2⟩
theorem Mix.below {B : Nat} (r : Mix w l h e e1 g n cap us xss own) (m : Below B w w') (hB : h ≤ B ∨ w.heap.size ≤ B) : Mix w' l h e e1 g n cap us xss own :=
  ⟨r.out.below m hB, r.len, fun j u xs ho hu hx => (r.mine j u xs ho hu hx).below m hB, fun j u xs ho hu hx => by
    obtain ⟨ad, n', cap', rfl, s⟩ := r.rest j u xs ho hu hx
    have := r.gpos (by have := r.lt_n hu; omega)
    exact ⟨ad, n', cap', rfl, s.below m (hB.imp (fun h => by omega) id)⟩, r.apart, r.away⟩
theorem Mix.mono (r : Mix w l h e e1 g n cap us xss own) (h2 : h ≤ h') : Mix w l h' e e1 g n cap us xss own :=
  ⟨r.out.mono h2, r.len, fun j u xs ho hu hx => (r.mine j u xs ho hu hx).mono h2, r.rest, r.apart, r.away⟩
theorem Mix.drewN (r : Mix w l h e e1 g n cap us xss own) (k : Nat) : Mix (w.drewN k) l h e e1 g n cap us xss own :=
  r.below (B := w.heap.size) (below_drewN (Below.refl _ _) k) (.inr (Nat.le_refl _))
theorem Mix.lt (r : Mix w l h e e1 g n cap us xss own) : Mix w l w.heap.size e e1 g n cap us xss own :=
  ⟨r.out.lt, r.len, fun j u xs ho hu hx => (r.mine j u xs ho hu hx).lt, r.rest, r.apart, r.away⟩
theorem Mix.own_congr (r : Mix w l h e e1 g n cap us xss own) (ho : ∀ j, j < n → (own' j ↔ own j)) : Mix w l h e e1 g n cap us xss own' :=
  ⟨r.out, r.len, fun j u xs o hu hx => r.mine j u xs ((ho j (r.lt_n hu)).1 o) hu hx, fun j u xs o hu hx => r.rest j u xs (fun o' => o ((ho j (r.lt_n hu)).2 o')) hu hx,
    fun i j u v b hij oi oj hu hv hb => r.apart i j u v b hij ((ho i (r.lt_n hu)).1 oi) ((ho j (r.lt_n hv)).1 oj) hu hv hb, fun j u b o hu hb => r.away j u b ((ho j (r.lt_n hu)).1 o) hu hb⟩
/-- One row: the slice at hand, its numbers, its cell. -/
theorem Mix.at_ (r : Mix w l h e e1 g n cap us xss own) {j : Nat} (hj : j < n) : ∃ ad' n' cap' xs, us[j]? = some (.slice ad' n' cap') ∧ xss[j]? = some xs ∧ Sl w 0 h .i64 ad' n' cap' xs ∧ w.cell? ⟨g, j, none⟩ = some (.slice ad' n' cap') ∧ w.frozen? ⟨g, j, none⟩ = false := by
  have h2 : j < xss.length := by rw [r.len]; exact hj
  have hg := r.gpos (by omega)
  obtain ⟨u, hu, hc, hf⟩ := r.out.there hj
  by_cases ho : own j
  · obtain ⟨ad', n', cap', rfl, s⟩ := (r.mine j u _ ho hu (List.getElem?_eq_getElem h2)).ints
    exact ⟨ad', n', cap', _, hu, List.getElem?_eq_getElem h2, s.mono (Nat.zero_le _) (Nat.le_refl _), hc, hf⟩
  · obtain ⟨ad', n', cap', rfl, s⟩ := r.rest j u _ ho hu (List.getElem?_eq_getElem h2)
    exact ⟨ad', n', cap', _, hu, List.getElem?_eq_getElem h2, s.mono (Nat.le_refl _) (by omega), hc, hf⟩
theorem Mix.block (r : Mix w l h e e1 g n cap us xss own) {j b : Nat} (ho : own j) (hu : us[j]? = some u) (hb : blockOf u = some b) : l ≤ b ∧ b < h ∧ b < w.heap.size := by
  have h2 : j < xss.length := by rw [r.len]; exact r.lt_n hu
  exact (r.mine j _ _ ho hu (List.getElem?_eq_getElem h2)).block hb
theorem Mix.sls (r : Mix w l h e e1 g n cap us xss own) : Sls w 0 h (some ⟨g, 0, none⟩) n cap xss := by
  refine ⟨r.len, r.out.le, r.out.big, r.out.sl.nil, fun j xs hx => ?_⟩
  have hj : j < n := by rw [← r.len]; exact (List.getElem?_eq_some_iff.1 hx).1
  have hg := r.gpos (by omega)
  obtain ⟨ad', n', cap', xs', h1, h2, h3, h4, _⟩ := r.at_ hj
  obtain rfl := Option.some.inj (h2.symm.trans hx)
  exact ⟨_, _, rfl, Nat.zero_le _, hg.2, by rw [Addr.add_lit, Nat.zero_add]; exact h4, ad', n', cap', rfl, h3⟩
/-- What lies elsewhere stays where a row is put in place. -/
theorem Mix.kept (r : Mix w l h e e1 g n cap us xss own) (hn : 0 < n) {j : Nat} (u : Value) {i : Nat} {v : Value} {ys : List Int} (hv : us[i]? = some v) (hy : xss[i]? = some ys) :
    (own i → OwnInts (w.setCell ⟨g, j, none⟩ u) l h e v ys) ∧ (¬ own i → IsInts (w.setCell ⟨g, j, none⟩ u) 0 l v ys) := by
  have hg := r.gpos hn
  refine ⟨fun o => RedW.OwnInts.keep (r.mine i v ys o hv hy) (fun b hb => r.away i v b o hv hb) u, fun o => ?_⟩
  obtain ⟨ad, n', cap', rfl, s⟩ := r.rest i v ys o hv hy
  exact ⟨ad, n', cap', rfl, s.mv ((Mv.refl w g (g + 1)).setCell (Nat.le_refl _) (Nat.lt_succ_self _) u) (.inl hg.1)⟩
/-- A row of the call's own is put in place: a new one, whose block is none of the others'. -/
theorem Mix.put {j : Nat} (r : Mix w l h e e1 g n cap us xss own) (hj : j < n) (hu : OwnInts w l h e u xs) (hg : ∀ b, blockOf u = some b → b ≠ g)
    (hne : ∀ i v b, i ≠ j → own i → us[i]? = some v → blockOf v = some b → blockOf u ≠ some b) :
    Mix (w.setCell ⟨g, j, none⟩ u) l h e e1 g n cap (us.set j u) (xss.set j xs) (fun i => i = j ∨ own i) ∧ Mv w (w.setCell ⟨g, j, none⟩ u) l h := by
  obtain ⟨h1, h2⟩ := r.out.set hj hu.one
  have hn : 0 < n := by omega
  have hget : ∀ i v, (us.set j u)[i]? = some v → (i = j ∧ v = u) ∨ (i ≠ j ∧ us[i]? = some v) := fun i v hv => by
    rw [List.getElem?_set] at hv
    by_cases hij : j = i
    · rw [if_pos hij] at hv
      split at hv
      · exact .inl ⟨hij.symm, (Option.some.inj hv).symm⟩
      · cases hv
    · rw [if_neg hij] at hv; exact .inr ⟨Ne.symm hij, hv⟩
  have hgetx : ∀ i y, (xss.set j xs)[i]? = some y → i ≠ j → xss[i]? = some y := fun i y hy hij => by
    rw [List.getElem?_set, if_neg (Ne.symm hij)] at hy; exact hy
  refine ⟨⟨h1, by rw [List.length_set]; exact r.len, fun i v ys o hv hy => ?_, fun i v ys o hv hy => ?_, fun i i' v v' b hii o o' hv hv' hb => ?_, fun i v b o hv hb => ?_⟩, h2⟩
  · rcases hget i v hv with ⟨rfl, rfl⟩ | ⟨hij, hv⟩
    · rw [List.getElem?_set, if_pos rfl] at hy
      split at hy
      · obtain rfl := Option.some.inj hy
        exact RedW.OwnInts.keep hu hg _
      · cases hy
    · exact (r.kept hn u hv (hgetx i ys hy hij)).1 (o.resolve_left hij)
  · rcases hget i v hv with ⟨rfl, rfl⟩ | ⟨hij, hv⟩
    · exact absurd (.inl rfl) o
    · exact (r.kept hn u hv (hgetx i ys hy hij)).2 fun o' => o (.inr o')
  · rcases hget i v hv with ⟨rfl, rfl⟩ | ⟨hij, hv⟩
    · rcases hget i' v' hv' with ⟨rfl, rfl⟩ | ⟨hij', hv'⟩
      · exact absurd rfl hii
      · exact fun hb' => hne i' v' b hij' (o'.resolve_left hij') hv' hb' hb
    · rcases hget i' v' hv' with ⟨rfl, rfl⟩ | ⟨hij', hv'⟩
      · rcases hget i v ‹_› with ⟨e0, _⟩ | ⟨_, hv2⟩
        · exact absurd e0 hij
        · exact fun hb' => hne i v b hij (o.resolve_left hij) hv2 hb hb'
      · exact r.apart i i' v v' b hii (o.resolve_left hij) (o'.resolve_left hij') hv hv' hb
  · rcases hget i v hv with ⟨rfl, rfl⟩ | ⟨hij, hv⟩
    · exact hg b hb
    · exact r.away i v b (o.resolve_left hij) hv hb
/-- Two rows change places. -/
theorem Mix.swap {i j : Nat} {u v : Value} {xs ys : List Int} (r : Mix w l h e e1 g n cap us xss own) (hi : i < n) (hj : j < n) (hij : i ≠ j) (hu : us[i]? = some u) (hv : us[j]? = some v) (hx : xss[i]? = some xs) (hy : xss[j]? = some ys) (ho : ∀ a b, own a ↔ own b) :
    Mix ((w.setCell ⟨g, i, none⟩ v).setCell ⟨g, j, none⟩ u) l h e e1 g n cap ((us.set i v).set j u) ((xss.set i ys).set j xs) own ∧ Mv w ((w.setCell ⟨g, i, none⟩ v).setCell ⟨g, j, none⟩ u) l h := by
  have hn : 0 < n := by omega
  have u1 : u.oneCell' = true := r.out.one u (List.mem_of_getElem? hu)
  have v1 : v.oneCell' = true := r.out.one v (List.mem_of_getElem? hv)
  obtain ⟨h1, h2⟩ := r.out.set hi v1
  obtain ⟨h3, h4⟩ := h1.set hj u1
  have hul := (List.getElem?_eq_some_iff.1 hu).1
  have hvl := (List.getElem?_eq_some_iff.1 hv).1
  have hxl := (List.getElem?_eq_some_iff.1 hx).1
  have hyl := (List.getElem?_eq_some_iff.1 hy).1
  have hget : ∀ {α : Type} (L : List α) (p q : α), i < L.length → j < L.length → ∀ k x, ((L.set i q).set j p)[k]? = some x → (k = j ∧ x = p) ∨ (k = i ∧ x = q) ∨ (k ≠ i ∧ k ≠ j ∧ L[k]? = some x) := fun L p q hli hlj k x hk => by
    rw [List.getElem?_set] at hk
    by_cases hjk : j = k
    · rw [if_pos hjk, if_pos (by rw [List.length_set]; exact hlj)] at hk
      exact .inl ⟨hjk.symm, (Option.some.inj hk).symm⟩
    · rw [if_neg hjk, List.getElem?_set] at hk
      by_cases hik : i = k
      · rw [if_pos hik, if_pos hli] at hk
        exact .inr (.inl ⟨hik.symm, (Option.some.inj hk).symm⟩)
      · rw [if_neg hik] at hk
        exact .inr (.inr ⟨Ne.symm hik, Ne.symm hjk, hk⟩)
  -- where a row of the swapped list stood
  have from_ : ∀ k x y, ((us.set i v).set j u)[k]? = some x → ((xss.set i ys).set j xs)[k]? = some y → ∃ k', us[k']? = some x ∧ xss[k']? = some y ∧ (own k ↔ own k') := fun k x y hk hk2 => by
    rcases hget us u v hul hvl k x hk with ⟨rfl, rfl⟩ | ⟨rfl, rfl⟩ | ⟨a, b, hk⟩
    · rcases hget xss xs ys hxl hyl k y hk2 with ⟨_, rfl⟩ | ⟨e, _⟩ | ⟨_, e, _⟩
      · exact ⟨i, hu, hx, ho _ _⟩
      · exact absurd e.symm hij
      · exact absurd rfl e
    · rcases hget xss xs ys hxl hyl k y hk2 with ⟨e, _⟩ | ⟨_, rfl⟩ | ⟨e, _, _⟩
      · exact absurd e hij
      · exact ⟨j, hv, hy, ho _ _⟩
      · exact absurd rfl e
    · rcases hget xss xs ys hxl hyl k y hk2 with ⟨e, _⟩ | ⟨e, _⟩ | ⟨_, _, hk2⟩
      · exact absurd e b
      · exact absurd e a
      · exact ⟨k, hk, hk2, Iff.rfl⟩
  have hg := r.gpos hn
  have m2 : Mv w ((w.setCell ⟨g, i, none⟩ v).setCell ⟨g, j, none⟩ u) g (g + 1) := ((Mv.refl w g (g + 1)).setCell (Nat.le_refl _) (Nat.lt_succ_self _) v).setCell (Nat.le_refl _) (Nat.lt_succ_self _) u
  have wher : ∀ k x, ((us.set i v).set j u)[k]? = some x → ∃ k', us[k']? = some x ∧ (own k ↔ own k') ∧ (k = j → k' = i) ∧ (k = i → k' = j) ∧ (k ≠ i → k ≠ j → k' = k) := fun k x hk => by
    rcases hget us u v hul hvl k x hk with ⟨rfl, rfl⟩ | ⟨rfl, rfl⟩ | ⟨a, b, hk⟩
    · exact ⟨i, hu, ho _ _, fun _ => rfl, fun e => absurd e.symm hij, fun _ e => absurd rfl e⟩
    · exact ⟨j, hv, ho _ _, fun e => absurd e hij, fun _ => rfl, fun e => absurd rfl e⟩
    · exact ⟨k, hk, Iff.rfl, fun e => absurd e b, fun e => absurd e a, fun _ _ => rfl⟩
  refine ⟨⟨h3, by rw [List.length_set, List.length_set]; exact r.len, fun k x zs o hk hz => ?_, fun k x zs o hk hz => ?_, fun k k' x x' b hkk o o' hk hk' hb => ?_, fun k x b o hk hb => ?_⟩, h2.trans h4⟩
  · obtain ⟨k', a, c, hoo⟩ := from_ k x zs hk hz
    have hm := r.mine k' x zs (hoo.1 o) a c
    have hk1 := RedW.OwnInts.keep (j := i) hm (fun b hb => r.away k' x b (hoo.1 o) a hb) v
    exact RedW.OwnInts.keep (j := j) hk1 (fun b hb => r.away k' x b (hoo.1 o) a hb) u
  · obtain ⟨k', a, c, hoo⟩ := from_ k x zs hk hz
    obtain ⟨ad, n', cap', rfl, s⟩ := r.rest k' x zs (fun o' => o (hoo.2 o')) a c
    exact ⟨ad, n', cap', rfl, s.mv m2 (.inl hg.1)⟩
  · obtain ⟨a, ha, hoa, a1, a2, a3⟩ := wher k x hk
    obtain ⟨a', ha', hoa', c1, c2, c3⟩ := wher k' x' hk'
    refine r.apart a a' x x' b (fun he => ?_) (hoa.1 o) (hoa'.1 o') ha ha' hb
    by_cases e1 : k = i
    · have := a2 e1
      by_cases e2 : k' = j
      · have := c1 e2; omega
      · have := c3 (fun h => hkk (by omega)) e2; omega
    · by_cases e2 : k = j
      · have := a1 e2
        by_cases e3 : k' = i
        · have := c2 e3; omega
        · have := c3 e3 (fun h => hkk (by omega)); omega
      · have := a3 e1 e2
        by_cases e3 : k' = i
        · have := c2 e3; omega
        · by_cases e4 : k' = j
          · have := c1 e4; omega
          · have := c3 e3 e4; omega
  · obtain ⟨k', hk2, hoo, _⟩ := wher k x hk
    exact r.away k' x b (hoo.1 o) hk2 hb
/-- All rows are the call's own. -/
theorem Mix.net (r : Mix w l h e e1 g n cap us xss own) (ho : ∀ j, j < n → own j) : Net w l h e (some ⟨g, 0, none⟩) n cap us xss :=
  ⟨r.out.sl, r.len, fun j u xs hu hx => (r.mine j u xs (ho j (r.lt_n hu)) hu hx).tail, fun i j u v b hij hu hv hb => r.apart i j u v b hij (ho i (r.lt_n hu)) (ho j (r.lt_n hv)) hu hv hb,
    fun j u b a hu hb ha => by obtain rfl := Option.some.inj ha; exact r.away j u b (ho j (r.lt_n hu)) hu hb⟩
end
end Go.Proofs.Ytlgmiojlpnoiaaa.Seq
namespace Go.Proofs.Ytlgmiojlpnoiaaa.Seq
open Go.RowKit

/-- The slice with this address, length and capacity reads as the list us; its cells lie in blocks from l up to (not with) h. -/
structure SlK (K : Nat) (w : World) (l h : Nat) (ad : Option Addr) (n cap : Nat) (us : List Value) : Prop where
  len : us.length = n * K
  le : n ≤ cap
  big : cap ≤ maxLen
  nil : ad = none → cap = 0
  one : ∀ u ∈ us, u.oneCell' = true
  cells : ∀ j u, us[j]? = some u → ∃ a, ad = some a ∧ l ≤ a.block ∧ a.block < h ∧ w.cell? (a.add j) = some u

section
variable {K : Nat} {w w' : World} {l h l' h' : Nat} {ad : Option Addr} {n cap : Nat} {us vs : List Value}
theorem SlK.at_ (s : SlK K w l h ad n cap us) {j : Nat} (hj : j < n * K) : ∃ a u, ad = some a ∧ us[j]? = some u ∧ l ≤ a.block ∧ a.block < h ∧ w.cell? (a.add j) = some u := by
  have hl : j < us.length := by rw [s.len]; exact hj
  obtain ⟨a, e, h1, h2, h3⟩ := s.cells j us[j] (List.getElem?_eq_getElem hl)
  exact ⟨a, us[j], e, List.getElem?_eq_getElem hl, h1, h2, h3⟩
theorem SlK.keep (s : SlK K w l h ad n cap us) (hk : ∀ p : Addr, l ≤ p.block → p.block < h → ∀ u, w.cell? p = some u → w'.cell? p = some u) : SlK K w' l h ad n cap us :=
  ⟨s.len, s.le, s.big, s.nil, s.one, fun j x hx => by
    obtain ⟨a, e, h1, h2, h3⟩ := s.cells j x hx
    exact ⟨a, e, h1, h2, hk _ (by rw [add_block]; exact h1) (by rw [add_block]; exact h2) _ h3⟩⟩
theorem SlK.mv (s : SlK K w l h ad n cap us) (m : Mv w w' l' h') (hd : h ≤ l' ∨ h' ≤ l) : SlK K w' l h ad n cap us :=
  s.keep fun p h1 h2 u hu => (World.cell?_of_block (m.block p.block (World.block_lt_of_cell? w p hu) (by omega))).trans hu
theorem SlK.below {B : Nat} (s : SlK K w l h ad n cap us) (m : Below B w w') (hB : h ≤ B ∨ w.heap.size ≤ B) : SlK K w' l h ad n cap us :=
  s.keep fun p h1 h2 u hu => (m.cell (by have := World.block_lt_of_cell? w p hu; omega)).trans hu
theorem SlK.mono (s : SlK K w l h ad n cap us) (h1 : l' ≤ l) (h2 : h ≤ h') : SlK K w l' h' ad n cap us :=
  ⟨s.len, s.le, s.big, s.nil, s.one, fun j x hx => by
    obtain ⟨a, e, g1, g2, g3⟩ := s.cells j x hx
    exact ⟨a, e, by omega, by omega, g3⟩⟩
theorem SlK.drewN (s : SlK K w l h ad n cap us) (m : Nat) : SlK K (w.drewN m) l h ad n cap us := ⟨s.len, s.le, s.big, s.nil, s.one, s.cells⟩
theorem SlK.alloc (s : SlK K w l h ad n cap us) (o : Obj) : SlK K (w.alloc o) l h ad n cap us := s.mv ((Mv.refl w 0 0).alloc o) (.inr (Nat.zero_le _))
theorem SlK.lt {B : Nat} (s : SlK K w l h ad n cap us) (hB : w.heap.size ≤ B) : SlK K w l B ad n cap us :=
  ⟨s.len, s.le, s.big, s.nil, s.one, fun j x hx => by
    obtain ⟨a, e, g1, g2, g3⟩ := s.cells j x hx
    have := World.block_lt_of_cell? w _ g3
    rw [add_block] at this
    exact ⟨a, e, g1, by omega, g3⟩⟩
end

/-- A slice that the call itself has made. -/
structure RowK (K : Nat) (w : World) (l h : Nat) (e : TypeId) (ad : Option Addr) (n cap : Nat) (us : List Value) : Prop where
  len : us.length = n * K
  le : n ≤ cap
  big : cap ≤ maxLen
  one : ∀ u ∈ us, u.oneCell' = true
  own : (n = 0 ∧ cap = 0) ∨ ∃ g, ad = some ⟨g, 0, none⟩ ∧ l ≤ g ∧ g < h ∧ w.ownsRow l e K (.slice ad n cap) n us

section
variable {K : Nat} {w w' : World} {l h l' h' : Nat} {e : TypeId} {ad : Option Addr} {n cap : Nat} {us vs : List Value}
theorem RowK.sl (r : RowK K w l h e ad n cap us) : SlK K w l h ad n cap us := by
  refine ⟨r.len, r.le, r.big, ?_, r.one, ?_⟩
  · intro hn
    rcases r.own with ⟨_, h⟩ | ⟨g, h, _⟩
    · exact h
    · rw [hn] at h; cases h
  · intro j x hx
    rcases r.own with ⟨h0, _⟩ | ⟨g, rfl, h1, h2, h3⟩
    · have h5 : us = [] := List.eq_nil_of_length_eq_zero (by rw [r.len, h0, Nat.zero_mul])
      rw [h5] at hx; simp at hx
    · exact ⟨_, rfl, h1, h2, h3.cells (g := g) rfl j _ hx⟩
theorem RowK.mono (r : RowK K w l h e ad n cap us) (h2 : h ≤ h') : RowK K w l h' e ad n cap us :=
  ⟨r.len, r.le, r.big, r.one, r.own.imp id fun ⟨g, a, b, c, d⟩ => ⟨g, a, b, by omega, d⟩⟩
theorem RowK.mv (r : RowK K w l h e ad n cap us) (m : Mv w w' l' h') (hd : h ≤ l' ∨ h' ≤ l) : RowK K w' l h e ad n cap us :=
  ⟨r.len, r.le, r.big, r.one, r.own.imp id fun ⟨g, a, b, c, d⟩ => ⟨g, a, b, c, by
    subst a
    exact owns_keep d fun g' hg => by
      obtain rfl : g = g' := by simpa [Value.ownBlock] using hg
      exact m.block g (owns_lt d) (by omega)⟩⟩
theorem RowK.below {B : Nat} (r : RowK K w l h e ad n cap us) (m : Below B w w') (hB : h ≤ B ∨ w.heap.size ≤ B) : RowK K w' l h e ad n cap us :=
  ⟨r.len, r.le, r.big, r.one, r.own.imp id fun ⟨g, a, b, c, d⟩ => ⟨g, a, b, c, by
    subst a
    exact owns_keep d fun g' hg => by
      obtain rfl : g = g' := by simpa [Value.ownBlock] using hg
      exact m.block g (by have := owns_lt d; omega)⟩⟩
theorem RowK.drewN (r : RowK K w l h e ad n cap us) (m : Nat) : RowK K (w.drewN m) l h e ad n cap us := ⟨r.len, r.le, r.big, r.one, r.own⟩
theorem RowK.alloc (r : RowK K w l h e ad n cap us) (o : Obj) : RowK K (w.alloc o) l h e ad n cap us := r.mv ((Mv.refl w 0 0).alloc o) (.inr (Nat.zero_le _))
theorem RowK.nil (w : World) (l h : Nat) (e : TypeId) (ad : Option Addr) : RowK K w l h e ad 0 0 [] := ⟨by simp, Nat.le_refl _, Nat.zero_le _, by simp, .inl ⟨rfl, rfl⟩⟩
theorem RowK.lo (r : RowK K w l h e ad n cap us) (hl : l' ≤ l) : RowK K w l' h e ad n cap us :=
  ⟨r.len, r.le, r.big, r.one, r.own.imp id fun ⟨g, a, b, c, d⟩ => ⟨g, a, by omega, c, by subst a; exact owns_base d (by omega)⟩⟩
theorem RowK.lt (r : RowK K w l h e ad n cap us) : RowK K w l w.heap.size e ad n cap us :=
  ⟨r.len, r.le, r.big, r.one, r.own.imp id fun ⟨g, a, b, c, d⟩ => ⟨g, a, b, by subst a; exact owns_lt d, d⟩⟩
theorem RowK.new (w : World) (e : TypeId) (us : List Value) (n : Nat) (hn : us.length = n * K) (hm : n ≤ maxLen) (ho : ∀ u ∈ us, u.oneCell' = true) :
    RowK K (w.alloc (.cells us.toArray e)) w.heap.size (w.heap.size + 1) e (some ⟨w.heap.size, 0, none⟩) n n us := by
  refine ⟨hn, Nat.le_refl _, hm, ho, .inr ⟨w.heap.size, rfl, Nat.le_refl _, Nat.lt_succ_self _, ?_⟩⟩
  have h := World.ownsRow_lit (base := w.heap.size) (e := e) (size := K) w us.toArray n (Nat.le_refl _) hm (by simp [hn])
  simpa using h
theorem RowK.pos (r : RowK K w l h e ad n cap us) (hn : 0 < n) : ∃ g, ad = some ⟨g, 0, none⟩ ∧ l ≤ g ∧ g < h := by
  rcases r.own with ⟨h0, _⟩ | ⟨g, h1, h2, h3, _⟩
  · omega
  · exact ⟨g, h1, h2, h3⟩
/-- What 'append' does: the source is any slice that reads. -/
theorem run_appK (hK0 : 0 < K) {P : Program} {t ty : TypeId} {i : TypeInfo} {z : Value} {bytes : Nat} (ht : P.underlying t = some (.slice e)) (hi : P.info? e = some i) (hz : i.zero = some z) (hs : i.size = K) (hb : i.bytes = bytes) (hzs : z.cells.size = K)
    (r : RowK K w l h e ad n cap us) {l1 h1 m c : Nat} {A : Option Addr} (s : SlK K w l1 h1 A m c vs) (h63 : n + m ≤ maxLen) (hby : (n + m) * bytes ≤ 140737488355328) (hl : l ≤ w.heap.size) :
    ∃ ad' cap' w', (Builtin.append_ #[t, t] ty #[.slice ad n cap, .slice A m c]).run P w = .ok (.slice ad' (n + m) cap') w' ∧ RowK K w' l w'.heap.size e ad' (n + m) cap' (us ++ vs) ∧ Mv w w' l h := by
  have ho : ∀ u ∈ us ++ vs, u.oneCell' = true := fun x hx => (List.mem_append.1 hx).elim (r.one x) (s.one x)
  have hlen : (us ++ vs).length = (n + m) * K := by rw [List.length_append, r.len, s.len, Nat.add_mul]
  have hvs : vs.length = m * K := s.len
  have fin : ∀ v' w', w'.ownsRow l e K v' (n + m) (us ++ vs) → ∃ ad' cap', v' = .slice ad' (n + m) cap' ∧ RowK K w' l w'.heap.size e ad' (n + m) cap' (us ++ vs) := by
    intro v' w' o
    rcases o.2 with ⟨rfl, h0⟩ | ⟨g, c', cur, rfl, g1, g2, g3, g4, g5⟩
    · exact ⟨none, 0, by rw [h0], ⟨hlen, by omega, Nat.zero_le _, ho, .inl ⟨h0, rfl⟩⟩⟩
    · exact ⟨_, c', rfl, hlen, g3, g4, ho, .inr ⟨g, rfl, g1, owns_lt o, o⟩⟩
  have src : ∀ a, A = some a → ∀ j u, vs[j]? = some u → w.cell? (a.add j) = some u := by
    intro a ha j u hu
    obtain ⟨a', e', _, _, hc⟩ := s.cells j u hu
    rw [ha] at e'
    obtain rfl := Option.some.inj e'
    exact hc
  cases A with
  | none =>
    have hc0 := s.nil rfl
    have hm0 : m = 0 := by have := s.le; omega
    subst hc0
    subst hm0
    have hy0 : vs = [] := List.eq_nil_of_length_eq_zero (by rw [s.len, Nat.zero_mul])
    subst hy0
    refine ⟨ad, cap, w, ?_, by rw [List.append_nil]; exact r.lt, Mv.refl _ _ _⟩
    rcases r.own with ⟨rfl, rfl⟩ | ⟨g, rfl, g1, g2, o⟩
    · simp [Builtin.append_, run_underlying ht, sizeOf, typeInfo, hi, Builtin.lenOf, Builtin.firstCells]
      cases ad <;> simp [storeCells]
    · exact run_append_owned_none w l t ty e i K ht hi _ n _ o
  | some a =>
    rcases r.own with ⟨rfl, rfl⟩ | ⟨g, rfl, g1, g2, o⟩
    · have hx0 : us = [] := List.eq_nil_of_length_eq_zero (by rw [r.len, Nat.zero_mul])
      subst hx0
      by_cases hm : m = 0
      · subst hm
        have hy0 : vs = [] := List.eq_nil_of_length_eq_zero (by rw [s.len, Nat.zero_mul])
        subst hy0
        refine ⟨ad, 0, w, ?_, RowK.nil _ _ _ _ _, Mv.refl _ _ _⟩
        simp [Builtin.append_, run_underlying ht, sizeOf, typeInfo, hi, Builtin.lenOf, Builtin.firstCells, loadCells, loadCellsFrom]
        cases ad <;> simp [storeCells]
      · cases ad with
        | none =>
          obtain ⟨v', w', hr, ho, hg, _⟩ := run_append_own (P := P) w l t ty e i z K bytes ht hi hz hs hb hzs hK0 (.slice none 0 0) 0 [] (World.ownsRow_nil w _ e K) a m c _ hvs (src a rfl) s.one h63 hby hl
          obtain ⟨ad', cap', rfl, hrow⟩ := fin v' w' (by simpa using ho)
          exact ⟨ad', cap', w', hr, hrow, ⟨hg.os, hg.tape, hg.output, hg.size, fun k hk _ => hg.block k hk (by simp [Value.ownBlock])⟩⟩
        | some b =>
          obtain ⟨v', w', hr, ho, hg⟩ := run_append_arg_grows (P := P) w t ty e i z K bytes ht hi hz hs hb hzs hK0 b 0 0 [] (by simp) (by simp) a m c _ hvs (src a rfl) (by omega) h63 hby
          have hsz := (ho.lt)
          obtain ⟨ad', cap', rfl, hrow⟩ := fin v' w' (by
            rcases ho.2 with ⟨rfl, h0⟩ | ⟨g, c', cur, rfl, q1, q2, q3⟩
            · omega
            · have := owns_base (base' := l) ho (by omega)
              simpa using this)
          exact ⟨ad', cap', w', hr, hrow, ⟨hg.os, hg.tape, hg.output, hg.size, fun k hk _ => hg.block k hk (by simp)⟩⟩
    · obtain ⟨v', w', hr, ho, hg, _⟩ := run_append_own (P := P) w l t ty e i z K bytes ht hi hz hs hb hzs hK0 (.slice (some ⟨g, 0, none⟩) n cap) n _ o a m c _ hvs (src a rfl) s.one h63 hby hl
      obtain ⟨ad', cap', rfl, hrow⟩ := fin v' w' ho
      exact ⟨ad', cap', w', hr, hrow, ⟨hg.os, hg.tape, hg.output, hg.size, fun k hk hk2 => hg.block k hk (by simp [Value.ownBlock]; omega)⟩⟩
end

/-- 'append' of one-cell values, as the walk meets it. 'hinfo': the element type's row of the table. -/
theorem wpList_appK {K : Nat} (hK0 : 0 < K) {P : Program} {w : World} {ops : Array Oper} {rest : List Oper} {o : Oper} {a : Act} {Q : Exit → Act → World → Prop} {l h : Nat} {e : TypeId} {ad : Option Addr} {n cap : Nat} {us vs : List Value}
    {l1 h1 m c : Nat} {A : Option Addr} (r : RowK K w l h e ad n cap us) (s : SlK K w l1 h1 A m c vs) {t : TypeId} (ht : P.underlying t = some (.slice e)) {z : Value} {bytes : Nat}
    (hinfo : (P.info? e).map (fun i => (i.zero, i.size, i.bytes)) = some (some z, K, bytes)) (hzs : z.cells.size = K) (h63 : n + m ≤ maxLen) (hby : (n + m) * bytes ≤ 140737488355328) (hl : l ≤ w.heap.size)
    (hg : o.guard = none) (p q : Operand) (hop : o.op = Op.call { callee := Callee.builtin Builtin.append, args := #[p, q], argTypes := #[t, t] }) (hp : a.eval p = .slice ad n cap) (hq : a.eval q = .slice A m c)
    (hK : ∀ ad' cap' w', RowK K w' l w'.heap.size e ad' (n + m) cap' (us ++ vs) → Mv w w' l h → wpList P ops Q rest (a.put o.dst (.slice ad' (n + m) cap')) w') : wpList P ops Q (o :: rest) a w := by
  obtain ⟨i, hi, hz, hs, hb⟩ := info_parts hinfo
  refine wpList_plain hg fun Kp hK' => ?_
  obtain ⟨ad', cap', w', hrun, hr, hm⟩ := run_appK hK0 (P := P) (t := t) (ty := o.type) ht hi hz hs hb hzs r s h63 hby hl
  unfold Oper.wp
  simp [execOp, hop, resolve, invoke, builtin, hp, hq, hrun, Result.andThen]
  exact hK' _ _ (hK ad' cap' w' hr hm)

section
variable {K : Nat} {w w' : World} {l h : Nat} {e : TypeId} {ad : Option Addr} {n cap : Nat} {us vs : List Value}
/-- m elements are appended (m > 0): in place, in the slice's own block; or everything lies in a new block. -/
theorem run_pushK (hK0 : 0 < K) {m c : Nat} (hm0 : 0 < m) {P : Program} {t ty : TypeId} {i : TypeInfo} {z : Value} {bytes : Nat} (ht : P.underlying t = some (.slice e)) (hi : P.info? e = some i) (hz : i.zero = some z) (hs : i.size = K) (hb : i.bytes = bytes) (hzs : z.cells.size = K)
    (r : RowK K w l h e ad n cap us) {a : Addr} (hl : vs.length = m * K) (src : ∀ j v, vs[j]? = some v → w.cell? (a.add j) = some v) (hnews : ∀ v ∈ vs, v.oneCell' = true) (h63 : n + m ≤ maxLen) (hby : (n + m) * bytes ≤ 140737488355328) :
    ∃ g cap' w', (Builtin.append_ #[t, t] ty #[.slice ad n cap, .slice (some a) m c]).run P w = .ok (.slice (some ⟨g, 0, none⟩) (n + m) cap') w' ∧ RowK K w' g (g + 1) e (some ⟨g, 0, none⟩) (n + m) cap' (us ++ vs) ∧
      ((ad = some ⟨g, 0, none⟩ ∧ l ≤ g ∧ g < h ∧ g < w.heap.size ∧ Mv w w' g (g + 1)) ∨ (w.heap.size ≤ g ∧ Below w.heap.size w w')) := by
  have hlen : (us ++ vs).length = (n + m) * K := by rw [List.length_append, r.len, hl, Nat.add_mul]
  have hl1 : vs.length = m * K := hl
  have hone : ∀ v ∈ us ++ vs, v.oneCell' = true := fun v hv => (List.mem_append.1 hv).elim (r.one v) (hnews v)
  have fin : ∀ v' w' base, w'.ownsRow base e K v' (n + m) (us ++ vs) → ∃ g cap', v' = .slice (some ⟨g, 0, none⟩) (n + m) cap' ∧ base ≤ g ∧ RowK K w' g (g + 1) e (some ⟨g, 0, none⟩) (n + m) cap' (us ++ vs) := by
    intro v' w' base o
    rcases o.2 with ⟨rfl, h0⟩ | ⟨g, c', cur, rfl, g1, g2, g3, g4, g5⟩
    · omega
    · refine ⟨g, c', rfl, g1, hlen, g3, g4, hone, .inr ⟨g, rfl, Nat.le_refl _, Nat.lt_succ_self _, o.1, .inr ⟨g, c', cur, rfl, Nat.le_refl _, g2, g3, g4, g5⟩⟩⟩
  rcases r.own with ⟨rfl, rfl⟩ | ⟨g, rfl, g1, g2, o⟩
  · have hx0 : us = [] := List.eq_nil_of_length_eq_zero (by rw [r.len, Nat.zero_mul])
    subst hx0
    cases ad with
    | none =>
      obtain ⟨v', w', hr, ho, hg, _⟩ := run_append_own (P := P) w w.heap.size t ty e i z K bytes ht hi hz hs hb hzs hK0 (.slice none 0 0) 0 [] (World.ownsRow_nil w _ e K) a m c vs hl1 src hnews h63 hby (Nat.le_refl _)
      obtain ⟨g, cap', rfl, hge, hrow⟩ := fin v' w' _ (by simpa using ho)
      exact ⟨g, cap', w', by simpa using hr, hrow, .inr ⟨hge, hg.os, hg.tape, hg.output, hg.size, fun k hk => hg.block k hk (by simp [Value.ownBlock])⟩⟩
    | some b =>
      obtain ⟨v', w', hr, ho, hg⟩ := run_append_arg_grows (P := P) w t ty e i z K bytes ht hi hz hs hb hzs hK0 b 0 0 [] (by simp) (by simp) a m c vs hl1 src (by omega) h63 hby
      obtain ⟨g, cap', rfl, hge, hrow⟩ := fin v' w' _ (by simpa using ho)
      exact ⟨g, cap', w', by simpa using hr, hrow, .inr ⟨hge, hg.os, hg.tape, hg.output, hg.size, fun k hk => hg.block k hk (by simp)⟩⟩
  · by_cases hroom : n + m ≤ cap
    · obtain ⟨w', hr, ho, hg⟩ := run_append_fits (P := P) w l t ty e i K ht hi hs g n cap us o a m c vs hl1 src hnews hroom
      obtain ⟨g', cap', hv, _, hrow⟩ := fin _ w' _ ho
      obtain ⟨rfl, rfl⟩ : g = g' ∧ cap = cap' := by simpa using hv
      exact ⟨g, cap, w', hr, hrow, .inl ⟨rfl, g1, g2, owns_lt o, hg.os, hg.tape, hg.output, hg.size, fun k hk hk2 => hg.block k hk (by simp; omega)⟩⟩
    · obtain ⟨v', w', hr, ho, hg⟩ := run_append_arg_grows (P := P) w t ty e i z K bytes ht hi hz hs hb hzs hK0 ⟨g, 0, none⟩ n cap us r.len (fun j v hv => o.cells (g := g) rfl j v hv) a m c vs hl1 src (by omega) h63 hby
      obtain ⟨g', cap', rfl, hge, hrow⟩ := fin v' w' _ ho
      exact ⟨g', cap', w', hr, hrow, .inr ⟨hge, hg.os, hg.tape, hg.output, hg.size, fun k hk => hg.block k hk (by simp)⟩⟩
theorem run_snocK (hK0 : 0 < K) {P : Program} {t ty : TypeId} {i : TypeInfo} {z : Value} {bytes : Nat} (ht : P.underlying t = some (.slice e)) (hi : P.info? e = some i) (hz : i.zero = some z) (hs : i.size = K) (hb : i.bytes = bytes) (hzs : z.cells.size = K)
    (r : RowK K w l h e ad n cap us) {a : Addr} (hl : vs.length = K) (src : ∀ j v, vs[j]? = some v → w.cell? (a.add j) = some v) (hnews : ∀ v ∈ vs, v.oneCell' = true) (h63 : n + 1 ≤ maxLen) (hby : (n + 1) * bytes ≤ 140737488355328) :
    ∃ g cap' w', (Builtin.append_ #[t, t] ty #[.slice ad n cap, .slice (some a) 1 1]).run P w = .ok (.slice (some ⟨g, 0, none⟩) (n + 1) cap') w' ∧ RowK K w' g (g + 1) e (some ⟨g, 0, none⟩) (n + 1) cap' (us ++ vs) ∧
      ((ad = some ⟨g, 0, none⟩ ∧ l ≤ g ∧ g < h ∧ g < w.heap.size ∧ Mv w w' g (g + 1)) ∨ (w.heap.size ≤ g ∧ Below w.heap.size w w')) :=
  run_pushK hK0 (m := 1) (c := 1) (by decide) ht hi hz hs hb hzs r (by rw [hl, Nat.one_mul]) src hnews h63 hby
end

/-- 'append(l, x...)' of at least one element, as the walk meets it. -/
theorem wpList_pushK {K : Nat} (hK0 : 0 < K) {P : Program} {w : World} {ops : Array Oper} {rest : List Oper} {o : Oper} {a : Act} {Q : Exit → Act → World → Prop} {l h : Nat} {e : TypeId} {ad : Option Addr} {n cap m c : Nat} {us vs : List Value} (hm0 : 0 < m)
    (r : RowK K w l h e ad n cap us) {A : Addr} (hl : vs.length = m * K) (src : ∀ j v, vs[j]? = some v → w.cell? (A.add j) = some v) (hnews : ∀ v ∈ vs, v.oneCell' = true) {t : TypeId} (ht : P.underlying t = some (.slice e)) {z : Value} {bytes : Nat}
    (hinfo : (P.info? e).map (fun i => (i.zero, i.size, i.bytes)) = some (some z, K, bytes)) (hzs : z.cells.size = K) (h63 : n + m ≤ maxLen) (hby : (n + m) * bytes ≤ 140737488355328)
    (hg : o.guard = none) (p q : Operand) (hop : o.op = Op.call { callee := Callee.builtin Builtin.append, args := #[p, q], argTypes := #[t, t] }) (hp : a.eval p = .slice ad n cap) (hq : a.eval q = .slice (some A) m c)
    (hK : ∀ g cap' w', RowK K w' g (g + 1) e (some ⟨g, 0, none⟩) (n + m) cap' (us ++ vs) → Put w w' l h ad g → wpList P ops Q rest (a.put o.dst (.slice (some ⟨g, 0, none⟩) (n + m) cap')) w') : wpList P ops Q (o :: rest) a w := by
  obtain ⟨i, hi, hz, hs, hb⟩ := info_parts hinfo
  refine wpList_plain hg fun Kp hK' => ?_
  obtain ⟨g, cap', w', hrun, hr, hm⟩ := run_pushK hK0 (P := P) (t := t) (ty := o.type) (c := c) hm0 ht hi hz hs hb hzs r hl src hnews h63 hby
  unfold Oper.wp
  simp [execOp, hop, resolve, invoke, builtin, hp, hq, hrun, Result.andThen]
  exact hK' _ _ (hK g cap' w' hr hm)
/-- 'append(l, u)' of a one-cell value, as the walk meets it. -/
theorem wpList_snocK {K : Nat} (hK0 : 0 < K) {P : Program} {w : World} {ops : Array Oper} {rest : List Oper} {o : Oper} {a : Act} {Q : Exit → Act → World → Prop} {l h : Nat} {e : TypeId} {ad : Option Addr} {n cap : Nat} {us vs : List Value}
    (r : RowK K w l h e ad n cap us) {A : Addr} (hl : vs.length = K) (src : ∀ j v, vs[j]? = some v → w.cell? (A.add j) = some v) (hnews : ∀ v ∈ vs, v.oneCell' = true) {t : TypeId} (ht : P.underlying t = some (.slice e)) {z : Value} {bytes : Nat}
    (hinfo : (P.info? e).map (fun i => (i.zero, i.size, i.bytes)) = some (some z, K, bytes)) (hzs : z.cells.size = K) (h63 : n + 1 ≤ maxLen) (hby : (n + 1) * bytes ≤ 140737488355328)
    (hg : o.guard = none) (p q : Operand) (hop : o.op = Op.call { callee := Callee.builtin Builtin.append, args := #[p, q], argTypes := #[t, t] }) (hp : a.eval p = .slice ad n cap) (hq : a.eval q = .slice (some A) 1 1)
    (hK : ∀ g cap' w', RowK K w' g (g + 1) e (some ⟨g, 0, none⟩) (n + 1) cap' (us ++ vs) → Put w w' l h ad g → wpList P ops Q rest (a.put o.dst (.slice (some ⟨g, 0, none⟩) (n + 1) cap')) w') : wpList P ops Q (o :: rest) a w := by
  obtain ⟨i, hi, hz, hs, hb⟩ := info_parts hinfo
  refine wpList_plain hg fun Kp hK' => ?_
  obtain ⟨g, cap', w', hrun, hr, hm⟩ := run_snocK hK0 (P := P) (t := t) (ty := o.type) ht hi hz hs hb hzs r hl src hnews h63 hby
  unfold Oper.wp
  simp [execOp, hop, resolve, invoke, builtin, hp, hq, hrun, Result.andThen]
  exact hK' _ _ (hK g cap' w' hr hm)
/-- 'append(l, u)' at a step of a region that draws its order. -/
theorem step_snocK {K : Nat} (hK0 : 0 < K) {P : Program} {w : World} {ops : Array Oper} {o : Oper} {a : Act} {Kp : Act → World → Prop} {Q : Exit → Act → World → Prop} {E : Prop} {l h : Nat} {e : TypeId} {ad : Option Addr} {n cap : Nat} {us vs : List Value}
    (r : RowK K w l h e ad n cap us) {A : Addr} (hl : vs.length = K) (src : ∀ j v, vs[j]? = some v → w.cell? (A.add j) = some v) (hnews : ∀ v ∈ vs, v.oneCell' = true) {t : TypeId} (ht : P.underlying t = some (.slice e)) {z : Value} {bytes : Nat}
    (hinfo : (P.info? e).map (fun i => (i.zero, i.size, i.bytes)) = some (some z, K, bytes)) (hzs : z.cells.size = K) (h63 : n + 1 ≤ maxLen) (hby : (n + 1) * bytes ≤ 140737488355328)
    (hg : o.guard = none) (p q : Operand) (hop : o.op = Op.call { callee := Callee.builtin Builtin.append, args := #[p, q], argTypes := #[t, t] }) (hp : a.eval p = .slice ad n cap) (hq : a.eval q = .slice (some A) 1 1)
    (hK : ∀ g cap' w', RowK K w' g (g + 1) e (some ⟨g, 0, none⟩) (n + 1) cap' (us ++ vs) → Put w w' l h ad g → Kp (a.put o.dst (.slice (some ⟨g, 0, none⟩) (n + 1) cap')) w') :
    if Region.wanted o (yielded ops a.tmps) = true then Oper.wp P o a w Kp Q else E := by
  have hw : Region.wanted o (yielded ops a.tmps) = true := by simp [Region.wanted, hg]
  rw [if_pos hw]
  obtain ⟨i, hi, hz, hs, hb⟩ := info_parts hinfo
  obtain ⟨g, cap', w', hrun, hr, hm⟩ := run_snocK hK0 (P := P) (t := t) (ty := o.type) ht hi hz hs hb hzs r hl src hnews h63 hby
  unfold Oper.wp
  simp [execOp, hop, resolve, invoke, builtin, hp, hq, hrun, Result.andThen]
  exact hK _ _ _ hr hm
end Go.Proofs.Ytlgmiojlpnoiaaa.Seq
namespace Go.Proofs.Ytlgmiojlpnoiaaa.Seq
open Go.RowKit Go.WideShapes

/-- A list with one element put in at a place. -/
def putIn {α : Type} (t : Nat) (u : α) (L : List α) : List α := L.take t ++ u :: L.drop t
theorem putIn_cases {α : Type} {t j : Nat} {u v : α} {L : List α} (ht : t ≤ L.length) (h : (putIn t u L)[j]? = some v) : (j < t ∧ L[j]? = some v) ∨ (j = t ∧ v = u) ∨ (t < j ∧ L[j - 1]? = some v) := by
  unfold putIn at h
  have hl : (L.take t).length = t := by rw [List.length_take]; omega
  by_cases h1 : j < t
  · rw [List.getElem?_append_left (by omega), List.getElem?_take, if_pos h1] at h
    exact .inl ⟨h1, h⟩
  · rw [List.getElem?_append_right (by omega), hl] at h
    by_cases h2 : j = t
    · subst h2
      rw [Nat.sub_self, List.getElem?_cons_zero] at h
      exact .inr (.inl ⟨rfl, (Option.some.inj h).symm⟩)
    · obtain ⟨k, rfl⟩ : ∃ k, j = t + k + 1 := ⟨j - t - 1, by omega⟩
      rw [show t + k + 1 - t = k + 1 by omega, List.getElem?_cons_succ, List.getElem?_drop] at h
      exact .inr (.inr ⟨by omega, h⟩)
theorem putIn_len {α : Type} {t : Nat} (u : α) {L : List α} (ht : t ≤ L.length) : (putIn t u L).length = L.length + 1 := by
  unfold putIn
  rw [List.length_append, List.length_cons, List.length_take, List.length_drop]; omega
theorem putIn_end {α : Type} (u : α) (L : List α) : putIn L.length u L = L ++ [u] := by unfold putIn; rw [List.take_length, List.drop_length]
/-- What two copies leave. -/
theorem putIn_copies {α : Type} {t n k : Nat} (u z : α) {L : List α} (hn : L.length = n) (ht : t ≤ n) (hk : t + k = n + 1) :
    (((L.take t ++ List.replicate k z).take t ++ [u] ++ (L.take t ++ List.replicate k z).drop (t + [u].length)).take (t + 1) ++ L.drop t ++
      ((L.take t ++ List.replicate k z).take t ++ [u] ++ (L.take t ++ List.replicate k z).drop (t + [u].length)).drop (t + 1 + (L.drop t).length)) = putIn t u L := by
  have hl : (L.take t).length = t := by rw [List.length_take]; omega
  have e1 : (L.take t ++ List.replicate k z).take t = L.take t := by rw [List.take_append_of_le_length (by omega), List.take_of_length_le (by omega)]
  rw [e1]
  have e2 : (L.take t ++ [u] ++ (L.take t ++ List.replicate k z).drop (t + [u].length)).take (t + 1) = L.take t ++ [u] := by
    rw [List.take_append_of_le_length (by simp; omega), List.take_of_length_le (by simp; omega)]
  have e3 : (L.take t ++ [u] ++ (L.take t ++ List.replicate k z).drop (t + [u].length)).length = n + 1 := by simp; omega
  generalize L.take t ++ [u] ++ (L.take t ++ List.replicate k z).drop (t + [u].length) = B at *
  have e4 : B.drop (t + 1 + (L.drop t).length) = [] := List.drop_eq_nil_of_le (by rw [List.length_drop]; omega)
  rw [e2, e4, List.append_nil]
  unfold putIn
  simp

section
variable {w w' : World} {l h : Nat} {e : TypeId} {n cap : Nat} {us vs : List Value} {g : Nat}
theorem RowV.setCells (r : RowV w l h e (some ⟨g, 0, none⟩) n cap us) (o : Nat) (ho : o + vs.length ≤ n) (h1 : ∀ v ∈ vs, v.oneCell' = true) :
    RowV (w.setCells g o vs) l h e (some ⟨g, 0, none⟩) n cap (us.take o ++ vs ++ us.drop (o + vs.length)) ∧ Mv w (w.setCells g o vs) l h := by
  induction vs generalizing w us o with
  | nil =>
    refine ⟨?_, Mv.refl _ _ _⟩
    show RowV w l h e _ n cap _
    simpa using r
  | cons v vs ih =>
    rw [List.length_cons] at ho
    obtain ⟨a1, a2⟩ := r.set (j := o) (by omega) (h1 v (by simp))
    obtain ⟨b1, b2⟩ := ih a1 (o + 1) (by omega) (fun x hx => h1 x (by simp [hx]))
    have hul := r.len
    have e1 : (us.set o v).take (o + 1) = us.take o ++ [v] := by
      rw [List.take_add_one, List.getElem?_set_self (by omega), List.take_set_of_le (Nat.le_refl _)]
      rfl
    have e2 : (us.set o v).drop (o + 1 + vs.length) = us.drop (o + (v :: vs).length) := by
      rw [List.length_cons, List.drop_set_of_lt (by omega)]
      congr 1; omega
    rw [e1, e2] at b1
    refine ⟨?_, a2.trans b2⟩
    show RowV ((w.setCell ⟨g, o, none⟩ v).setCells g (o + 1) vs) l h e _ n cap _
    simpa [List.append_assoc] using b1
/-- 'append(l, u)' where l has no room at all: in a new block. -/
theorem wpList_snoc0 {P : Program} {ops : Array Oper} {rest : List Oper} {o : Oper} {a : Act} {Q : Exit → Act → World → Prop} {ad : Option Addr} {u : Value} {A : Addr} (hu : w.cell? A = some u) (hu1 : u.oneCell' = true) {t : TypeId} (ht : P.underlying t = some (.slice e)) {z : Value} {bytes : Nat}
    (hinfo : (P.info? e).map (fun i => (i.zero, i.size, i.bytes)) = some (some z, 1, bytes)) (hzs : z.cells.size = 1) (hby : bytes ≤ 140737488355328)
    (hgd : o.guard = none) (p q : Operand) (hop : o.op = Op.call { callee := Callee.builtin Builtin.append, args := #[p, q], argTypes := #[t, t] }) (hp : a.eval p = .slice ad 0 0) (hq : a.eval q = .slice (some A) 1 1)
    (hK : ∀ g cap' w', RowV w' g (g + 1) e (some ⟨g, 0, none⟩) 1 cap' [u] → w.heap.size ≤ g → Below w.heap.size w w' → wpList P ops Q rest (a.put o.dst (.slice (some ⟨g, 0, none⟩) 1 cap')) w') : wpList P ops Q (o :: rest) a w := by
  obtain ⟨i, hi, hz, hs, hb⟩ := info_parts hinfo
  have src : ∀ j v, [u][j]? = some v → w.cell? (A.add j) = some v := by
    intro j v hv
    cases j with
    | zero =>
      obtain rfl : u = v := by simpa using hv
      have : A.add 0 = A := by unfold Addr.add; simp
      rw [this]; exact hu
    | succ j => simp at hv
  have h63 : 0 + 1 ≤ maxLen := by unfold maxLen; omega
  have fin : ∀ v' w', w'.ownsRow w.heap.size e 1 v' 1 [u] → ∃ g cap', v' = .slice (some ⟨g, 0, none⟩) 1 cap' ∧ w.heap.size ≤ g ∧ RowV w' g (g + 1) e (some ⟨g, 0, none⟩) 1 cap' [u] := by
    intro v' w' o
    rcases o.2 with ⟨rfl, h0⟩ | ⟨g, c', cur, rfl, g1, g2, g3, g4, g5⟩
    · omega
    · refine ⟨g, c', rfl, g1, rfl, g3, g4, by simpa using hu1, .inr ⟨g, rfl, Nat.le_refl _, Nat.lt_succ_self _, o.1, .inr ⟨g, c', cur, rfl, Nat.le_refl _, g2, g3, g4, g5⟩⟩⟩
  have hrun : ∃ g cap' w', (Builtin.append_ #[t, t] o.type #[.slice ad 0 0, .slice (some A) 1 1]).run P w = .ok (.slice (some ⟨g, 0, none⟩) 1 cap') w' ∧ RowV w' g (g + 1) e (some ⟨g, 0, none⟩) 1 cap' [u] ∧ w.heap.size ≤ g ∧ Below w.heap.size w w' := by
    cases ad with
    | none =>
      obtain ⟨v', w', hr, ho, hg, _⟩ := run_append_own (P := P) w w.heap.size t o.type e i z 1 bytes ht hi hz hs hb hzs (by decide) (.slice none 0 0) 0 [] (World.ownsRow_nil w _ e 1) A 1 1 [u] rfl src (by simpa using hu1) h63 (by omega) (Nat.le_refl _)
      obtain ⟨g, cap', rfl, hge, hrow⟩ := fin v' w' (by simpa using ho)
      exact ⟨g, cap', w', by simpa using hr, hrow, hge, hg.os, hg.tape, hg.output, hg.size, fun k hk => hg.block k hk (by simp [Value.ownBlock])⟩
    | some b =>
      obtain ⟨v', w', hr, ho, hg⟩ := run_append_arg_grows (P := P) w t o.type e i z 1 bytes ht hi hz hs hb hzs (by decide) b 0 0 [] rfl (by simp) A 1 1 [u] rfl src (by omega) h63 (by omega)
      obtain ⟨g, cap', rfl, hge, hrow⟩ := fin v' w' (by simpa using ho)
      exact ⟨g, cap', w', by simpa using hr, hrow, hge, hg.os, hg.tape, hg.output, hg.size, fun k hk => hg.block k hk (by simp)⟩
  refine wpList_plain hgd fun K hK' => ?_
  obtain ⟨g, cap', w', hr, hrow, hge, hm⟩ := hrun
  unfold Oper.wp
  simp [execOp, hop, resolve, invoke, builtin, hp, hq, hr, Result.andThen]
  exact hK' _ _ (hK g cap' w' hrow hge hm)
/-! a block of one-cell values, whole -/
structure Whole (w : World) (g : Nat) (e : TypeId) (cs : List Value) : Prop where
  obj : w.heap[g]? = some (.cells cs.toArray e (0, 0))
theorem Whole.cell {cs : List Value} (k : Whole w g e cs) {j : Nat} {v : Value} (hv : cs[j]? = some v) : w.cell? ⟨g, j, none⟩ = some v := by simp [World.cell?, k.obj, hv]
theorem Whole.frozen {cs : List Value} (k : Whole w g e cs) (j : Nat) : w.frozen? ⟨g, j, none⟩ = false := by simp [World.frozen?, k.obj]
theorem Whole.lt {cs : List Value} (k : Whole w g e cs) : g < w.heap.size := (Array.getElem?_eq_some_iff.1 k.obj).1
theorem Whole.below {cs : List Value} {B : Nat} (k : Whole w g e cs) (b : Below B w w') (hB : g < B) : Whole w' g e cs := ⟨(b.block g hB).trans k.obj⟩
theorem Whole.drewN {cs : List Value} (k : Whole w g e cs) (q : Nat) : Whole (w.drewN q) g e cs := ⟨k.obj⟩
theorem Whole.setCells {cs : List Value} (k : Whole w g e cs) (o : Nat) (ho : o + vs.length ≤ cs.length) : Whole (w.setCells g o vs) g e (cs.take o ++ vs ++ cs.drop (o + vs.length)) ∧ Mv w (w.setCells g o vs) g (g + 1) := by
  induction vs generalizing w cs o with
  | nil =>
    refine ⟨?_, Mv.refl _ _ _⟩
    show Whole w g e _
    simpa using k
  | cons v vs ih =>
    rw [List.length_cons] at ho
    have a1 : Whole (w.setCell ⟨g, o, none⟩ v) g e (cs.set o v) := ⟨by rw [heap_setCell_same _ _ _ _ _ _ k.obj]; simp⟩
    obtain ⟨b1, b2⟩ := ih a1 (o + 1) (by rw [List.length_set]; omega)
    have e1 : (cs.set o v).take (o + 1) = cs.take o ++ [v] := by
      rw [List.take_add_one, List.getElem?_set_self (by omega), List.take_set_of_le (Nat.le_refl _)]
      rfl
    have e2 : (cs.set o v).drop (o + 1 + vs.length) = cs.drop (o + (v :: vs).length) := by
      rw [List.length_cons, List.drop_set_of_lt (by omega)]
      congr 1; omega
    rw [e1, e2] at b1
    refine ⟨?_, Mv.trans ((Mv.refl _ _ _).setCell (p := ⟨g, o, none⟩) (Nat.le_refl _) (Nat.lt_succ_self _) _) b2⟩
    show Whole ((w.setCell ⟨g, o, none⟩ v).setCells g (o + 1) vs) g e _
    simpa [List.append_assoc] using b1
theorem RowV.whole (r : RowV w l h e (some ⟨g, 0, none⟩) n cap us) (hc : 0 < cap) : ∃ cs, Whole w g e cs ∧ cs.length = cap ∧ cs.take n = us ∧ l ≤ g ∧ g < h := by
  rcases r.own with ⟨_, h0⟩ | ⟨g', h1, h2, h3, h4⟩
  · omega
  · obtain rfl := (Addr.mk.inj (Option.some.inj h1)).1
    rcases h4.2 with ⟨h5, _⟩ | ⟨g', c', cur, h5, _, h6, _, _, h7, h8⟩
    · cases h5
    · obtain ⟨h9, _, rfl⟩ := Value.slice.inj h5
      obtain rfl := (Addr.mk.inj (Option.some.inj h9)).1
      exact ⟨cur.toList, ⟨by simpa using h6⟩, by simpa using h7, by simpa using h8, h2, h3⟩
theorem Whole.row {cs : List Value} (k : Whole w g e cs) (hl : cs.length = cap) (hn : n ≤ cap) (hb : cap ≤ maxLen) (h1 : ∀ v ∈ cs.take n, v.oneCell' = true) : RowV w g (g + 1) e (some ⟨g, 0, none⟩) n cap (cs.take n) :=
  ⟨by rw [List.length_take]; omega, hn, hb, h1, .inr ⟨g, rfl, Nat.le_refl _, Nat.lt_succ_self _, by rw [List.length_take]; omega, .inr ⟨g, cap, cs.toArray, rfl, Nat.le_refl _, k.obj, hn, hb, by simpa using hl, by simp⟩⟩⟩
/-- The block alone. -/
theorem RowV.tight (r : RowV w l h e (some ⟨g, 0, none⟩) n cap us) (hn : 0 < n) : RowV w g (g + 1) e (some ⟨g, 0, none⟩) n cap us := by
  have hle := r.le
  obtain ⟨cs, k, h1, rfl, _, _⟩ := r.whole (by omega)
  exact k.row h1 hle r.big r.one
/-- What two copies leave in a block with room. -/
theorem putIn_room {α : Type} {t n : Nat} (u : α) {cs : List α} (ht : t < n) (hn : n < cs.length) :
    ((cs.take (t + 1) ++ (cs.take n).drop t ++ cs.drop (t + 1 + ((cs.take n).drop t).length)).take t ++ [u] ++ (cs.take (t + 1) ++ (cs.take n).drop t ++ cs.drop (t + 1 + ((cs.take n).drop t).length)).drop (t + [u].length)).take (n + 1) = putIn t u (cs.take n) := by
  apply List.ext_getElem?
  intro j
  have hl : ((cs.take n).drop t).length = n - t := by rw [List.length_drop, List.length_take]; omega
  have hd : ∀ i, i < n - t → ((cs.take n).drop t)[i]? = cs[t + i]? := fun i hi => by rw [List.getElem?_drop, List.getElem?_take, if_pos (by omega)]
  unfold putIn
  rw [hl]
  generalize (cs.take n).drop t = D at *
  have hA : (cs.take (t + 1) ++ D ++ cs.drop (t + 1 + (n - t))).length = cs.length := by simp [hl]; omega
  have hB : ∀ i, (cs.take (t + 1) ++ D ++ cs.drop (t + 1 + (n - t)))[i]? = if i < t + 1 then cs[i]? else if i < n + 1 then D[i - (t + 1)]? else cs[i]? := fun i => by
    by_cases h1 : i < t + 1
    · rw [if_pos h1, List.append_assoc, List.getElem?_append_left (by rw [List.length_take]; omega), List.getElem?_take, if_pos h1]
    · rw [if_neg h1, List.append_assoc, List.getElem?_append_right (by rw [List.length_take]; omega), List.length_take, show min (t + 1) cs.length = t + 1 by omega]
      by_cases h2 : i < n + 1
      · rw [if_pos h2, List.getElem?_append_left (by omega)]
      · rw [if_neg h2, List.getElem?_append_right (by omega), List.getElem?_drop, hl]
        congr 1; omega
  generalize cs.take (t + 1) ++ D ++ cs.drop (t + 1 + (n - t)) = A at *
  rw [List.getElem?_take, List.append_assoc]
  by_cases h0 : j < n + 1
  · rw [if_pos h0]
    have hL : (A.take t).length = t := by rw [List.length_take]; omega
    have hR : ((cs.take n).take t).length = t := by simp; omega
    by_cases h1 : j < t
    · rw [List.getElem?_append_left (by omega), List.getElem?_append_left (by omega), List.getElem?_take, if_pos h1, hB, if_pos (by omega), List.getElem?_take, if_pos h1, List.getElem?_take, if_pos (by omega)]
    · rw [List.getElem?_append_right (by omega), hL, show ((cs.take n).take t ++ u :: D)[j]? = (u :: D)[j - t]? by rw [List.getElem?_append_right (by omega), hR]]
      by_cases h2 : j = t
      · subst h2; simp
      · obtain ⟨k, rfl⟩ : ∃ k, j = t + k + 1 := ⟨j - t - 1, by omega⟩
        rw [show t + k + 1 - t = k + 1 by omega, List.getElem?_cons_succ]
        show (u :: A.drop (t + 1))[k + 1]? = _
        rw [List.getElem?_cons_succ, List.getElem?_drop, hB, if_neg (by omega), if_pos (by omega)]
        congr 1; omega
  · rw [if_neg h0]
    exact (List.getElem?_eq_none (by simp; omega)).symm
/-- 'copy(d, s)' into a slice of the call's own. -/
theorem run_copyV {P : Program} {t ty : TypeId} (ht : P.underlying t = some (.slice e)) (hs : (P.info? e).map (·.size) = some 1) (r : RowV w l h e (some ⟨g, 0, none⟩) n cap us) {o dl dc sl sc l1 h1 : Nat} {A : Addr} (s : SlV w l1 h1 (some A) sl sc vs) (hm : sl ≤ dl) (ho : o + dl ≤ n) :
    (Builtin.copy_ #[t, t] ty #[.slice (some ⟨g, o, none⟩) dl dc, .slice (some A) sl sc]).run P w = .ok (goInt vs.length) (w.setCells g o vs) :=
  run_copy_cells w t t ty e g o dl dc A sl sc vs ht hs (by rw [s.len]; exact (Nat.min_eq_left hm).symm)
    (fun j v hj => by
      obtain ⟨a, ea, _, _, hc⟩ := s.cells j v hj
      obtain rfl := Option.some.inj ea
      exact hc)
    (fun j hj => by
      obtain ⟨u, _, hc, _⟩ := r.there (j := o + j) (by have := s.len; omega)
      rw [hc]; rfl)
    (fun j hj => by
      obtain ⟨u, _, _, hf⟩ := r.there (j := o + j) (by have := s.len; omega)
      exact hf) s.one
theorem wpList_copyV {P : Program} {ops : Array Oper} {rest : List Oper} {o : Oper} {a : Act} {Q : Exit → Act → World → Prop} {t : TypeId} (ht : P.underlying t = some (.slice e)) (hs : (P.info? e).map (·.size) = some 1) (r : RowV w l h e (some ⟨g, 0, none⟩) n cap us) {p dl dc sl sc l1 h1 : Nat} {A : Addr}
    (s : SlV w l1 h1 (some A) sl sc vs) (hm : sl ≤ dl) (ho : p + dl ≤ n)
    (hgd : o.guard = none) (d x : Operand) (hop : o.op = .call { callee := .builtin .copy, args := #[d, x], argTypes := #[t, t] }) (hd : a.eval d = .slice (some ⟨g, p, none⟩) dl dc) (hx : a.eval x = .slice (some A) sl sc)
    (hK : ∀ w', RowV w' l h e (some ⟨g, 0, none⟩) n cap (us.take p ++ vs ++ us.drop (p + vs.length)) → Mv w w' l h → wpList P ops Q rest (a.put o.dst (goInt vs.length)) w') : wpList P ops Q (o :: rest) a w := by
  obtain ⟨r2, m2⟩ := r.setCells p (vs := vs) (by have := s.len; omega) s.one
  refine wpList_plain hgd fun _ hK' => ?_
  have hr := run_copyV (P := P) (ty := o.type) ht hs r s hm ho (dc := dc)
  unfold Oper.wp execOp
  simp only [hop, resolve, invoke, builtin, Sem.run_bind, Sem.run_pure, Result.andThen_ok, List.map_toArray, List.map_cons, List.map_nil, hd, hx, hr]
  exact hK' _ _ (hK _ r2 m2)
theorem step_copyV {P : Program} {ops : Array Oper} {o : Oper} {a : Act} {K : Act → World → Prop} {Q : Exit → Act → World → Prop} {E : Prop} {t : TypeId} (ht : P.underlying t = some (.slice e)) (hs : (P.info? e).map (·.size) = some 1) (r : RowV w l h e (some ⟨g, 0, none⟩) n cap us) {p dl dc sl sc l1 h1 : Nat} {A : Addr}
    (s : SlV w l1 h1 (some A) sl sc vs) (hm : sl ≤ dl) (ho : p + dl ≤ n)
    (hgd : o.guard = none) (d x : Operand) (hop : o.op = .call { callee := .builtin .copy, args := #[d, x], argTypes := #[t, t] }) (hd : a.eval d = .slice (some ⟨g, p, none⟩) dl dc) (hx : a.eval x = .slice (some A) sl sc)
    (hK : ∀ w', RowV w' l h e (some ⟨g, 0, none⟩) n cap (us.take p ++ vs ++ us.drop (p + vs.length)) → Mv w w' l h → K (a.put o.dst (goInt vs.length)) w') :
    if Region.wanted o (yielded ops a.tmps) = true then Oper.wp P o a w K Q else E := by
  have hw : Region.wanted o (yielded ops a.tmps) = true := by simp [Region.wanted, hgd]
  rw [if_pos hw]
  obtain ⟨r2, m2⟩ := r.setCells p (vs := vs) (by have := s.len; omega) s.one
  have hr := run_copyV (P := P) (ty := o.type) ht hs r s hm ho (dc := dc)
  unfold Oper.wp
  simp [execOp, hop, resolve, invoke, builtin, hd, hx, hr, Result.andThen]
  exact hK _ r2 m2
/-- 'copy(d, s)' at a step of a region that draws its order, its run known. -/
theorem step_copyR {P : Program} {ops : Array Oper} {o : Oper} {a : Act} {K : Act → World → Prop} {Q : Exit → Act → World → Prop} {E : Prop} {t : TypeId} (hgd : o.guard = none) (d x : Operand) (hop : o.op = .call { callee := .builtin .copy, args := #[d, x], argTypes := #[t, t] })
    {v u v' : Value} (hd : a.eval d = v) (hx : a.eval x = u) (hr : (Builtin.copy_ #[t, t] o.type #[v, u]).run P w = .ok v' w') (hK : K (a.put o.dst v') w') :
    if Region.wanted o (yielded ops a.tmps) = true then Oper.wp P o a w K Q else E := by
  have hw : Region.wanted o (yielded ops a.tmps) = true := by simp [Region.wanted, hgd]
  rw [if_pos hw]
  unfold Oper.wp
  simp [execOp, hop, resolve, invoke, builtin, hd, hx, hr, Result.andThen]
  exact hK
/-- 'append(s[:t], make([]T, k)...)' where there is no room. -/
theorem wpList_onto {P : Program} {ops : Array Oper} {rest : List Oper} {o : Oper} {a : Act} {Q : Exit → Act → World → Prop} {t tn : TypeId} {kn kq : IntKind} (ht : P.underlying t = some (.slice e)) (htn : P.underlying tn = some (.int kn)) {z : Value} {bytes : Nat}
    (hinfo : (P.info? e).map (fun i => (i.zero, i.size, i.bytes)) = some (some z, 1, bytes)) (hz1 : z.oneCell' = true) (hzc : z.cells = #[z]) {A : Addr} {l1 h1 : Nat} (s : SlV w l1 h1 (some A) n cap us) {k : Nat} (h0 : 0 < k) (hg : cap < n + k) (h63 : n + k ≤ maxLen) (hby : (n + k) * bytes ≤ 140737488355328)
    (hgd : o.guard = none) (p q : Operand) (hop : o.op = Op.call { callee := Callee.builtin Builtin.append, args := #[p, q], argTypes := #[t, tn] }) (hp : a.eval p = .slice (some A) n cap) (hq : a.eval q = .int kq (k : Int))
    (hK : ∀ cap' w', RowV w' w.heap.size w'.heap.size e (some ⟨w.heap.size, 0, none⟩) (n + k) cap' (us ++ List.replicate k z) → Below w.heap.size w w' → wpList P ops Q rest (a.put o.dst (.slice (some ⟨w.heap.size, 0, none⟩) (n + k) cap')) w') : wpList P ops Q (o :: rest) a w := by
  obtain ⟨i, hi, hz, hs, hb⟩ := info_parts hinfo
  have h9 : ((n + k : Nat) : Int) ≤ 9223372036854775807 := by unfold maxLen at h63; omega
  have hold : (Builtin.firstCells i.size n (.slice (some A) n cap)).run P w.drew = .ok us.toArray w.drew := by
    rw [hs]
    exact run_firstCells_some w.drew 1 n A n cap us (by rw [s.len]; omega) (fun j v hj => by
      obtain ⟨a', ea, _, _, hc⟩ := s.cells j v hj
      obtain rfl := Option.some.inj ea
      exact hc)
  have hkb : k * i.bytes ≤ 281474976710656 := by
    have := Nat.mul_le_mul_right bytes (show k ≤ n + k by omega)
    rw [hb]; omega
  have hrun := Lib.run_append_grow_zeros w t tn o.type e i z kq kn ht htn hi hz (some A) n cap us hold k h0 (by omega) hg h9 hkb (by rw [hb]; exact growslice_fits hg hby)
  have hge := grownCap_ge w (n + k) cap e
  have hle := grownCap_le_maxLen w (n + k) cap e h63
  refine Lib.wpList_append_run w hgd p q t tn hop _ _ hp hq _ _ hrun (hK _ _ ⟨by rw [List.length_append, List.length_replicate, s.len], hge, hle, fun u hu => ?_, .inr ⟨w.heap.size, rfl, Nat.le_refl _, by simp, ?_⟩⟩ ((Below.refl _ _).drew.alloc (Nat.le_refl _) _))
  · rcases List.mem_append.1 hu with h | h
    · exact s.one u h
    · rw [List.eq_of_mem_replicate h]; exact hz1
  · have hzk : ∀ m, (Builtin.zeroCells z.cells m).toList = List.replicate m z := fun m => by
      rw [hzc]
      simp [Builtin.zeroCells, Nat.mod_one, List.map_const']
    refine ⟨by rw [List.length_append, List.length_replicate, s.len, Nat.mul_one], .inr ⟨w.heap.size, _, _, rfl, Nat.le_refl _, heap_alloc_new w.drew _, hge, hle, ?_, ?_⟩⟩
    · rw [Array.size_append, Array.size_append, size_zeroCells, size_zeroCells, hzc]
      simp [s.len]; omega
    · rw [Array.toList_append, Array.toList_append, hzk, hzk, Nat.mul_one, List.take_append_of_le_length (by simp [s.len]), List.take_of_length_le (by simp [s.len])]
/-- 'append(s, u)' where there is no room. -/
theorem wpList_snoc_new {P : Program} {ops : Array Oper} {rest : List Oper} {o : Oper} {a : Act} {Q : Exit → Act → World → Prop} {t : TypeId} (ht : P.underlying t = some (.slice e)) {z : Value} {bytes : Nat}
    (hinfo : (P.info? e).map (fun i => (i.zero, i.size, i.bytes)) = some (some z, 1, bytes)) (hzs : z.cells.size = 1) {A B : Addr} {l1 h1 l2 h2 c : Nat} (s : SlV w l1 h1 (some A) n cap us) (s2 : SlV w l2 h2 (some B) 1 c vs) (hg : cap < n + 1) (h63 : n + 1 ≤ maxLen) (hby : (n + 1) * bytes ≤ 140737488355328)
    (hgd : o.guard = none) (p q : Operand) (hop : o.op = Op.call { callee := Callee.builtin Builtin.append, args := #[p, q], argTypes := #[t, t] }) (hp : a.eval p = .slice (some A) n cap) (hq : a.eval q = .slice (some B) 1 c)
    (hK : ∀ g cap' w', RowV w' w.heap.size w'.heap.size e (some ⟨g, 0, none⟩) (n + 1) cap' (us ++ vs) → Below w.heap.size w w' → wpList P ops Q rest (a.put o.dst (.slice (some ⟨g, 0, none⟩) (n + 1) cap')) w') : wpList P ops Q (o :: rest) a w := by
  obtain ⟨i, hi, hz, hs, hb⟩ := info_parts hinfo
  refine wpList_plain hgd fun K hK' => ?_
  obtain ⟨v', w', hr, ho, hgr⟩ := run_append_arg_grows (P := P) w t o.type e i z 1 bytes ht hi hz hs hb hzs (by decide) A n cap us (by rw [s.len, Nat.mul_one])
    (fun j v hj => by
      obtain ⟨a', ea, _, _, hc⟩ := s.cells j v hj
      obtain rfl := Option.some.inj ea
      exact hc) B 1 c vs (by rw [s2.len])
    (fun j v hj => by
      obtain ⟨a', ea, _, _, hc⟩ := s2.cells j v hj
      obtain rfl := Option.some.inj ea
      exact hc) hg h63 hby
  have hone : ∀ u ∈ us ++ vs, u.oneCell' = true := fun u hu => (List.mem_append.1 hu).elim (s.one u) (s2.one u)
  rcases ho.2 with ⟨_, h0⟩ | ⟨g, c', cur, rfl, g1, g2, g3, g4, g5⟩
  · omega
  unfold Oper.wp
  simp [execOp, hop, resolve, invoke, builtin, hp, hq, hr, Result.andThen]
  exact hK' _ _ (hK g c' w' ⟨by rw [List.length_append, s.len, s2.len], g3, g4, hone, .inr ⟨g, rfl, g1, owns_lt ho, ho⟩⟩ ⟨hgr.os, hgr.tape, hgr.output, hgr.size, fun k hk => hgr.block k hk (by simp)⟩)
/-- The rows with one put in: a new list, the new row in a block that is none of theirs. -/
theorem Grid.insert {e1 : TypeId} {ad : Option Addr} {xss : List (List Int)} {u : Value} {xs : List Int} {s h2 t cap' : Nat} (r : Grid w l s e e1 ad n cap us xss) (hu : OwnInts w s h2 e u xs) (ht : t ≤ n) (o : RowV w' w.heap.size w'.heap.size e1 (some ⟨g, 0, none⟩) (n + 1) cap' (putIn t u us)) (b : Below w.heap.size w w') (hls : l ≤ s) (hl : l ≤ w.heap.size) :
    Grid w' l w'.heap.size e e1 (some ⟨g, 0, none⟩) (n + 1) cap' (putIn t u us) (putIn t xs xss) := by
  have hul := r.out.len
  have hg : w.heap.size ≤ g := by
    obtain ⟨g', e', h', _⟩ := o.pos (by omega)
    obtain rfl := (Addr.mk.inj (Option.some.inj e')).1
    exact h'
  have hu' := ((hu.lt).below b (.inl (Nat.le_refl _))).lo hls
  have hr' : ∀ j v ys, us[j]? = some v → xss[j]? = some ys → OwnInts w' l w'.heap.size e v ys := fun j v ys hv hy => (((r.rows j v ys hv hy).lt).below b (.inl (Nat.le_refl _))).mono b.size
  have hlt : ∀ j v b', (putIn t u us)[j]? = some v → blockOf v = some b' → b' < w.heap.size := fun j v b' hv hb => by
    rcases putIn_cases (by omega) hv with ⟨_, hv⟩ | ⟨_, rfl⟩ | ⟨_, hv⟩
    · exact (r.block hv hb).2.2
    · exact (hu.block hb).2.2
    · exact (r.block hv hb).2.2
  refine ⟨o.lo hl, by rw [putIn_len _ (by rw [r.len]; exact ht), r.len], fun j v ys hv hy => ?_, fun i j v v' b' hij hv hv' hb hb' => ?_, fun j v b' g' hv hb hge => ?_⟩
  · rcases putIn_cases (by omega) hv with ⟨h1, hv⟩ | ⟨h1, rfl⟩ | ⟨h1, hv⟩
    · rcases putIn_cases (by rw [r.len]; exact ht) hy with ⟨_, hy⟩ | ⟨h2, _⟩ | ⟨h2, _⟩
      · exact hr' j v ys hv hy
      · omega
      · omega
    · rcases putIn_cases (by rw [r.len]; exact ht) hy with ⟨h2, _⟩ | ⟨_, rfl⟩ | ⟨h2, _⟩
      · omega
      · exact hu'.mono b.size
      · omega
    · rcases putIn_cases (by rw [r.len]; exact ht) hy with ⟨h2, _⟩ | ⟨h2, _⟩ | ⟨_, hy⟩
      · omega
      · omega
      · exact hr' (j - 1) v ys hv hy
  · have old : ∀ k x, us[k]? = some x → blockOf x = some b' → b' < s := fun k x hx hb => (r.block hx hb).2.1
    rcases putIn_cases (by omega) hv with ⟨h1, hw⟩ | ⟨h1, rfl⟩ | ⟨h1, hw⟩ <;> rcases putIn_cases (by omega) hv' with ⟨h2, hw'⟩ | ⟨h2, rfl⟩ | ⟨h2, hw'⟩
    · exact r.apart i j v v' b' hij hw hw' hb hb'
    · have := old _ _ hw hb; have := (hu.block hb').1; omega
    · exact r.apart i (j - 1) v v' b' (by omega) hw hw' hb hb'
    · have := old _ _ hw' hb'; have := (hu.block hb).1; omega
    · omega
    · have := old _ _ hw' hb'; have := (hu.block hb).1; omega
    · exact r.apart (i - 1) j v v' b' (by omega) hw hw' hb hb'
    · have := old _ _ hw hb; have := (hu.block hb').1; omega
    · exact r.apart (i - 1) (j - 1) v v' b' (by omega) hw hw' hb hb'
  · obtain rfl := (Addr.mk.inj (Option.some.inj hge)).1
    have := hlt j v b' hv hb
    omega
/-- The same, where the list may lie in its old block. -/
theorem OwnInts.apart {l' h' : Nat} {u : Value} {xs : List Int} (s : OwnInts w l h e u xs) (m : Mv w w' l' h') (hd : ∀ b, blockOf u = some b → b < l' ∨ h' ≤ b) : OwnInts w' l h e u xs :=
  s.imp fun ad n cap hn hu r => by
    obtain ⟨g', rfl, h1, h2, r'⟩ := r.tight hn
    subst hu
    have hn' : n ≠ 0 := by omega
    exact ((r'.mv m (by have := hd g' (by simp [blockOf, hn']); omega)).lo h1).mono (by omega)
theorem Grid.insertG {e1 : TypeId} {ad : Option Addr} {xss : List (List Int)} {u : Value} {xs : List Int} {s h2 t cap' : Nat} (r : Grid w l s e e1 ad n cap us xss) (hu : OwnInts w s h2 e u xs) (ht : t ≤ n) (o : RowV w' g (g + 1) e1 (some ⟨g, 0, none⟩) (n + 1) cap' (putIn t u us)) (p : Put w w' l s ad g) (hls : l ≤ s) (hl : l ≤ w.heap.size) :
    Grid w' l w'.heap.size e e1 (some ⟨g, 0, none⟩) (n + 1) cap' (putIn t u us) (putIn t xs xss) := by
  rcases p with ⟨rfl, g1, g2, g3, m⟩ | ⟨hg, b⟩
  · have hul := r.out.len
    have hsz := m.size
    have hub : ∀ b, blockOf u = some b → s ≤ b ∧ b < w.heap.size := fun b hb => ⟨(hu.block hb).1, (hu.block hb).2.2⟩
    have hu' : OwnInts w' l w'.heap.size e u xs := (((hu.lt).apart m fun b hb => by have := hub b hb; omega).lo hls).mono hsz
    have hr' : ∀ j v ys, us[j]? = some v → xss[j]? = some ys → OwnInts w' l w'.heap.size e v ys := fun j v ys hv hy => (((r.rows j v ys hv hy).lt).apart m fun b hb => by have := r.away j v b g hv hb rfl; omega).mono hsz
    refine ⟨(o.lo g1).mono (by omega), by rw [putIn_len _ (by rw [r.len]; exact ht), r.len], fun j v ys hv hy => ?_, fun i j v v' b' hij hv hv' hb hb' => ?_, fun j v b' g' hv hb hge => ?_⟩
    · rcases putIn_cases (by omega) hv with ⟨h1, hv⟩ | ⟨h1, rfl⟩ | ⟨h1, hv⟩
      · rcases putIn_cases (by rw [r.len]; exact ht) hy with ⟨_, hy⟩ | ⟨h2, _⟩ | ⟨h2, _⟩
        · exact hr' j v ys hv hy
        · omega
        · omega
      · rcases putIn_cases (by rw [r.len]; exact ht) hy with ⟨h2, _⟩ | ⟨_, rfl⟩ | ⟨h2, _⟩
        · omega
        · exact hu'
        · omega
      · rcases putIn_cases (by rw [r.len]; exact ht) hy with ⟨h2, _⟩ | ⟨h2, _⟩ | ⟨_, hy⟩
        · omega
        · omega
        · exact hr' (j - 1) v ys hv hy
    · have old : ∀ k x, us[k]? = some x → blockOf x = some b' → b' < s := fun k x hx hb => (r.block hx hb).2.1
      rcases putIn_cases (by omega) hv with ⟨h1, hw⟩ | ⟨h1, rfl⟩ | ⟨h1, hw⟩ <;> rcases putIn_cases (by omega) hv' with ⟨h2, hw'⟩ | ⟨h2, rfl⟩ | ⟨h2, hw'⟩
      · exact r.apart i j v v' b' hij hw hw' hb hb'
      · have := old _ _ hw hb; have := (hu.block hb').1; omega
      · exact r.apart i (j - 1) v v' b' (by omega) hw hw' hb hb'
      · have := old _ _ hw' hb'; have := (hu.block hb).1; omega
      · omega
      · have := old _ _ hw' hb'; have := (hu.block hb).1; omega
      · exact r.apart (i - 1) j v v' b' (by omega) hw hw' hb hb'
      · have := old _ _ hw hb; have := (hu.block hb').1; omega
      · exact r.apart (i - 1) (j - 1) v v' b' (by omega) hw hw' hb hb'
    · obtain rfl := (Addr.mk.inj (Option.some.inj hge)).1
      rcases putIn_cases (by omega) hv with ⟨_, hv⟩ | ⟨_, rfl⟩ | ⟨_, hv⟩
      · exact r.away _ _ _ _ hv hb rfl
      · have := hub _ hb; omega
      · exact r.away _ _ _ _ hv hb rfl
  · obtain ⟨_, _, h9⟩ : ∃ _ : g < w'.heap.size, ∃ _ : True, True := ⟨by have := o.lt; obtain ⟨_, e', _, h'⟩ := this.pos (by omega); obtain rfl := (Addr.mk.inj (Option.some.inj e')).1; exact h', trivial, trivial⟩
    exact Grid.insert r hu ht ((o.lo hg).mono (by omega)) b hls hl
end
/-- All rows the call's own. -/
theorem Grid.mix {w : World} {l h g : Nat} {e e1 : TypeId} {n cap : Nat} {us : List Value} {xss : List (List Int)} (r : Grid w l h e e1 (some ⟨g, 0, none⟩) n cap us xss) : Mix w l h e e1 g n cap us xss (fun _ => True) :=
  ⟨r.out, r.len, fun j u xs _ hu hx => r.rows j u xs hu hx, fun _ _ _ ho => absurd trivial ho, fun i j u v b hij _ _ hu hv hb => r.apart i j u v b hij hu hv hb, fun j u b _ hu hb => r.away j u b g hu hb rfl⟩
theorem Mix.grid {w : World} {l h g : Nat} {e e1 : TypeId} {n cap : Nat} {us : List Value} {xss : List (List Int)} {own : Nat → Prop} (r : Mix w l h e e1 g n cap us xss own) (ho : ∀ j, j < n → own j) : Grid w l h e e1 (some ⟨g, 0, none⟩) n cap us xss :=
  ⟨r.out, r.len, fun j u xs hu hx => r.mine j u xs (ho j (r.lt_n hu)) hu hx, fun i j u v b hij hu hv hb => r.apart i j u v b hij (ho i (r.lt_n hu)) (ho j (r.lt_n hv)) hu hv hb, fun j u b g' hu hb hg => by
    obtain rfl := (Addr.mk.inj (Option.some.inj hg)).1
    exact r.away j u b (ho j (r.lt_n hu)) hu hb⟩
end Go.Proofs.Ytlgmiojlpnoiaaa.Seq
namespace Go.Proofs.Ytlgmiojlpnoiaaa.Gen
open Go.RowKit
open Go.Proofs.Ytlgmiojlpnoiaaa.Seq Go.Proofs.Ytlgmiojlpnoiaaa.Field Go.Proofs.Ytlgmiojlpnoiaaa.Vec Go.Proofs.Ytlgmiojlpnoiaaa.Mat Go.Proofs.Ytlgmiojlpnoiaaa.Uv Go.Proofs.Ytlgmiojlpnoiaaa.Rd Go.Proofs.Ytlgmiojlpnoiaaa.UvR

abbrev G2 := Int × List (List Int)
def isGen (g : G2) : Bool := (decide (0 ≤ g.1) && decide (g.1 ≤ 1000000000000)) && (decide (1 ≤ g.2.length) && decide (g.2.length ≤ 8)) && isMat g.2 && (decide (1 ≤ colsOf g.2) && decide (colsOf g.2 ≤ 16))
def sameG (a b : G2) : Bool := (a.1 == b.1) && MatW.sameM a.2 b.2
/-- Row i of what is cut into rows of w, filled up with zeros. -/
def rowAt (w : Nat) (xs : List Int) (i : Nat) : List Int := (List.range w).map fun k => xs[i * w + k]?.getD 0
def cuts (w n : Nat) : Nat := (n + w - 1) / w
def sym (w : Nat) (xs : List Int) : List (List Int) := (List.range (cuts w xs.length)).map (rowAt w xs)
def symOk (W : Int) (n : Nat) : Bool := (decide (1 ≤ W) && decide (W ≤ 16)) && decide (n ≤ 400)
def toSym (data : List Int) (W : Int) : List (List Int) := bif symOk W data.length then sym W.toNat (uv data.length ++ data) else []
def isByte (x : Int) : Bool := decide (0 ≤ x) && decide (x ≤ 255)
def toData (m : List (List Int)) : List Int × Bool :=
  bif m.flatten.all isByte then
    bif (rdv m.flatten 0).2.2 && decide ((rdv m.flatten 0).1 ≤ m.flatten.length - (rdv m.flatten 0).2.1) then
      let d := (m.flatten.drop (rdv m.flatten 0).2.1.toNat).take (rdv m.flatten 0).1.toNat
      bif decide (toSym d (colsOf m) = m) then (d, true) else ([], false)
    else ([], false)
  else ([], false)
def splitOk (S F : Int) : Bool := (decide (1 ≤ S) && decide (S ≤ 8)) && (decide (0 ≤ F) && decide (F ≤ 999999999590))
def part (s : Nat) (l : List (List Int)) (i : Nat) : List (List Int) := (l.drop (i * s)).take s
def split (data : List Int) (W S F : Int) : List G2 := bif splitOk S F then (List.range (cuts S.toNat (toSym data W).length)).map fun (i : Nat) => (F + (i : Int), part S.toNat (toSym data W) i) else []
def chain (gs : List G2) (n : Nat) : Bool := (List.range n).all fun i => isGen (gs.getD i (0, [])) && (decide (i = 0) || decide ((gs.getD i (0, [])).1 = (gs.getD (i - 1) (0, [])).1 + 1))
def join (gs : List G2) : List Int × Bool := bif chain gs gs.length then toData (gs.flatMap (·.2)) else ([], false)

/-! rows -/
theorem rowAt_len (w : Nat) (xs : List Int) (i : Nat) : (rowAt w xs i).length = w := by simp [rowAt]
theorem cuts_le {w n : Nat} (hw : 0 < w) : n ≤ cuts w n * w := by
  unfold cuts
  have h1 := Nat.div_add_mod (n + w - 1) w
  have h2 := Nat.mod_lt (n + w - 1) hw
  rw [Nat.mul_comm] at h1
  omega
theorem cuts_lt {w n j : Nat} (hw : 0 < w) : j < cuts w n ↔ j * w < n := by
  unfold cuts
  rw [← Nat.succ_le_iff, Nat.le_div_iff_mul_le hw, Nat.succ_mul]
  omega
theorem cuts_pos {w n : Nat} (hw : 0 < w) (hn : 0 < n) : 0 < cuts w n := (cuts_lt hw).2 (by omega)
theorem cuts_of {w n j : Nat} (hw : 0 < w) (h1 : n ≤ j * w) (h2 : ∀ i, i < j → i * w < n) : cuts w n = j := by
  rcases Nat.lt_trichotomy (cuts w n) j with h | h | h
  · have := h2 _ h
    have := cuts_le (n := n) hw
    omega
  · exact h
  · have := (cuts_lt hw).1 h
    omega
theorem flat_rows (w : Nat) (xs : List Int) : ∀ j : Nat, ((List.range j).map (rowAt w xs)).flatten = (List.range (j * w)).map fun i => xs[i]?.getD 0
  | 0 => by simp
  | j + 1 => by
    rw [List.range_succ, List.map_append, List.flatten_append, flat_rows w xs j, Nat.succ_mul, List.range_add, List.map_append]
    congr 1
    simp [rowAt, List.map_map, Function.comp_def]
theorem range_pad (xs : List Int) {n : Nat} (h : xs.length ≤ n) : ((List.range n).map fun i => xs[i]?.getD 0) = xs ++ List.replicate (n - xs.length) 0 := by
  apply List.ext_getElem?
  intro i
  rw [List.getElem?_map]
  by_cases h1 : i < n
  · rw [List.getElem?_range h1]
    by_cases h2 : i < xs.length
    · rw [List.getElem?_append_left h2]; simp [List.getElem?_eq_getElem h2]
    · rw [List.getElem?_append_right (by omega), List.getElem?_replicate, if_pos (by omega)]; simp [List.getElem?_eq_none (by omega : xs.length ≤ i)]
  · rw [List.getElem?_eq_none (by simp; omega), List.getElem?_eq_none (by simp; omega)]; rfl
theorem sym_flat {w : Nat} (hw : 0 < w) (xs : List Int) : (sym w xs).flatten = xs ++ List.replicate (cuts w xs.length * w - xs.length) 0 := by
  unfold sym
  rw [flat_rows, range_pad _ (cuts_le hw)]
theorem sym_len (w : Nat) (xs : List Int) : (sym w xs).length = cuts w xs.length := by simp [sym]
theorem sym_row {w : Nat} {xs r : List Int} (h : r ∈ sym w xs) : r.length = w := by
  obtain ⟨i, _, rfl⟩ := List.mem_map.1 h
  exact rowAt_len _ _ _
theorem sym_cols {w : Nat} (hw : 0 < w) {xs : List Int} (h : 0 < xs.length) : colsOf (sym w xs) = w := by
  have h1 := cuts_pos hw h
  rw [← sym_len] at h1
  have e : (sym w xs)[0]? = some ((sym w xs)[0]'h1) := List.getElem?_eq_getElem h1
  rw [colsOf_get e]
  exact sym_row (List.getElem_mem h1)
theorem symOk_iff {W : Int} {n : Nat} : symOk W n = true ↔ (1 ≤ W ∧ W ≤ 16) ∧ n ≤ 400 := by simp [symOk]
theorem toSym_ok {d : List Int} {W : Int} (h : symOk W d.length = true) : toSym d W = sym W.toNat (uv d.length ++ d) := by unfold toSym; rw [h]; rfl
theorem toSym_no {d : List Int} {W : Int} (h : symOk W d.length = false) : toSym d W = [] := by unfold toSym; rw [h]; rfl
theorem fits_byte {x : Int} : Fits .u8 x ↔ isByte x = true := by rw [fits_u8]; simp [isByte]

/-- Bytes are restored from their symbols. -/
theorem back {d : List Int} {W : Int} (h : symOk W d.length = true) (hf : ∀ x ∈ d, Fits .u8 x) : toData (toSym d W) = (d, true) ∧ 0 < (toSym d W).length ∧ colsOf (toSym d W) = W.toNat := by
  obtain ⟨⟨h1, h2⟩, h3⟩ := symOk_iff.1 h
  have hw : 0 < W.toNat := by omega
  have hu := uv_pos d.length
  have hx : 0 < (uv d.length ++ d).length := by rw [List.length_append]; omega
  have hc : colsOf (toSym d W) = W.toNat := by rw [toSym_ok h, sym_cols hw hx]
  have hl : (toSym d W).flatten = uv d.length ++ (d ++ List.replicate (cuts W.toNat (uv d.length ++ d).length * W.toNat - (uv d.length ++ d).length) 0) := by
    rw [toSym_ok h, sym_flat hw, List.append_assoc]
  have hr : rdv (toSym d W).flatten 0 = ((d.length : Int), (((uv d.length).length : Nat) : Int), true) := by
    have := rdv_uv (ys := (toSym d W).flatten) (p := 0) (m := d.length) (by omega) (rest := d ++ List.replicate (cuts W.toNat (uv d.length ++ d).length * W.toNat - (uv d.length ++ d).length) 0) (by rw [List.drop_zero]; exact hl)
    rw [Nat.zero_add] at this
    exact this
  refine ⟨?_, by rw [toSym_ok h, sym_len]; exact cuts_pos hw hx, hc⟩
  have ha : (toSym d W).flatten.all isByte = true := by
    rw [List.all_eq_true, hl]
    intro x hx
    rcases List.mem_append.1 hx with h | h
    · exact fits_byte.1 (uv_fits _ x h)
    rcases List.mem_append.1 h with h | h
    · exact fits_byte.1 (hf x h)
    · obtain rfl := List.eq_of_mem_replicate h; rfl
  unfold toData
  rw [ha, hr]
  have hn : decide ((d.length : Int) ≤ (toSym d W).flatten.length - (((uv d.length).length : Nat) : Int)) = true := by
    rw [hl]; simp; omega
  have ht : ((toSym d W).flatten.drop (((uv d.length).length : Nat) : Int).toNat).take (d.length : Int).toNat = d := by
    rw [hl, Int.toNat_natCast, Int.toNat_natCast, List.drop_left, List.take_left]
  have hW : ((W.toNat : Nat) : Int) = W := by omega
  simp only [hn, ht, hc, hW, Bool.true_and, cond_true, decide_true]
theorem toData_back {m : List (List Int)} {d : List Int} (h : toData m = (d, true)) : toSym d (colsOf m) = m := by
  unfold toData at h
  cases e1 : m.flatten.all isByte
  · rw [e1] at h; simp at h
  rw [e1] at h
  simp only [cond_true] at h
  cases e2 : (rdv m.flatten 0).2.2 && decide ((rdv m.flatten 0).1 ≤ m.flatten.length - (rdv m.flatten 0).2.1)
  · rw [e2] at h; simp at h
  rw [e2] at h
  simp only [cond_true] at h
  by_cases e3 : toSym ((m.flatten.drop (rdv m.flatten 0).2.1.toNat).take (rdv m.flatten 0).1.toNat) (colsOf m) = m
  · rw [decide_eq_true e3] at h
    simp only [cond_true, Prod.mk.injEq, and_true] at h
    rw [← h]; exact e3
  · rw [decide_eq_false e3] at h; simp at h

/-! messages -/
theorem part_take (s : Nat) (m : List (List Int)) : ∀ j : Nat, ((List.range j).map (part s m)).flatten = m.take (j * s)
  | 0 => by simp
  | j + 1 => by
    rw [List.range_succ, List.map_append, List.flatten_append, part_take s m j, Nat.succ_mul, List.take_add]
    simp [part]
theorem part_len (s : Nat) (m : List (List Int)) (i : Nat) : (part s m i).length = min s (m.length - i * s) := by simp [part]
theorem part_mem {s i : Nat} {m : List (List Int)} {r : List Int} (h : r ∈ part s m i) : r ∈ m := List.mem_of_mem_drop (List.mem_of_mem_take h)
theorem splitOk_iff {S F : Int} : splitOk S F = true ↔ (1 ≤ S ∧ S ≤ 8) ∧ (0 ≤ F ∧ F ≤ 999999999590) := by simp [splitOk]
theorem split_no {d : List Int} {W S F : Int} (h : splitOk S F = false ∨ symOk W d.length = false) : split d W S F = [] := by
  unfold split
  cases e : splitOk S F
  · rfl
  · rcases h with h | h
    · rw [e] at h; cases h
    · obtain ⟨⟨h1, _⟩, _⟩ := splitOk_iff.1 e
      rw [toSym_no h]
      have : cuts S.toNat 0 = 0 := by
        unfold cuts
        exact Nat.div_eq_of_lt (by omega)
      simp [this]
theorem sym_el {d : List Int} {W : Int} (h : symOk W d.length = true) (hf : ∀ x ∈ d, Fits .u8 x) {r : List Int} (hr : r ∈ toSym d W) : isVec r = true ∧ r.length = W.toNat := by
  obtain ⟨⟨h1, h2⟩, h3⟩ := symOk_iff.1 h
  rw [toSym_ok h] at hr
  have hl := sym_row hr
  refine ⟨isVec_iff.2 ⟨fun x hx => ?_, by omega⟩, hl⟩
  have hm : x ∈ (sym W.toNat (uv d.length ++ d)).flatten := List.mem_flatten.2 ⟨r, hr, hx⟩
  rw [sym_flat (by omega)] at hm
  have hb : isByte x = true := by
    rcases List.mem_append.1 hm with hm | hm
    · rcases List.mem_append.1 hm with hm | hm
      · exact fits_byte.1 (uv_fits _ x hm)
      · exact fits_byte.1 (hf x hm)
    · obtain rfl := List.eq_of_mem_replicate hm; rfl
  simp [isByte] at hb
  simp [isEl]; omega
theorem sym_most {d : List Int} {W : Int} (h : symOk W d.length = true) : (toSym d W).length ≤ 406 ∧ (uv d.length ++ d).length ≤ (toSym d W).length * W.toNat := by
  obtain ⟨⟨h1, h2⟩, h3⟩ := symOk_iff.1 h
  have hu := uv_len6 (n := d.length) (by omega)
  have hw : 0 < W.toNat := by omega
  rw [toSym_ok h, sym_len]
  refine ⟨?_, cuts_le hw⟩
  have hc : (uv d.length ++ d).length ≤ 406 := by rw [List.length_append]; omega
  rcases Nat.lt_or_ge 406 (cuts W.toNat (uv d.length ++ d).length) with h | h
  · have := (cuts_lt hw).1 h
    have := Nat.le_mul_of_pos_right 406 hw
    omega
  · exact h
theorem part_gen {d : List Int} {W S F : Int} (h : symOk W d.length = true) (hs : splitOk S F = true) (hf : ∀ x ∈ d, Fits .u8 x) {i : Nat} (hi : i < cuts S.toNat (toSym d W).length) :
    isGen (F + (i : Int), part S.toNat (toSym d W) i) = true ∧ colsOf (part S.toNat (toSym d W) i) = W.toNat ∧ (i + 1 < cuts S.toNat (toSym d W).length → (part S.toNat (toSym d W) i).length = S.toNat) := by
  obtain ⟨⟨h1, h2⟩, h3⟩ := symOk_iff.1 h
  obtain ⟨⟨s1, s2⟩, f1, f2⟩ := splitOk_iff.1 hs
  have hS : 0 < S.toNat := by omega
  obtain ⟨hm, _⟩ := sym_most h
  have h5 := (cuts_lt hS).1 hi
  have hl := part_len S.toNat (toSym d W) i
  have hpos : 0 < (part S.toNat (toSym d W) i).length := by omega
  have hc : colsOf (part S.toNat (toSym d W) i) = W.toNat := by
    rw [colsOf_get (List.getElem?_eq_getElem hpos)]
    exact (sym_el h hf (part_mem (List.getElem_mem hpos))).2
  have hi2 : i ≤ i * S.toNat := Nat.le_mul_of_pos_right i hS
  refine ⟨?_, hc, fun hi1 => ?_⟩
  · have hM : isMat (part S.toNat (toSym d W) i) = true := isMat_iff.2 ⟨fun r hr => ⟨(sym_el h hf (part_mem hr)).1, by rw [hc]; exact (sym_el h hf (part_mem hr)).2⟩, by omega⟩
    unfold isGen
    simp only [hM, hc, Bool.and_eq_true, decide_eq_true_eq, and_true]
    omega
  · have := (cuts_lt hS).1 hi1
    rw [Nat.succ_mul] at this
    omega
theorem split_get {d : List Int} {W S F : Int} (hs : splitOk S F = true) : (split d W S F).length = cuts S.toNat (toSym d W).length ∧ ∀ i, i < cuts S.toNat (toSym d W).length → (split d W S F)[i]? = some (F + (i : Int), part S.toNat (toSym d W) i) := by
  unfold split
  rw [hs]
  refine ⟨by simp, fun i hi => ?_⟩
  rw [cond_true, List.getElem?_map, List.getElem?_range hi]; rfl
theorem chain_iff {gs : List G2} {n : Nat} : chain gs n = true ↔ ∀ i, i < n → isGen (gs.getD i (0, [])) = true ∧ (i = 0 ∨ (gs.getD i (0, [])).1 = (gs.getD (i - 1) (0, [])).1 + 1) := by
  unfold chain; simp
theorem split_law {d : List Int} {W S F : Int} (h : symOk W d.length = true) (hs : splitOk S F = true) (hf : ∀ x ∈ d, Fits .u8 x) :
    join (split d W S F) = (d, true) ∧ (1 < (split d W S F).length → (join ((split d W S F).take 1 ++ (split d W S F).drop 2)).2 = true → (split d W S F).length = 2 ∧ (d.length : Int) < 2 * W * S) := by
  obtain ⟨⟨h1, h2⟩, h3⟩ := symOk_iff.1 h
  obtain ⟨⟨s1, s2⟩, f1, f2⟩ := splitOk_iff.1 hs
  have hS : 0 < S.toNat := by omega
  obtain ⟨hl, hg⟩ := split_get (d := d) (W := W) hs
  constructor
  · have hc : chain (split d W S F) (split d W S F).length = true := by
      rw [chain_iff]
      intro i hi
      rw [hl] at hi
      rw [List.getD_eq_getElem?_getD, hg i hi]
      refine ⟨(part_gen h hs hf hi).1, ?_⟩
      rcases Nat.eq_zero_or_pos i with h0 | h0
      · exact .inl h0
      · right
        rw [List.getD_eq_getElem?_getD, hg (i - 1) (by omega)]
        simp only [Option.getD_some]
        omega
    unfold join
    rw [hc, cond_true]
    have e : (split d W S F).flatMap (·.2) = toSym d W := by
      unfold split
      rw [hs, cond_true, List.flatMap_def, List.map_map]
      have : ((fun g : G2 => g.2) ∘ fun (i : Nat) => (F + (i : Int), part S.toNat (toSym d W) i)) = part S.toNat (toSym d W) := rfl
      rw [this, part_take, List.take_of_length_le (cuts_le hS)]
    rw [e]
    exact (back h hf).1
  · intro h2l hj
    have hn : (split d W S F).length = 2 := by
      rcases Nat.lt_or_ge 2 (split d W S F).length with h3l | h3l
      · exfalso
        have hc : chain ((split d W S F).take 1 ++ (split d W S F).drop 2) ((split d W S F).take 1 ++ (split d W S F).drop 2).length = true := by
          cases e : chain ((split d W S F).take 1 ++ (split d W S F).drop 2) ((split d W S F).take 1 ++ (split d W S F).drop 2).length
          · unfold join at hj
            rw [e] at hj; simp at hj
          · rfl
        have h5 := (chain_iff.1 hc 1 (by simp; omega)).2
        have l1 : ((split d W S F).take 1).length = 1 := by simp; omega
        rw [List.getD_eq_getElem?_getD, List.getD_eq_getElem?_getD, List.getElem?_append_right (by omega), List.getElem?_append_left (by omega), l1, List.getElem?_drop, List.getElem?_take_of_lt (by omega), hg _ (by omega), hg _ (by omega)] at h5
        simp only [Option.getD_some] at h5
        omega
      · omega
    refine ⟨hn, ?_⟩
    rw [hl] at hn
    have hle := cuts_le (n := (toSym d W).length) hS
    rw [hn] at hle
    obtain ⟨_, hm⟩ := sym_most h
    rw [List.length_append] at hm
    have hu := uv_pos d.length
    have h6 : (toSym d W).length * W.toNat ≤ 2 * S.toNat * W.toNat := Nat.mul_le_mul_right _ hle
    have h7 : d.length < 2 * S.toNat * W.toNat := by omega
    have eS : ((S.toNat : Nat) : Int) = S := by omega
    have eW : ((W.toNat : Nat) : Int) = W := by omega
    have h8 : (d.length : Int) < ((2 * S.toNat * W.toNat : Nat) : Int) := by exact_mod_cast h7
    rw [Int.natCast_mul, Int.natCast_mul, eS, eW] at h8
    have e9 : 2 * W * S = ((2 : Nat) : Int) * S * W := by rw [Int.mul_assoc, Int.mul_assoc, Int.mul_comm W S]; rfl
    omega
end Go.Proofs.Ytlgmiojlpnoiaaa.Gen
