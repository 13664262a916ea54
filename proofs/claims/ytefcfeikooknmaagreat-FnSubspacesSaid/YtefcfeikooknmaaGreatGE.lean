/-
  Elimination, of the model: what its functions answer.
  Elimination, of the model: the walk of l7Reduce.
  Elimination, of the model: the walk of l7Reduce.
  Elimination, of the model: the reduced rows and the rank.
  Determinants, of the model: square matrices, reduced matrices, the walk of Determinant.
  Systems, of the model: the walk of SolveSystem.
  Inverses, of the model: the walk of InvertMatrix.
  Null spaces, of the model: the walk of NullSpace.
-/
import Derived.Test.YtefcfeikooknmaaGreatGD
import Derived.Test.YtefcfeikooknmaaGreatGB
import Derived.Test.YtefcfeikooknmaaGreatGA
import Derived.Deep.RegionHeld3
namespace Go.Proofs.YtefcfeikooknmaaGreat.RedW
open Go.ChangeShapes Go.WideShapes Go.ChangeAt Go.RowKit
open Go.Proofs.YtefcfeikooknmaaGreat.Seq Go.Proofs.YtefcfeikooknmaaGreat.Help Go.Proofs.YtefcfeikooknmaaGreat.Field Go.Proofs.YtefcfeikooknmaaGreat.FieldW Go.Proofs.YtefcfeikooknmaaGreat.Vec Go.Proofs.YtefcfeikooknmaaGreat.VecW Go.Proofs.YtefcfeikooknmaaGreat.Mat Go.Proofs.YtefcfeikooknmaaGreat.MatW

set_option maxRecDepth 100000 in
theorem spec_copy (w : World) {l h : Nat} {ad : Option Addr} {n cap : Nat} {m : List (List Int)} (s : Sls w l h ad n cap m) (hn : n ≤ 1099511627776) (hr : ∀ xs ∈ m, xs.length ≤ 17592186044416) :
    Calls Tryz.prog 85 #[.slice ad n cap] w (Gives2 m w) := by
  have hL := Lib.hid s.len
  have hcap := s.le
  have HR := Lib.hid hr
  clear hr
  go_enter Tryz.func85, Tryz.ntmps85
  go_wp2
  have hb0 : Below w.heap.size w (w.alloc (.cells #[] 61)) := (Below.refl _ _).alloc (Nat.le_refl _) _
  go_loopw [3, 4] (fun o i wr => ∃ (j : Nat) (ad' : Option Addr) (cap' : Nat) (us : List Value), j ≤ n ∧ i = .int .i64 j ∧ o = .slice ad' j cap' ∧ (∀ g, ad' = some ⟨g, 0, none⟩ → g < wr.heap.size) ∧
    Grid wr w.heap.size wr.heap.size 3 61 ad' j cap' us (m.take j) ∧ Below w.heap.size w wr) (fun _ i _ => n - (intOf i).toNat)
  case atStart => exact ⟨0, _, 0, [], Nat.zero_le _, rfl, rfl, (fun g hg => by obtain rfl := (Addr.mk.inj (Option.some.inj hg)).1; simp), by simpa using Grid.nil _ _ _ _ _ _, hb0⟩
  case round =>
    obtain ⟨j, ad', cap', us, hj, rfl, rfl, had, hr, hb⟩ := hrel
    have zb := hb.size
    by_cases hlt : j < n
    · obtain ⟨a1, ad3, n3, cap3, xs, e1, hx, hcl⟩ := (s.below hb (.inr (Nat.le_refl _))).at_ hlt
      subst e1
      have hn3 : n3 ≤ 17592186044416 := by rw [← hx.sl.len]; exact HR.out _ (List.mem_of_getElem? hx.get)
      have HT := Lib.hid (take_more hx.get)
      have hsx := (hx.sl.alloc (.cells #[] 3))
      have hcl2 := (((Below.refl wr.heap.size wr).alloc (Nat.le_refl _) (.cells #[] 3)).cell (World.block_lt_of_cell? _ _ hcl)).trans hcl
      clear hx
      go_wp2_with (first
        | (at_builtin; refine wpList_app (Row.nil (wr.alloc (.cells #[] 3)) wr.heap.size wr.heap.size .i64 3 (some ⟨wr.heap.size, 0, none⟩)) hsx Tryz.underlying61 info_int (by unfold maxLen; omega) (by omega) (by simp) rfl _ _ rfl rfl rfl ?_; intro ad4 cap4 w4 r4 m4
           have hb4 : Below wr.heap.size wr w4 := ((Below.refl _ wr).alloc (Nat.le_refl _) (.cells #[] 3)).trans (m4.below (Nat.le_refl _) (by simp))
           have hz4 := hb4.size
           rw [List.nil_append, Nat.zero_add] at r4
           have hr4 := (hr.below hb4 (.inr (Nat.le_refl _))).alloc (.cells #[.slice ad4 n3 cap4] 61)
           have ho4 := (OwnInts.of r4).below ((Below.refl _ w4).alloc (Nat.le_refl _) (.cells #[.slice ad4 n3 cap4] 61)) (.inl (Nat.le_refl _)))
        | (at_builtin; refine wpList_snoc hr4.out (u := .slice ad4 n3 cap4) (by rw [World.cell?_alloc_new]; rfl) rfl Tryz.underlying24 info_ints rfl (by unfold maxLen; omega) (by omega) rfl _ _ rfl rfl rfl ?_; intro g5 cap5 w5 o5 p5))
      have hA := hr4.add ho4 had o5 p5 (by simp; omega) zb
      have hb5 := ((hb.trans (hb4.mono zb)).alloc (by omega) (.cells #[.slice ad4 n3 cap4] 61)).trans (p5.below (Nat.le_refl _) (by simp; omega))
      go_roundw
      case rel => exact ⟨j + 1, _, _, _, by omega, by go_num, rfl, hA.2, HT.out ▸ hA.1, hb5⟩
      case measure => simp [intOf]; omega
    · obtain rfl : j = n := by omega
      rw [List.take_of_length_le (Nat.le_of_eq hL.out)] at hr
      have HG := Lib.hid hr
      clear hr
      go_wp2
      go_ret
      exact ⟨_, _, _, _, rfl, HG.out, hb⟩
/-- Rows in own memory; two of them may be one slice. -/
structure Rws (w : World) (l h : Nat) (e e1 : TypeId) (g n cap : Nat) (us : List Value) (xss : List (List Int)) : Prop where
  out : RowV w l h e1 (some ⟨g, 0, none⟩) n cap us
  len : xss.length = n
  rows : ∀ (j : Nat) (u : Value) (xs : List Int), us[j]? = some u → xss[j]? = some xs → OwnInts w l h e u xs
  away : ∀ (j : Nat) (u : Value) (b : Nat), us[j]? = some u → blockOf u = some b → b ≠ g
section
variable {w w' : World} {l h l' h' g : Nat} {e e1 : TypeId} {n cap : Nat} {us : List Value} {xss : List (List Int)} {u : Value} {xs : List Int}
theorem Rws.of {ad : Option Addr} (r : Grid w l h e e1 ad n cap us xss) (hn : 0 < n) : ∃ g, ad = some ⟨g, 0, none⟩ ∧ Rws w l h e e1 g n cap us xss := by
  obtain ⟨g, rfl, _⟩ := r.out.pos hn
  exact ⟨g, rfl, r.out, r.len, r.rows, fun j u b hu hb => r.away j u b g hu hb rfl⟩
theorem Rws.below {B : Nat} (r : Rws w l h e e1 g n cap us xss) (m : Below B w w') (hB : h ≤ B ∨ w.heap.size ≤ B) : Rws w' l h e e1 g n cap us xss :=
  ⟨r.out.below m hB, r.len, fun j u xs hu hx => (r.rows j u xs hu hx).below m hB, r.away⟩
theorem Rws.mono (r : Rws w l h e e1 g n cap us xss) (h2 : h ≤ h') : Rws w l h' e e1 g n cap us xss :=
  ⟨r.out.mono h2, r.len, fun j u xs hu hx => (r.rows j u xs hu hx).mono h2, r.away⟩
theorem Rws.drewN (r : Rws w l h e e1 g n cap us xss) (k : Nat) : Rws (w.drewN k) l h e e1 g n cap us xss :=
  r.below (B := w.heap.size) (below_drewN (Below.refl _ _) k) (.inr (Nat.le_refl _))
theorem Rws.sls (r : Rws w l h e e1 g n cap us xss) : Sls w l h (some ⟨g, 0, none⟩) n cap xss := by
  refine ⟨r.len, r.out.le, r.out.big, r.out.sl.nil, fun j xs hx => ?_⟩
  have hj : j < us.length := by rw [r.out.len, ← r.len]; exact (List.getElem?_eq_some_iff.1 hx).1
  obtain ⟨a, ea, h1, h2, h3⟩ := r.out.sl.cells j us[j] (List.getElem?_eq_getElem hj)
  exact ⟨a, us[j], ea, h1, h2, h3, (r.rows j _ _ (List.getElem?_eq_getElem hj) hx).ints⟩
theorem Rws.gpos (r : Rws w l h e e1 g n cap us xss) (hn : 0 < n) : l ≤ g ∧ g < h := by
  obtain ⟨_, hge, hg1, hg2⟩ := r.out.pos hn
  obtain rfl := (Addr.mk.inj (Option.some.inj hge)).1
  exact ⟨hg1, hg2⟩
theorem Rws.block (r : Rws w l h e e1 g n cap us xss) {j b : Nat} (hu : us[j]? = some u) (hb : blockOf u = some b) : l ≤ b ∧ b < h ∧ b < w.heap.size := by
  have h1 := (List.getElem?_eq_some_iff.1 hu).1
  have h2 : j < xss.length := by rw [r.len, ← r.out.len]; exact h1
  exact (r.rows j _ _ hu (List.getElem?_eq_getElem h2)).block hb
/-- One row: the slice at hand, its numbers, its cell. -/
theorem Rws.at_ (r : Rws w l h e e1 g n cap us xss) {j : Nat} (hj : j < n) : ∃ ad' n' cap' xs, us[j]? = some (.slice ad' n' cap') ∧ xss[j]? = some xs ∧ Sl w l h .i64 ad' n' cap' xs ∧ OwnInts w l h e (.slice ad' n' cap') xs ∧ w.cell? ⟨g, j, none⟩ = some (.slice ad' n' cap') ∧ w.frozen? ⟨g, j, none⟩ = false := by
  have h2 : j < xss.length := by rw [r.len]; exact hj
  obtain ⟨u, hu, hc, hf⟩ := r.out.there hj
  have ho := r.rows j u _ hu (List.getElem?_eq_getElem h2)
  obtain ⟨ad', n', cap', rfl, s⟩ := ho.ints
  exact ⟨ad', n', cap', _, hu, List.getElem?_eq_getElem h2, s, ho, hc, hf⟩
theorem OwnInts.keep {j : Nat} {v : Value} {ys : List Int} (ho : OwnInts w l h e v ys) (hb : ∀ b, blockOf v = some b → b ≠ g) (u : Value) : OwnInts (w.setCell ⟨g, j, none⟩ u) l h e v ys := by
  have mg : Mv w (w.setCell ⟨g, j, none⟩ u) g (g + 1) := (Mv.refl w g (g + 1)).setCell (Nat.le_refl _) (Nat.lt_succ_self _) u
  refine ho.imp fun ad' n' cap' hn hv hr => ?_
  subst hv
  obtain ⟨b, rfl, b1, b2, hr'⟩ := hr.tight hn
  have hn' : n' ≠ 0 := by omega
  have hbg := hb b (by simp [blockOf, hn'])
  exact ((hr'.mv mg (by omega)).lo b1).mono (by omega)
theorem OwnInts.sl {ad : Option Addr} {n cap : Nat} (ho : OwnInts w l h e (.slice ad n cap) xs) : Sl w l h .i64 ad n cap xs := by
  obtain ⟨ad', n', cap', e1, s⟩ := ho.ints
  obtain ⟨rfl, rfl, rfl⟩ := Value.slice.inj e1
  exact s
/-- A row is put in place. -/
theorem Rws.put {j : Nat} (r : Rws w l h e e1 g n cap us xss) (hj : j < n) (hu : OwnInts w l h e u xs) (hg : ∀ b, blockOf u = some b → b ≠ g) :
    Rws (w.setCell ⟨g, j, none⟩ u) l h e e1 g n cap (us.set j u) (xss.set j xs) ∧ Mv w (w.setCell ⟨g, j, none⟩ u) l h := by
  obtain ⟨h1, h2⟩ := r.out.set hj hu.one
  obtain ⟨_, hge, hg1, hg2⟩ := r.out.pos (by omega)
  obtain rfl := (Addr.mk.inj (Option.some.inj hge)).1
  have mg : Mv w (w.setCell ⟨g, j, none⟩ u) g (g + 1) := (Mv.refl w g (g + 1)).setCell (Nat.le_refl _) (Nat.lt_succ_self _) u
  have keep : ∀ v ys, OwnInts w l h e v ys → (∀ b, blockOf v = some b → b ≠ g) → OwnInts (w.setCell ⟨g, j, none⟩ u) l h e v ys := by
    intro v ys ho hb
    refine ho.imp fun ad' n' cap' hn hv hr => ?_
    subst hv
    obtain ⟨b, rfl, b1, b2, hr'⟩ := hr.tight hn
    have hn' : n' ≠ 0 := by omega
    have hbg := hb b (by simp [blockOf, hn'])
    exact ((hr'.mv mg (by omega)).lo b1).mono (by omega)
  refine ⟨⟨h1, by rw [List.length_set]; exact r.len, ?_, ?_⟩, h2⟩
  · intro i v ys hv hy
    rw [List.getElem?_set] at hv hy
    by_cases hij : j = i
    · subst hij
      rw [if_pos rfl] at hv hy
      split at hv
      · split at hy
        · obtain rfl := Option.some.inj hv
          obtain rfl := Option.some.inj hy
          exact keep _ _ hu hg
        · cases hy
      · cases hv
    · rw [if_neg hij] at hv hy
      exact keep _ _ (r.rows i v ys hv hy) fun b hb => r.away i v b hv hb
  · intro i v b hv hb
    rw [List.getElem?_set] at hv
    by_cases h3 : j = i
    · subst h3
      rw [if_pos rfl] at hv
      split at hv
      · obtain rfl := Option.some.inj hv; exact hg b hb
      · cases hv
    · rw [if_neg h3] at hv
      exact r.away i v b hv hb
end
/-- Rows in own memory, none of them in the list's block; two of them may be one slice; the list has been built by appends. -/
structure Loose (w : World) (l h : Nat) (e e1 : TypeId) (ad : Option Addr) (n cap : Nat) (us : List Value) (xss : List (List Int)) : Prop where
  out : RowV w l h e1 ad n cap us
  len : xss.length = n
  rows : ∀ (j : Nat) (u : Value) (xs : List Int), us[j]? = some u → xss[j]? = some xs → OwnInts w l h e u xs
  away : ∀ (j : Nat) (u : Value) (b g : Nat), us[j]? = some u → blockOf u = some b → ad = some ⟨g, 0, none⟩ → b ≠ g
section
variable {w w' : World} {l h l' h' : Nat} {e e1 : TypeId} {ad : Option Addr} {n cap : Nat} {us : List Value} {xss : List (List Int)} {u : Value} {xs : List Int}
theorem Rws.loose {g : Nat} (r : Rws w l h e e1 g n cap us xss) : Loose w l h e e1 (some ⟨g, 0, none⟩) n cap us xss :=
  ⟨r.out, r.len, r.rows, fun j u b g' hu hb hg => by obtain rfl := (Addr.mk.inj (Option.some.inj hg)).1; exact r.away j u b hu hb⟩
theorem _root_.Go.Proofs.YtefcfeikooknmaaGreat.Seq.Grid.loose (r : Grid w l h e e1 ad n cap us xss) : Loose w l h e e1 ad n cap us xss := ⟨r.out, r.len, r.rows, r.away⟩
theorem Loose.nil (w : World) (l h : Nat) (e e1 : TypeId) (ad : Option Addr) : Loose w l h e e1 ad 0 0 [] [] := (Grid.nil w l h e e1 ad).loose
theorem Loose.sls (r : Loose w l h e e1 ad n cap us xss) : Sls w l h ad n cap xss := by
  refine ⟨r.len, r.out.le, r.out.big, r.out.sl.nil, fun j xs hx => ?_⟩
  have hj : j < us.length := by rw [r.out.len, ← r.len]; exact (List.getElem?_eq_some_iff.1 hx).1
  obtain ⟨a, ea, h1, h2, h3⟩ := r.out.sl.cells j us[j] (List.getElem?_eq_getElem hj)
  exact ⟨a, us[j], ea, h1, h2, h3, (r.rows j _ _ (List.getElem?_eq_getElem hj) hx).ints⟩
theorem Loose.mv (r : Loose w l h e e1 ad n cap us xss) (m : Mv w w' l' h') (hd : h ≤ l' ∨ h' ≤ l) : Loose w' l h e e1 ad n cap us xss :=
  ⟨r.out.mv m hd, r.len, fun j u xs hu hx => (r.rows j u xs hu hx).mv m hd, r.away⟩
theorem Loose.below {B : Nat} (r : Loose w l h e e1 ad n cap us xss) (m : Below B w w') (hB : h ≤ B ∨ w.heap.size ≤ B) : Loose w' l h e e1 ad n cap us xss :=
  ⟨r.out.below m hB, r.len, fun j u xs hu hx => (r.rows j u xs hu hx).below m hB, r.away⟩
theorem Loose.mono (r : Loose w l h e e1 ad n cap us xss) (h1 : l' ≤ l) (h2 : h ≤ h') : Loose w l' h' e e1 ad n cap us xss :=
  ⟨(r.out.lo h1).mono h2, r.len, fun j u xs hu hx => ((r.rows j u xs hu hx).lo h1).mono h2, r.away⟩
theorem Loose.lt (r : Loose w l h e e1 ad n cap us xss) : Loose w l w.heap.size e e1 ad n cap us xss :=
  ⟨r.out.lt, r.len, fun j u xs hu hx => (r.rows j u xs hu hx).lt, r.away⟩
theorem Loose.block (r : Loose w l h e e1 ad n cap us xss) {j b : Nat} (hu : us[j]? = some u) (hb : blockOf u = some b) : l ≤ b ∧ b < h ∧ b < w.heap.size := by
  have h1 := (List.getElem?_eq_some_iff.1 hu).1
  have h2 : j < xss.length := by rw [r.len, ← r.out.len]; exact h1
  exact (r.rows j _ _ hu (List.getElem?_eq_getElem h2)).block hb
/-- A row more, from behind the list's memory. -/
theorem Loose.snoc {g cap' l2 h2 : Nat} (r : Loose w l h e e1 ad n cap us xss) (hu : OwnInts w l2 h2 e u xs)
    (o : RowV w' g (g + 1) e1 (some ⟨g, 0, none⟩) (n + 1) cap' (us ++ [u])) (p : Put w w' l h ad g) (hl : l ≤ w.heap.size) (hl2 : l ≤ l2) (hh : h ≤ l2) :
    Loose w' l w'.heap.size e e1 (some ⟨g, 0, none⟩) (n + 1) cap' (us ++ [u]) (xss ++ [xs]) := by
  have hus := r.out.len
  have keep : ∀ v ys, OwnInts w l w.heap.size e v ys → (∀ b, blockOf v = some b → ad = some ⟨b, 0, none⟩ → h ≤ b) → OwnInts w' l w'.heap.size e v ys := by
    intro v ys ho hb
    rcases p with ⟨rfl, q1, q2, q3, m⟩ | ⟨q, b⟩
    · refine ho.imp fun ad' n' cap' hn hv hr => ?_
      subst hv
      obtain ⟨c, rfl, b1, b2, hr'⟩ := hr.tight hn
      have hn' : n' ≠ 0 := by omega
      have hbg : c ≠ g := fun hh => by have := hb c (by simp [blockOf, hn']) (by rw [hh]); omega
      exact ((hr'.mv m (by omega)).lo b1).mono (by have := m.size; omega)
    · exact (ho.below b (.inl (Nat.le_refl _))).mono b.size
  have hgl : l ≤ g := by
    rcases p with ⟨_, q1, _⟩ | ⟨q, _⟩ <;> omega
  have part : ∀ {α : Type} (L : List α) (x : α) (j : Nat) (v : α), (L ++ [x])[j]? = some v → (j < L.length ∧ L[j]? = some v) ∨ (j = L.length ∧ v = x) := fun L x j v hv => by
    by_cases hj : j < L.length
    · rw [List.getElem?_append_left hj] at hv; exact .inl ⟨hj, hv⟩
    · rw [List.getElem?_append_right (by omega)] at hv
      rcases Nat.eq_zero_or_pos (j - L.length) with h0 | h0
      · rw [h0] at hv; exact .inr ⟨by omega, by simpa using hv.symm⟩
      · rw [List.getElem?_eq_none (by simp; omega)] at hv; cases hv
  refine ⟨((o.lo hgl).lt), by rw [List.length_append, r.len]; rfl, fun j v ys hv hy => ?_, fun j v b g' hv hb hge => ?_⟩
  · rcases part us u j v hv with ⟨hj, hv⟩ | ⟨hj, rfl⟩
    · rcases part xss xs j ys hy with ⟨_, hy⟩ | ⟨hj2, _⟩
      · exact keep v ys ((r.rows j v ys hv hy).lt) fun b hb hge => absurd rfl (r.away j v b b hv hb hge)
      · rw [r.len, ← hus] at hj2; omega
    · rcases part xss xs j ys hy with ⟨hj2, _⟩ | ⟨_, rfl⟩
      · rw [r.len, ← hus] at hj2; omega
      · exact keep v ys ((hu.lo hl2).lt) fun b hb _ => by have := (hu.block hb).1; omega
  · obtain rfl := (Addr.mk.inj (Option.some.inj hge)).1
    intro hbg
    subst hbg
    rcases part us u j v hv with ⟨hj, hv⟩ | ⟨hj, rfl⟩
    · rcases p with ⟨rfl, _⟩ | ⟨q, _⟩
      · exact r.away j v b b hv hb rfl rfl
      · have := (r.block hv hb).2.2; omega
    · rcases p with ⟨rfl, _, q2, _⟩ | ⟨q, _⟩
      · have := (hu.block hb).1; omega
      · have := (hu.block hb).2.2; omega
end
/-- New memory that reads as these rows. -/
def Reads2 (xss : List (List Int)) (w : World) (e : Ending) (w' : World) : Prop :=
  ∃ ad n cap, e = .returned (.slice ad n cap) ∧ Sls w' w.heap.size w'.heap.size ad n cap xss ∧ Below w.heap.size w w'
end Go.Proofs.YtefcfeikooknmaaGreat.RedW
namespace Go.Proofs.YtefcfeikooknmaaGreat.RedW
open Go.ChangeShapes Go.WideShapes Go.ChangeAt Go.RowKit
open Go.Proofs.YtefcfeikooknmaaGreat.Seq Go.Proofs.YtefcfeikooknmaaGreat.Help Go.Proofs.YtefcfeikooknmaaGreat.Field Go.Proofs.YtefcfeikooknmaaGreat.FieldW Go.Proofs.YtefcfeikooknmaaGreat.Vec Go.Proofs.YtefcfeikooknmaaGreat.VecW Go.Proofs.YtefcfeikooknmaaGreat.Mat Go.Proofs.YtefcfeikooknmaaGreat.MatW Go.Proofs.YtefcfeikooknmaaGreat.MatP Go.Proofs.YtefcfeikooknmaaGreat.Lin Go.Proofs.YtefcfeikooknmaaGreat.Rref

theorem vec_get {n j : Nat} (f : Nat → F) (h : j < n) : (vec n f)[j]? = some (em (f j)) := by unfold vec; simp [h]
theorem mk_get {n c j : Nat} (f : Nat → V) (h : j < n) : (mk n c f)[j]? = some (vec c (f j)) := by unfold mk; simp [h]
theorem mk_set {n c j : Nat} (f : Nat → V) (v : V) (h : j < n) : (mk n c f).set j (vec c v) = mk n c (fun l => if l = j then v else f l) := by
  apply List.ext_getElem?
  intro i
  rw [List.getElem?_set]
  by_cases hij : j = i
  · subst hij
    rw [if_pos rfl, if_pos (by rw [mk_len]; exact h), mk_get _ h, if_pos rfl]
  · rw [if_neg hij]
    unfold mk
    rw [List.getElem?_map, List.getElem?_map]
    cases hi : (List.range n)[i]? with
    | none => rfl
    | some x =>
      obtain ⟨h1, h2⟩ := List.getElem?_eq_some_iff.1 hi
      obtain rfl : i = x := by simpa using h2
      simp only [Option.map_some]
      rw [if_neg (fun e : i = j => hij e.symm)]
theorem mk_take {n a c : Nat} (f : Nat → V) (h : a ≤ n) : (mk n c f).take a = mk a c f := by
  unfold mk
  rw [← List.map_take, List.take_range, Nat.min_eq_left h]
/-- A row that is cleared at a column. -/
theorem clear_row {c k : Nat} (u v : V) (hc : c ≤ 40) (h : u k ≠ 0) : addScaled (vec c u) (vec c v) (1019 - em (u k)) = vec c fun j => u j + v j * (0 - u k) := by
  have e : 1019 - em (u k) = em (0 - u k) := by
    rw [em_sub, em_0]
    have h1 := em_in (u k)
    have h2 : em (u k) ≠ 0 := fun e => h (em_inj e)
    omega
  rw [e, adds_vec _ _ _ hc]
/-- A pivot's row. -/
theorem pivot_row {c k : Nat} (v : V) (hc : c ≤ 40) (h : v k ≠ 0) : scale (vec c v) (Field.inv (em (v k))) = vec c fun j => v j * invF (v k) := by
  rw [← em_invF _ h, vec_ems, scale_ems (by simpa using hc), vec_ems]
  congr 1
  rw [List.map_map]; rfl
theorem full {m k k' : Nat} {M : Nat → V} {p : Nat → Nat} (h : Elim m m k M p) (hk : k ≤ k') : Elim m m k' M p :=
  ⟨h.le, fun i hi => Nat.lt_of_lt_of_le (h.lt i hi) hk, h.up, h.one, h.zero, h.ahead, fun l j h1 h2 _ => by omega⟩
/-- The rows while one column is cleared: up to row i it is done. -/
def part (M : Nat → V) (A q K i l : Nat) : V := if l < i then cleared invF M A q K l else if l = A then cleared invF M A q K A else swapped M A q l
theorem part_own {M : Nat → V} {A q K i : Nat} (h : i ≠ A) : part M A q K i i = swapped M A q i := by unfold part; rw [if_neg (by omega), if_neg h]
theorem part_piv {M : Nat → V} {A q K i : Nat} : part M A q K i A = cleared invF M A q K A := by
  unfold part
  by_cases h : A < i
  · rw [if_pos h]
  · rw [if_neg h, if_pos rfl]
theorem part_more {M : Nat → V} {A q K i : Nat} (h : i ≠ A) (l : Nat) : part M A q K (i + 1) l = if l = i then (fun j => swapped M A q i j + cleared invF M A q K A j * (0 - swapped M A q i K)) else part M A q K i l := by
  unfold part
  by_cases e : l = i
  · subst e
    rw [if_pos (by omega), if_pos rfl]
    funext j
    rw [cleared_o _ _ _ _ _ h, cleared_a]
  · rw [if_neg e]
    by_cases h1 : l < i
    · rw [if_pos (by omega), if_pos h1]
    · rw [if_neg (by omega), if_neg h1]
theorem part_same {M : Nat → V} {A q K i : Nat} (h : i = A ∨ swapped M A q i K = 0) (l : Nat) : part M A q K (i + 1) l = part M A q K i l := by
  by_cases e : i = A
  · subst e
    unfold part
    by_cases h1 : l < i
    · rw [if_pos (by omega), if_pos h1]
    · rw [if_neg h1]
      by_cases h2 : l = i
      · subst h2; rw [if_pos (by omega), if_pos rfl]
      · rw [if_neg (by omega), if_neg h2]
  · rw [part_more e]
    by_cases h1 : l = i
    · subst h1
      rw [if_pos rfl, part_own e]
      funext j
      show swapped M A q l j + cleared invF M A q K A j * (0 - swapped M A q l K) = swapped M A q l j
      rw [h.resolve_left e]; grind
    · rw [if_neg h1]
theorem part_0 (M : Nat → V) (A q K l : Nat) : part M A q K 0 l = if l = A then cleared invF M A q K A else if l = q then M A else M l := by
  unfold part
  rw [if_neg (by omega)]
  by_cases h : l = A
  · rw [if_pos h, if_pos h]
  · rw [if_neg h, if_neg h]; unfold swapped; rw [if_neg h]
theorem part_all {M : Nat → V} {A q K n l : Nat} (h : l < n) : part M A q K n l = cleared invF M A q K l := if_pos h
theorem span_self (n : Nat) (M : Nat → V) : ∀ l, l < n → Span n M (M l) := fun _ h => span_mem h
end Go.Proofs.YtefcfeikooknmaaGreat.RedW
namespace Go.Proofs.YtefcfeikooknmaaGreat.RedW
open Go.ChangeShapes Go.WideShapes Go.ChangeAt Go.RowKit
open Go.Proofs.YtefcfeikooknmaaGreat.Drawn Go.Proofs.YtefcfeikooknmaaGreat.Seq Go.Proofs.YtefcfeikooknmaaGreat.Help Go.Proofs.YtefcfeikooknmaaGreat.Field Go.Proofs.YtefcfeikooknmaaGreat.FieldW Go.Proofs.YtefcfeikooknmaaGreat.Vec Go.Proofs.YtefcfeikooknmaaGreat.VecW Go.Proofs.YtefcfeikooknmaaGreat.Mat Go.Proofs.YtefcfeikooknmaaGreat.MatW Go.Proofs.YtefcfeikooknmaaGreat.MatP Go.Proofs.YtefcfeikooknmaaGreat.Lin Go.Proofs.YtefcfeikooknmaaGreat.Rref

theorem sls_take {w : World} {l h : Nat} {ad : Option Addr} {n cap A : Nat} {xss : List (List Int)} (s : Sls w l h ad n cap xss) (hA : A ≤ n) : Sls w l h ad A cap (xss.take A) := by
  refine ⟨by rw [List.length_take, s.len]; omega, Nat.le_trans hA s.le, s.big, s.nil, fun j xs hx => ?_⟩
  rw [List.getElem?_take] at hx
  split at hx
  · exact s.cells j xs hx
  · cases hx
/-- New memory that reads as these rows; where none has been left out, their list may be appended to. -/
def ReadsG (all : Prop) (xss : List (List Int)) (w : World) (e : Ending) (w' : World) : Prop :=
  ∃ ad n cap, e = .returned (.slice ad n cap) ∧ Sls w' w.heap.size w'.heap.size ad n cap xss ∧ Below w.heap.size w w' ∧ (all → ∃ us, Loose w' w.heap.size w'.heap.size 3 61 ad n cap us xss)
def ReducedG (m : List (List Int)) (K0 : Nat) (w : World) (e : Ending) (w' : World) : Prop :=
  ∃ (A : Nat) (M : Nat → V) (p : Nat → Nat), Elim m.length A K0 M p ∧ (∀ l, l < m.length → Span m.length (ent m) (M l)) ∧ (∀ l, l < m.length → Span m.length M (ent m l)) ∧ ReadsG (A = m.length) (mk A (colsOf m) M) w e w'
/-- What elimination hands back: the first rows of an eliminated matrix with the same span. -/
def Reduced (m : List (List Int)) (K0 : Nat) (w : World) (e : Ending) (w' : World) : Prop :=
  ∃ (A : Nat) (M : Nat → V) (p : Nat → Nat), Elim m.length A K0 M p ∧ (∀ l, l < m.length → Span m.length (ent m) (M l)) ∧ (∀ l, l < m.length → Span m.length M (ent m l)) ∧ Reads2 (mk A (colsOf m) M) w e w'
set_option maxRecDepth 100000 in
set_option maxHeartbeats 1600000 in
theorem spec_reduceG (w : World) {l h : Nat} {ad : Option Addr} {n cap : Nat} {m : List (List Int)} (s : Sls w l h ad n cap m) (hm : isMat m = true) (K0 : Nat) (hK : 0 < m.length → K0 ≤ colsOf m) :
    Calls Tryz.prog 84 #[.slice ad n cap, .int .i64 K0] w (ReducedG m K0 w) := by
  have hL := s.len
  have hn40 := (isMat_iff.1 hm).2
  have hc40 := colsOf_le hm
  have hsh : ∀ xs ∈ m, xs.length ≤ 17592186044416 := fun xs hx => by have := (isVec_iff.1 ((isMat_iff.1 hm).1 xs hx).1).2; omega
  rw [hL] at hn40
  have HC := Lib.hid (spec_copy w s (by omega) hsh)
  have HM := Lib.hid (mk_ent hm)
  clear hsh
  unfold ReducedG
  rw [hL] at HM hK ⊢
  obtain ⟨c, hc⟩ : ∃ c, colsOf m = c := ⟨_, rfl⟩
  rw [hc] at HM hK hc40 ⊢
  generalize hM0 : ent m = M0 at *
  clear hc hM0 hm s hL
  go_enter Tryz.func84, Tryz.ntmps84
  go_wp2_with fail
  go_at_call 85
  refine HC.out.mono ?_
  rintro e w1 ⟨ad1, n1, cap1, us, rfl, r1, b1⟩
  have hr := HM.out ▸ r1
  obtain rfl : n1 = n := by rw [← hr.len, mk_len]
  have z1 := b1.size
  clear HC r1
  rcases Nat.eq_zero_or_pos n1 with hn0 | hn0
  · subst hn0
    have HS := Lib.hid (sls_take (A := 0) hr.sls (Nat.le_refl _))
    have HLO := Lib.hid (show Loose w1 w.heap.size w1.heap.size 3 61 ad1 0 cap1 us (mk 0 c M0) from hr.loose)
    have hle9 := hr.out.le
    have hbg9 := hr.out.big
    unfold maxLen at hbg9
    clear HM hr
    go_wp2
    go_loopw [6, 7] (fun a k wr => a = .int .i64 (0 : Nat) ∧ k = .int .i64 (0 : Nat) ∧ wr = w1) (fun _ _ _ => 0)
    case atStart => exact ⟨rfl, rfl, rfl⟩
    case round =>
      obtain ⟨rfl, rfl, rfl⟩ := hrel
      by_cases hK0 : K0 = 0
      · subst hK0
        go_wp2
        go_ret
        exact ⟨0, M0, fun _ => 0, Elim.start _ _ _, span_self _ _, span_self _ _, _, _, _, rfl, HS.out.mono (Nat.le_refl _) (Nat.le_refl _), b1, fun _ => ⟨_, HLO.out⟩⟩
      · have hK1 : 0 < K0 := by omega
        go_wp2
        go_ret
        exact ⟨0, M0, fun _ => 0, full (Elim.start _ _ _) (Nat.zero_le _), span_self _ _, span_self _ _, _, _, _, rfl, HS.out.mono (Nat.le_refl _) (Nat.le_refl _), b1, fun _ => ⟨_, HLO.out⟩⟩
  replace hK := hK hn0
  obtain ⟨g, rfl, hr1⟩ := Rws.of hr hn0
  clear HM hr
  go_wp2
  go_loopw [6, 7] (fun a k wr => ∃ (A K : Nat) (M : Nat → V) (p : Nat → Nat) (vs : List Value), A ≤ n1 ∧ K ≤ K0 ∧ a = .int .i64 A ∧ k = .int .i64 K ∧ Rws wr w.heap.size wr.heap.size 3 61 g n1 cap1 vs (mk n1 c M) ∧
    Hid (Elim n1 A K M p ∧ (∀ l, l < n1 → Span n1 M0 (M l)) ∧ ∀ l, l < n1 → Span n1 M (M0 l)) ∧ Below w.heap.size w wr) (fun _ k _ => K0 - (intOf k).toNat)
  case atStart => exact ⟨0, 0, M0, fun _ => 0, us, Nat.zero_le _, Nat.zero_le _, rfl, rfl, hr1, ⟨Elim.start _ _ _, span_self _ _, span_self _ _⟩, b1⟩
  case round =>
    obtain ⟨A, K, M, p, vs, hA, hK', rfl, rfl, hr, HE, hb⟩ := hrel
    have zb := hb.size
    by_cases hKK : K = K0
    · subst hKK
      have HS := Lib.hid (sls_take hr.sls hA)
      have HLO := Lib.hid hr.loose
      have hle9 := hr.out.le
      have hbg9 := hr.out.big
      unfold maxLen at hbg9
      have HF := Lib.hid (HE.out)
      clear hr HE
      go_wp2
      go_ret
      exact ⟨A, M, p, HF.out.1, HF.out.2.1, HF.out.2.2, _, _, _, rfl, by rw [← mk_take M hA]; exact HS.out.mono (Nat.le_refl _) (Nat.le_refl _), hb, fun hAll => ⟨vs, by first | exact HLO.out | (subst hAll; exact HLO.out)⟩⟩
    have hK1 : K < K0 := by omega
    by_cases hAn : A = n1
    · subst hAn
      have HS := Lib.hid (sls_take hr.sls hA)
      have HLO := Lib.hid hr.loose
      have hle9 := hr.out.le
      have hbg9 := hr.out.big
      unfold maxLen at hbg9
      have HF := Lib.hid ((And.intro (full HE.out.1 hK') HE.out.2))
      clear hr HE
      go_wp2
      go_ret
      exact ⟨A, M, p, HF.out.1, HF.out.2.1, HF.out.2.2, _, _, _, rfl, by rw [← mk_take M hA]; exact HS.out.mono (Nat.le_refl _) (Nat.le_refl _), hb, fun hAll => ⟨vs, by first | exact HLO.out | (subst hAll; exact HLO.out)⟩⟩
    have hA1 : A < n1 := by omega
    go_wp2
    go_loop [8] (fun i => ∃ q : Nat, A ≤ q ∧ q ≤ n1 ∧ i = .int .i64 q ∧ Hid (∀ l, A ≤ l → l < q → M l K = 0)) (fun i => n1 - (intOf i).toNat)
    case atStart => exact ⟨A, Nat.le_refl _, hA, rfl, fun l h1 h2 => by omega⟩
    case round =>
      obtain ⟨q, hq1, hq2, rfl, HZ⟩ := hrel
      by_cases hqn : q = n1
      · subst hqn
        have HN := Lib.hid (HE.out.1.none (fun l h1 h2 => HZ.out l h1 h2))
        have HE2 := Lib.hid (And.intro HN.out HE.out.2)
        clear HZ HE HN
        go_wp2
        go_roundw
        case rel => exact ⟨A, K + 1, M, p, vs, hA, hK1, rfl, by go_num, hr, HE2.out, hb⟩
        case measure => simp [intOf]; omega
      have hqn1 : q < n1 := by omega
      obtain ⟨adq, nq, capq, xq, huq, hxq, sq, oq, hcq, hfq⟩ := hr.at_ hqn1
      obtain rfl : vec c (M q) = xq := Option.some.inj ((mk_get M hqn1).symm.trans hxq)
      have hnq : nq = c := by rw [← sq.len, vec_len]
      subst hnq
      obtain ⟨aq, xk, e1, hxk, hck⟩ := sq.at_ (j := K) (by omega)
      obtain rfl : em (M q K) = xk := Option.some.inj ((vec_get (M q) (by omega)).symm.trans hxk.get)
      subst e1
      have hle := sq.le
      have hbg := sq.big
      unfold maxLen at hbg
      have hle2 := hr.out.le
      have hbg2 := hr.out.big
      unfold maxLen at hbg2
      by_cases hz : M q K = 0
      · have hz2 : em (M q K) = 0 := by rw [hz]; rfl
        rw [hz2] at hck
        have HZ2 := Lib.hid (show ∀ l, A ≤ l → l < q + 1 → M l K = 0 from fun l h1 h2 => by
          rcases Nat.lt_or_eq_of_le (Nat.le_of_lt_succ h2) with h3 | rfl
          · exact HZ.out l h1 h3
          · exact hz)
        clear hxk hz HZ
        go_wp2
        go_round
        case rel => exact ⟨q + 1, by omega, by omega, by go_num, HZ2.out⟩
        case measure => simp [intOf]; omega
      have hz2 : (em (M q K) == 0) = false := by simp; exact fun e => hz (em_inj e)
      have hqn2 : ((q : Int) == (n1 : Int)) = false := by simp; omega
      obtain ⟨adA, nA, capA, xA, huA, hxA, sA, oA, hcA, hfA⟩ := hr.at_ hA1
      obtain rfl : vec nq (M A) = xA := Option.some.inj ((mk_get M hA1).symm.trans hxA)
      have hgp := hr.gpos hn0
      have hp1 := hr.put hqn1 oA (fun b hb => hr.away A _ b huA hb)
      have oq1 := OwnInts.keep (g := g) (j := q) oq (fun b hb => hr.away q _ b huq hb) (.slice adA nA capA)
      rw [mk_set M (M A) hqn1] at hp1
      obtain ⟨aq', xk', e1, hxk', hck1⟩ := (OwnInts.sl oq1).at_ (j := K) (by omega)
      obtain rfl : em (M q K) = xk' := Option.some.inj ((vec_get (M q) (by omega)).symm.trans hxk'.get)
      obtain rfl := Option.some.inj e1
      have HP1 := Lib.hid hp1
      have OQ1 := Lib.hid oq1
      clear hp1 oq1 oq oA sA hxA hxq sq hxk hr
      go_wp2_with fail
      go_at_call 110
      refine (spec_inv _ _).mono ?_
      rintro e w' ⟨rfl, rfl⟩
      have hS := spec_scale _ (OwnInts.sl OQ1.out) (Field.inv (em (M q K)))
      rw [pivot_row (M q) hc40 hz] at hS
      have HS := Lib.hid hS
      clear hS
      go_wp2_with fail
      go_at_call 109
      refine HS.out.mono ?_
      rintro e w5 ⟨ad5, n5, cap5, rfl, r5, b5⟩
      have z5 := b5.size
      have zm := HP1.out.2.size
      have hl5 : n5 = nq := by rw [← r5.len, vec_len]
      subst hl5
      have hR := (HP1.out.1.below b5 (.inr (Nat.le_refl _))).mono (h' := w5.heap.size) (by omega)
      have hp2 := hR.put hA1 ((OwnInts.of r5).lo (by omega)) (fun b hb => by have := ((OwnInts.of r5).block hb).1; omega)
      rw [mk_set _ _ hA1] at hp2
      obtain ⟨u0, _, hc0, hf0⟩ := hR.out.there hA1
      rw [show mk n1 n5 (fun l => if l = A then (fun j => M q j * invF (M q K)) else (fun l => if l = q then M A else M l) l) = mk n1 n5 (part M A q K 0) from mk_congr fun i j _ _ => by
        rw [part_0]
        by_cases h : i = A
        · rw [if_pos h, if_pos h, cleared_a]
        · rw [if_neg h, if_neg h]] at hp2
      have hb5 : Below w.heap.size w w5 := (hb.trans (HP1.out.2.below (Nat.le_refl _) zb)).trans (b5.mono (by omega))
      have hb6 := hb5.trans (hp2.2.below (Nat.le_refl _) hb5.size)
      have HP2 := Lib.hid (hp2.1.mono hp2.2.size)
      have HB6 := Lib.hid hb6
      clear HS HP1 OQ1 hR hp2 r5 b5 hb5 hb6 hb
      go_wp2
      go_loopw [10] (fun i w2 => ∃ (I : Nat) (us2 : List Value), I ≤ n1 ∧ i = .int .i64 I ∧ Rws w2 w.heap.size w2.heap.size 3 61 g n1 cap1 us2 (mk n1 n5 (part M A q K I)) ∧ Below w.heap.size w w2) (fun i _ => n1 - (intOf i).toNat)
      case atStart => exact ⟨0, _, Nat.zero_le _, rfl, HP2.out, HB6.out⟩
      case round =>
        obtain ⟨I, us2, hI, rfl, hr2, hb2⟩ := hrel
        have zb2 := hb2.size
        by_cases hIn : I < n1
        case neg =>
          obtain rfl : I = n1 := by omega
          have HE2 := Lib.hid (show Elim I (A + 1) (K + 1) (cleared invF M A q K) (more p A K) ∧ (∀ l, l < I → Span I M0 (cleared invF M A q K l)) ∧ ∀ l, l < I → Span I (cleared invF M A q K) (M0 l) from
            ⟨HE.out.1.pivot invF invF_ok hq1 hqn1 hz, fun l hl => span_trans HE.out.2.1 (cleared_in invF M K hA1 hqn1 l hl), fun l hl => span_trans (in_cleared invF invF_ok M hA1 hqn1 hz) (HE.out.2.2 l hl)⟩)
          rw [mk_congr (g := cleared invF M A q K) fun i j hi _ => by rw [part_all hi]] at hr2
          have HR2 := Lib.hid hr2
          clear hr2
          go_wp2
          go_roundw
          case rel => exact ⟨A + 1, K + 1, _, _, us2, hA1, hK1, by go_num, by go_num, HR2.out, HE2.out, hb2⟩
          case measure => simp [intOf]; omega
        obtain ⟨adI, nI, capI, xI, huI, hxI, sI, oI, hcI, hfI⟩ := hr2.at_ hIn
        obtain rfl : vec n5 (part M A q K I I) = xI := Option.some.inj ((mk_get _ hIn).symm.trans hxI)
        have hnI : nI = n5 := by rw [← sI.len, vec_len]
        subst hnI
        have hle3 := hr2.out.le
        have hbg3 := hr2.out.big
        unfold maxLen at hbg3
        by_cases hIA : I = A
        · subst hIA
          have HM := Lib.hid (mk_congr (r := n1) (c := nI) (fun i j _ _ => by rw [part_same (.inl rfl)] : ∀ i j, i < n1 → j < nI → part M I q K (I + 1) i j = part M I q K I i j))
          clear hxI sI oI
          go_wp2
          go_roundw
          case rel => exact ⟨I + 1, us2, by omega, by go_num, HM.out ▸ hr2, hb2⟩
          case measure => simp [intOf]; omega
        have hIA2 : ((I : Int) != (A : Int)) = true := by simp; omega
        have hIA3 : ((I : Int) == (A : Int)) = false := by simp; omega
        obtain ⟨aI, xk2, e2, hxk2, hck2⟩ := sI.at_ (j := K) (by omega)
        obtain rfl : em (part M A q K I I K) = xk2 := Option.some.inj ((vec_get _ (by omega)).symm.trans hxk2.get)
        subst e2
        rw [part_own hIA] at *
        have hle4 := sI.le
        have hbg4 := sI.big
        unfold maxLen at hbg4
        by_cases hz3 : swapped M A q I K = 0
        · have hz4 : em (swapped M A q I K) = 0 := by rw [hz3]; rfl
          rw [hz4] at hck2
          have HM := Lib.hid (mk_congr (r := n1) (c := nI) (fun i j _ _ => by rw [part_same (.inr hz3)] : ∀ i j, i < n1 → j < nI → part M A q K (I + 1) i j = part M A q K I i j))
          clear hxI sI oI hxk2 hz3 hz4
          go_wp2
          go_roundw
          case rel => exact ⟨I + 1, us2, by omega, by go_num, HM.out ▸ hr2, hb2⟩
          case measure => simp [intOf]; omega
        have hz4 : (em (swapped M A q I K) == 0) = false := by simp; exact fun e => hz3 (em_inj e)
        obtain ⟨adP, nP, capP, xP, huP, hxP, sP, oP, hcP, hfP⟩ := hr2.at_ hA1
        obtain rfl : vec nI (part M A q K I A) = xP := Option.some.inj ((mk_get _ hA1).symm.trans hxP)
        rw [part_piv] at *
        have hS := spec_adds wr.drew (sI.drewN 1) (sP.drewN 1) (1019 - em (swapped M A q I K))
        rw [clear_row (swapped M A q I) _ hc40 hz3] at hS
        have HS := Lib.hid hS
        have hin := em_in (swapped M A q I K)
        have e19 : IntKind.i64.wrap (1019 - em (swapped M A q I K)) = 1019 - em (swapped M A q I K) := by rw [IntKind.wrap_i64]; omega
        have hrD : Rws wr.drew w.heap.size wr.heap.size 3 61 g n1 cap1 us2 (mk n1 nI (part M A q K I)) := hr2.drewN 1
        have hbD : Below w.heap.size w wr.drew := hb2.drew
        have hgp2 := hr2.gpos hn0
        have hKn : K < nI := by omega
        have HRD := Lib.hid hrD
        have HBD := Lib.hid hbD
        have c1 : wr.drew.cell? ⟨g, I, none⟩ = some (.slice (some aI) nI capI) := hcI
        have c2 : wr.drew.cell? ⟨g, A, none⟩ = some (.slice adP nP capP) := hcP
        have c3 : wr.drew.cell? (aI.add K) = some (.int .i64 (em (swapped M A q I K))) := hck2
        clear hS hrD hbD hr2 hb2 sI sP oI oP hxI hxP hxk2 HP2 HB6
        go_wp2
        refine wp_region_last (S := fun w' => w'.cell? ⟨g, I, none⟩ = some (.slice (some aI) nI capI) ∧ w'.cell? ⟨g, A, none⟩ = some (.slice adP nP capP) ∧ w'.cell? (aI.add K) = some (.int .i64 (em (swapped M A q I K)))) 20 (by kernel_rfl) (by kernel_rfl) rfl ?_
        have HH := Lib.hid (And.intro c1 (And.intro c2 c3))
        refine wpAnyH_take (i := 0) (oi := ⟨some 85, _, _, _, _, _⟩) (v := ?_) rfl (by kernel_rfl) (by kernel_rfl) (by kernel_rfl) (fun _ _ _ h => h) (Or.inl ⟨by rfl, ?_⟩) HH.out ?_
        rotate_left
        · intro wS hSw
          try dsimp only at hSw
          go_simp
          all_goals (with_reducible rfl)
        simp only [Act.put, List.setIfInBounds_toArray, List.set_cons_zero, List.set_cons_succ]
        refine wpAnyH_take (i := 1) (oi := ⟨some 86, _, _, _, _, _⟩) (v := ?_) rfl (by kernel_rfl) (by kernel_rfl) (by kernel_rfl) (fun _ _ _ h => h) (Or.inl ⟨by rfl, ?_⟩) HH.out ?_
        rotate_left
        · intro wS hSw
          try dsimp only at hSw
          go_simp
          all_goals (with_reducible rfl)
        simp only [Act.put, List.setIfInBounds_toArray, List.set_cons_zero, List.set_cons_succ]
        refine wpAnyH_take (i := 2) (oi := ⟨some 87, _, _, _, _, _⟩) (v := ?_) rfl (by kernel_rfl) (by kernel_rfl) (by kernel_rfl) (fun _ _ _ h => h) (Or.inl ⟨by rfl, ?_⟩) HH.out ?_
        rotate_left
        · intro wS hSw
          try dsimp only at hSw
          go_simp
          all_goals (with_reducible rfl)
        simp only [Act.put, List.setIfInBounds_toArray, List.set_cons_zero, List.set_cons_succ]
        refine wpAnyH_take (i := 3) (oi := ⟨some 88, _, _, _, _, _⟩) (v := ?_) rfl (by kernel_rfl) (by kernel_rfl) (by kernel_rfl) (fun _ _ _ h => h) (Or.inl ⟨by rfl, ?_⟩) HH.out ?_
        rotate_left
        · intro wS hSw
          try dsimp only at hSw
          go_simp
          all_goals (with_reducible rfl)
        simp only [Act.put, List.setIfInBounds_toArray, List.set_cons_zero, List.set_cons_succ]
        refine wpAnyH_take (i := 4) (oi := ⟨some 89, _, _, _, _, _⟩) (v := ?_) rfl (by kernel_rfl) (by kernel_rfl) (by kernel_rfl) (fun _ _ _ h => h) (Or.inl ⟨by rfl, ?_⟩) HH.out ?_
        rotate_left
        · intro wS hSw
          try dsimp only at hSw
          go_simp
          all_goals (with_reducible rfl)
        simp only [Act.put, List.setIfInBounds_toArray, List.set_cons_zero, List.set_cons_succ]
        refine wpAnyH_take (i := 5) (oi := ⟨some 90, _, _, _, _, _⟩) (v := ?_) rfl (by kernel_rfl) (by kernel_rfl) (by kernel_rfl) (fun _ _ _ h => h) (Or.inl ⟨by rfl, ?_⟩) HH.out ?_
        rotate_left
        · intro wS hSw
          try dsimp only at hSw
          go_simp
          all_goals (with_reducible rfl)
        simp only [Act.put, List.setIfInBounds_toArray, List.set_cons_zero, List.set_cons_succ]
        refine wpAnyH_take (i := 6) (oi := ⟨some 91, _, _, _, _, _⟩) (v := ?_) rfl (by kernel_rfl) (by kernel_rfl) (by kernel_rfl) (fun _ _ _ h => h) (Or.inl ⟨by rfl, ?_⟩) HH.out ?_
        rotate_left
        · intro wS hSw
          try dsimp only at hSw
          go_simp
          all_goals (with_reducible rfl)
        simp only [Act.put, List.setIfInBounds_toArray, List.set_cons_zero, List.set_cons_succ]
        refine wpAnyH_take (i := 7) (oi := ⟨some 92, _, _, _, _, _⟩) (v := ?_) rfl (by kernel_rfl) (by kernel_rfl) (by kernel_rfl) (fun _ _ _ h => h) (Or.inl ⟨by rfl, ?_⟩) HH.out ?_
        rotate_left
        · intro wS hSw
          try dsimp only at hSw
          go_simp
          all_goals (with_reducible rfl)
        simp only [Act.put, List.setIfInBounds_toArray, List.set_cons_zero, List.set_cons_succ]
        refine wpAnyH_take (i := 8) (oi := ⟨some 93, _, _, _, _, _⟩) (v := ?_) rfl (by kernel_rfl) (by kernel_rfl) (by kernel_rfl) (fun _ _ _ h => h) (Or.inl ⟨by rfl, ?_⟩) HH.out ?_
        rotate_left
        · intro wS hSw
          try dsimp only at hSw
          go_simp
          all_goals (with_reducible rfl)
        simp only [Act.put, List.setIfInBounds_toArray, List.set_cons_zero, List.set_cons_succ]
        refine wpAnyH_take (i := 9) (oi := ⟨some 94, _, _, _, _, _⟩) (v := ?_) rfl (by kernel_rfl) (by kernel_rfl) (by kernel_rfl) (fun _ _ _ h => h) (Or.inl ⟨by rfl, ?_⟩) HH.out ?_
        rotate_left
        · intro wS hSw
          try dsimp only at hSw
          go_simp
          all_goals (with_reducible rfl)
        simp only [Act.put, List.setIfInBounds_toArray, List.set_cons_zero, List.set_cons_succ]
        refine wpAnyH_take (i := 10) (oi := ⟨some 95, _, _, _, _, _⟩) (v := ?_) rfl (by kernel_rfl) (by kernel_rfl) (by kernel_rfl) (fun _ _ _ h => h) (Or.inl ⟨by rfl, ?_⟩) HH.out ?_
        rotate_left
        · intro wS hSw
          try dsimp only at hSw
          go_simp
          all_goals (with_reducible rfl)
        simp only [Act.put, List.setIfInBounds_toArray, List.set_cons_zero, List.set_cons_succ]
        refine wpAnyH_take (i := 11) (oi := ⟨some 96, _, _, _, _, _⟩) (v := ?_) rfl (by kernel_rfl) (by kernel_rfl) (by kernel_rfl) (fun _ _ _ h => h) (Or.inl ⟨by rfl, ?_⟩) HH.out ?_
        rotate_left
        · intro wS hSw
          try dsimp only at hSw
          go_simp
          all_goals (with_reducible rfl)
        simp only [Act.put, List.setIfInBounds_toArray, List.set_cons_zero, List.set_cons_succ]
        refine wpAnyH_take (i := 12) (oi := ⟨some 97, _, _, _, _, _⟩) (v := ?_) rfl (by kernel_rfl) (by kernel_rfl) (by kernel_rfl) (fun _ _ _ h => h) (Or.inl ⟨by rfl, ?_⟩) HH.out ?_
        rotate_left
        · intro wS hSw
          try dsimp only at hSw
          go_simp
          all_goals (with_reducible rfl)
        simp only [Act.put, List.setIfInBounds_toArray, List.set_cons_zero, List.set_cons_succ]
        refine wpAnyH_take (i := 13) (oi := ⟨some 98, _, _, _, _, _⟩) (v := ?_) rfl (by kernel_rfl) (by kernel_rfl) (by kernel_rfl) (fun _ _ _ h => h) (Or.inl ⟨by rfl, ?_⟩) HH.out ?_
        rotate_left
        · intro wS hSw
          try dsimp only at hSw
          go_simp
          all_goals (with_reducible rfl)
        simp only [Act.put, List.setIfInBounds_toArray, List.set_cons_zero, List.set_cons_succ]
        refine wpAnyH_take (i := 14) (oi := ⟨some 99, _, _, _, _, _⟩) (v := ?_) rfl (by kernel_rfl) (by kernel_rfl) (by kernel_rfl) (fun _ _ _ h => h) (Or.inl ⟨by rfl, ?_⟩) HH.out ?_
        rotate_left
        · intro wS hSw
          try dsimp only at hSw
          go_simp
          all_goals (with_reducible rfl)
        simp only [Act.put, List.setIfInBounds_toArray, List.set_cons_zero, List.set_cons_succ]
        refine wpAnyH_take (i := 15) (oi := ⟨some 100, _, _, _, _, _⟩) (v := ?_) rfl (by kernel_rfl) (by kernel_rfl) (by kernel_rfl) (fun _ _ _ h => h) (Or.inl ⟨by rfl, ?_⟩) HH.out ?_
        rotate_left
        · intro wS hSw
          try dsimp only at hSw
          go_simp
          all_goals (with_reducible rfl)
        simp only [Act.put, List.setIfInBounds_toArray, List.set_cons_zero, List.set_cons_succ]
        refine wpAnyH_take (i := 16) (oi := ⟨some 101, _, _, _, _, _⟩) (v := ?_) rfl (by kernel_rfl) (by kernel_rfl) (by kernel_rfl) (fun _ _ _ h => h) (Or.inl ⟨by rfl, ?_⟩) HH.out ?_
        rotate_left
        · intro wS hSw
          try dsimp only at hSw
          go_simp
          all_goals (with_reducible rfl)
        simp only [Act.put, List.setIfInBounds_toArray, List.set_cons_zero, List.set_cons_succ]
        refine wpAnyH_take (i := 17) (oi := ⟨some 102, _, _, _, _, _⟩) (v := ?_) rfl (by kernel_rfl) (by kernel_rfl) (by kernel_rfl) (fun _ _ _ h => h) (Or.inl ⟨by rfl, ?_⟩) HH.out ?_
        rotate_left
        · intro wS hSw
          try dsimp only at hSw
          go_simp
          all_goals (with_reducible rfl)
        simp only [Act.put, List.setIfInBounds_toArray, List.set_cons_zero, List.set_cons_succ]
        refine wpAnyH_ready (rs := [18]) (by kernel_rfl) (by simp) ?_
        refine AllReadyH.cons (o := ⟨some 103, _, _, _, _, _⟩) rfl (fun Kq hKq => ?_) AllReadyH.nil
        go_simp
        refine HS.out.mono ?_
        rintro e w6 ⟨ad6, n6, cap6, rfl, r6, b6⟩
        have hR6 := HRD.out.below b6 (.inr (Nat.le_refl _))
        obtain ⟨u6, _, _, hf6⟩ := hR6.out.there hIn
        have d1 := (b6.cell (World.block_lt_of_cell? _ _ c1)).trans c1
        have d2 := (b6.cell (World.block_lt_of_cell? _ _ c2)).trans c2
        have d3 := (b6.cell (World.block_lt_of_cell? _ _ c3)).trans c3
        have HH6 := Lib.hid (And.intro d1 (And.intro d2 d3))
        refine hKq.out _ _ HH6.out (fun _ => ?_)
        clear hKq Kq c1 c2 c3 d2 d3
        refine wpAnyH_take (i := 19) (oi := ⟨some 104, _, _, _, _, _⟩) (v := ?_) rfl (by kernel_rfl) (by kernel_rfl) (by kernel_rfl) (fun _ _ _ h => h) (Or.inl ⟨by rfl, ?_⟩) HH6.out ?_
        rotate_left
        · intro wS hSw
          go_simp
          all_goals (with_reducible rfl)
        simp only [Act.put, List.setIfInBounds_toArray, List.set_cons_zero, List.set_cons_succ]
        refine wpAnyH_ready (rs := [20]) (by kernel_rfl) (by simp) ?_
        refine AllReadyH.cons (o := ⟨none, .move (.const (.bool false)), _, _, _, _⟩) rfl (fun Kq hKq => ?_) AllReadyH.nil
        go_simp
        refine hKq.out _ _ HH6.out (fun _ => ?_)
        clear hKq Kq
        refine wpAnyH_done (by kernel_rfl) ?_ _
        refine ⟨_, rfl, ?_⟩
        go_simp
        have z6 : wr.heap.size ≤ w6.heap.size := b6.size
        have hl6 : n6 = nI := by rw [← r6.len, vec_len]
        subst hl6
        have hp6 := (hR6.mono z6).put hIn ((OwnInts.of r6).lo (l' := w.heap.size) zb2) (fun b hb => by have h7 : wr.heap.size ≤ b := ((OwnInts.of r6).block hb).1; omega)
        rw [mk_set _ _ hIn] at hp6
        rw [← mk_congr (f := part M A q K (I + 1)) fun i j _ _ => by rw [part_more hIA]] at hp6
        have hb6 := (HBD.out.trans (b6.mono zb2)).trans (hp6.2.below (Nat.le_refl _) (by omega))
        have HR6 := Lib.hid (hp6.1.mono hp6.2.size)
        have HB6' := Lib.hid hb6
        clear hp6 hb6 hR6 r6 b6 HBD HRD HS
        go_wp2
        go_roundw
        case rel => exact ⟨I + 1, _, by omega, by go_num, HR6.out, HB6'.out⟩
        case measure => simp [intOf]; omega
theorem spec_reduce (w : World) {l h : Nat} {ad : Option Addr} {n cap : Nat} {m : List (List Int)} (s : Sls w l h ad n cap m) (hm : isMat m = true) (K0 : Nat) (hK : 0 < m.length → K0 ≤ colsOf m) :
    Calls Tryz.prog 84 #[.slice ad n cap, .int .i64 K0] w (Reduced m K0 w) :=
  (spec_reduceG w s hm K0 hK).mono fun _ _ ⟨A, M, p, h1, h2, h3, ad, n, cap, e, s, b, _⟩ => ⟨A, M, p, h1, h2, h3, ad, n, cap, e, s, b⟩
end Go.Proofs.YtefcfeikooknmaaGreat.RedW
namespace Go.Proofs.YtefcfeikooknmaaGreat.RedW
open Go.ChangeShapes Go.WideShapes Go.ChangeAt Go.RowKit
open Go.Proofs.YtefcfeikooknmaaGreat.Seq Go.Proofs.YtefcfeikooknmaaGreat.Help Go.Proofs.YtefcfeikooknmaaGreat.Field Go.Proofs.YtefcfeikooknmaaGreat.FieldW Go.Proofs.YtefcfeikooknmaaGreat.Vec Go.Proofs.YtefcfeikooknmaaGreat.VecW Go.Proofs.YtefcfeikooknmaaGreat.Mat Go.Proofs.YtefcfeikooknmaaGreat.MatW Go.Proofs.YtefcfeikooknmaaGreat.MatP Go.Proofs.YtefcfeikooknmaaGreat.Lin Go.Proofs.YtefcfeikooknmaaGreat.Rref

/-- What elimination over all columns leaves are the reduced rows. -/
theorem elim_rref {m : List (List Int)} {A : Nat} {M : Nat → V} {p : Nat → Nat} (hm : isMat m = true) (h : Elim m.length A (colsOf m) M p) (h1 : ∀ l, l < m.length → Span m.length (ent m) (M l)) (h2 : ∀ l, l < m.length → Span m.length M (ent m l)) : mk A (colsOf m) M = rref m :=
  (rref_is invF invF_ok hm ⟨A, M, p, rfl, h.red, h.le, fun i hi => h1 i (Nat.lt_of_lt_of_le hi h.le), fun l hl => h.span (fun l j hl hj => supp_span (fun l _ => ent_supp hm l) (h1 l hl) j hj) (h2 l hl)⟩).symm
theorem few_rref (m : List (List Int)) : (rref m).length ≤ 40 ∧ ∀ xs ∈ rref m, xs.length ≤ 40 := by
  cases hm : isMat m
  · rw [rref_no hm]; exact ⟨Nat.zero_le _, by simp⟩
  · obtain ⟨n, R, p, hr, _, hn, _, _⟩ := rref_red invF invF_ok hm
    have := (isMat_iff.1 hm).2
    rw [hr]
    refine ⟨by rw [mk_len]; omega, fun xs hx => ?_⟩
    obtain ⟨i, _, rfl⟩ := List.mem_map.1 hx
    rw [vec_len]; exact colsOf_le hm
set_option maxRecDepth 100000 in
theorem spec_rref (w : World) {l h : Nat} {ad : Option Addr} {n cap : Nat} {m : List (List Int)} (s : Sls w l h ad n cap m) :
    Calls Tryz.prog 67 #[.slice ad n cap] w (Reads2 (rref m) w) := by
  have K1 := spec_isMat w s
  cases hm : isMat m
  · rw [hm] at K1
    have HE := Lib.hid (rref_no hm)
    have K1 := Lib.hid K1
    clear hm
    rw [HE.out]
    go_enter Tryz.func67, Tryz.ntmps67
    go_wp2_with fail
    go_at_call 65
    refine K1.out.mono ?_
    rintro e w1 ⟨rfl, q, rfl⟩
    go_wp2
    go_ret
    exact ⟨_, _, _, rfl, (Grid.nil _ _ _ 3 61 _).sls, (below_drewN (Below.refl _ _) q).alloc (Nat.le_refl _) _⟩
  rw [hm] at K1
  have K1 := Lib.hid K1
  have K2 := Lib.hid (fun q => spec_cols (w.drewN q) (s.drewN q))
  have K3 := Lib.hid (fun q => spec_reduce (w.drewN q) (s.drewN q) hm (colsOf m) (fun _ => Nat.le_refl _))
  have HE := Lib.hid (fun (A : Nat) (M : Nat → V) (p : Nat → Nat) => elim_rref (A := A) (M := M) (p := p) hm)
  clear hm
  go_enter Tryz.func67, Tryz.ntmps67
  go_wp2_with fail
  go_at_call 65
  refine K1.out.mono ?_
  rintro e w1 ⟨rfl, q, rfl⟩
  go_wp2_with fail
  go_at_call 66
  refine (K2.out _).mono ?_
  rintro e w' ⟨rfl, rfl⟩
  go_wp2_with fail
  go_at_call 84
  refine (K3.out _).mono ?_
  rintro e w2 ⟨A, M, p, h1, h2, h3, ad2, n2, cap2, rfl, r2, b2⟩
  rw [HE.out A M p h1 h2 h3] at r2
  have HR := Lib.hid r2
  have HB := Lib.hid ((below_drewN (Below.refl w.heap.size w) q).trans b2)
  clear h1 h2 h3 r2 b2
  go_wp2
  go_ret
  exact ⟨_, _, _, rfl, HR.out, HB.out⟩
end Go.Proofs.YtefcfeikooknmaaGreat.RedW
namespace Go.Proofs.YtefcfeikooknmaaGreat.RedW
open Go.ChangeShapes Go.WideShapes Go.ChangeAt Go.RowKit
open Go.Proofs.YtefcfeikooknmaaGreat.Drawn Go.Proofs.YtefcfeikooknmaaGreat.Seq Go.Proofs.YtefcfeikooknmaaGreat.Help Go.Proofs.YtefcfeikooknmaaGreat.Field Go.Proofs.YtefcfeikooknmaaGreat.FieldW Go.Proofs.YtefcfeikooknmaaGreat.Vec Go.Proofs.YtefcfeikooknmaaGreat.VecW Go.Proofs.YtefcfeikooknmaaGreat.Mat Go.Proofs.YtefcfeikooknmaaGreat.MatW Go.Proofs.YtefcfeikooknmaaGreat.MatP Go.Proofs.YtefcfeikooknmaaGreat.Lin Go.Proofs.YtefcfeikooknmaaGreat.Rref Go.Proofs.YtefcfeikooknmaaGreat.Det Go.Proofs.YtefcfeikooknmaaGreat.InvP

/-- Valid and reduced. -/
noncomputable def isRed (m : List (List Int)) : Bool := Mat.isMat m && sameM (rref m) m
theorem spec_isRed (w : World) {l h : Nat} {ad : Option Addr} {n cap : Nat} {m : List (List Int)} (s : Sls w l h ad n cap m) :
    Calls Tryz.prog 63 #[.slice ad n cap] w fun e w' => e = .returned (.bool (isRed m)) ∧ Below w.heap.size w w' := by
  have K1 := spec_isMat w s
  cases hm : Mat.isMat m
  · rw [hm] at K1
    have HE := Lib.hid (show isRed m = false by unfold isRed; rw [hm]; rfl)
    have K1 := Lib.hid K1
    clear hm
    rw [HE.out]
    go_enter Tryz.func63, Tryz.ntmps63
    go_wp2_with fail
    go_at_call 65
    refine K1.out.mono ?_
    rintro e w1 ⟨rfl, q, rfl⟩
    go_wp2
    go_ret
    exact ⟨rfl, below_drewN (Below.refl _ _) q⟩
  rw [hm] at K1
  have HE := Lib.hid (show isRed m = sameM (rref m) m by unfold isRed; rw [hm]; rfl)
  have K1 := Lib.hid K1
  have K2 := Lib.hid (fun q => spec_rref (w.drewN q) (s.drewN q))
  clear hm
  rw [HE.out]
  obtain ⟨r, hr⟩ : ∃ r, r = sameM (rref m) m := ⟨_, rfl⟩
  rw [← hr]
  have HR := Lib.hid hr
  clear hr
  go_enter Tryz.func63, Tryz.ntmps63
  go_wp2_with fail
  go_at_call 65
  refine K1.out.mono ?_
  rintro e w1 ⟨rfl, q, rfl⟩
  go_wp2_with fail
  go_at_call 67
  refine (K2.out _).mono ?_
  rintro e w2 ⟨ad2, n2, cap2, rfl, r2, b2⟩
  have hb2 : Below w.heap.size w w2 := (below_drewN (Below.refl w.heap.size w) q).trans b2
  have K3 := spec_eqM w2 r2 (s.below hb2 (.inr (Nat.le_refl _))) (fun xs hx => by have := (few_rref m).2 xs hx; omega)
  rw [← HR.out] at K3
  have K3 := Lib.hid K3
  clear r2 b2
  go_wp2_with fail
  go_at_call 98
  refine K3.out.mono ?_
  rintro e w3 ⟨rfl, q3, rfl⟩
  go_wp2
  go_ret
  exact ⟨rfl, below_drewN hb2 q3⟩

/-! The determinant: rows that are triangular in the first columns. -/
structure Tri (n k : Nat) (M : Nat → V) (d D0 : F) : Prop where
  zero : ∀ i j, j < k → j < i → i < n → M i j = 0
  val : ∃ s, D0 = s * det n M ∧ d = s * diag M k
theorem Tri.start (n : Nat) (M : Nat → V) : Tri n 0 M 1 (det n M) := ⟨fun _ _ h => by omega, 1, by grind, by show (1 : F) = 1 * 1; grind⟩
theorem Tri.none {n k : Nat} {M : Nat → V} {d D0 : F} (h : Tri n k M d D0) (hk : k < n) (h0 : ∀ l, k ≤ l → l < n → M l k = 0) : D0 = 0 := by
  obtain ⟨s, h1, _⟩ := h.val
  obtain ⟨t, rfl⟩ : ∃ t, n = k + (t + 1) := ⟨n - k - 1, by omega⟩
  rw [h1, det_tri k (t + 1) M h.zero, det_col0 t _ fun i hi => h0 _ (by omega) (by omega)]; grind
theorem diag_congr {k : Nat} {M N : Nat → V} (h : ∀ i, i < k → M i i = N i i) : diag M k = diag N k := by
  induction k with
  | zero => rfl
  | succ k ih => show diag M k * M k k = diag N k * N k k; rw [ih fun i hi => h i (by omega), h k (by omega)]
theorem Tri.swap {n k q : Nat} {M : Nat → V} {d D0 : F} (h : Tri n k M d D0) (hk : k < n) (hq : k < q) (hqn : q < n) : Tri n k (swap M q k) (d * (0 - 1)) D0 := by
  obtain ⟨s, h1, h2⟩ := h.val
  refine ⟨fun i j hj hji hi => ?_, 0 - s, ?_, ?_⟩
  · unfold Det.swap upd
    split
    · exact h.zero q j hj (by omega) hqn
    · split
      · exact h.zero k j hj (by omega) hk
      · exact h.zero i j hj hji hi
  · rw [(alt_det n).swap M hqn hk (by omega), h1]; grind
  · rw [diag_congr (N := M) fun i hi => by unfold Det.swap; rw [upd_ne _ _ (by omega), upd_ne _ _ (by omega)], h2]; grind
/-- Rows while one column is cleared below the pivot: up to row t it is done. -/
def low (M : Nat → V) (k t l : Nat) : V := if k < l ∧ l < t then (fun j => M l j + M k j * (0 - M l k * invF (M k k))) else M l
theorem low_own {M : Nat → V} {k t : Nat} : low M k t t = M t := by unfold low; rw [if_neg (by omega)]
theorem low_piv {M : Nat → V} {k t : Nat} : low M k t k = M k := by unfold low; rw [if_neg (by omega)]
theorem low_start {M : Nat → V} {k : Nat} : low M k (k + 1) = M := by funext l; unfold low; rw [if_neg (by omega)]
theorem low_more {M : Nat → V} {k t : Nat} (h : k < t) (l : Nat) : low M k (t + 1) l = if l = t then (fun j => M t j + M k j * (0 - M t k * invF (M k k))) else low M k t l := by
  unfold low
  by_cases e : l = t
  · subst e; rw [if_pos (by omega), if_pos rfl]
  · rw [if_neg e]
    by_cases h1 : k < l ∧ l < t
    · rw [if_pos (by omega), if_pos h1]
    · rw [if_neg (by omega), if_neg h1]
theorem det_low {n k : Nat} (M : Nat → V) (hk : k < n) : ∀ t, k < t → t ≤ n → det n (low M k t) = det n M
  | 0, h, _ => by omega
  | t + 1, h, ht => by
    rcases Nat.lt_or_eq_of_le (Nat.le_of_lt_succ h) with h1 | rfl
    · have e : low M k (t + 1) = upd (low M k t) t (fun j => low M k t t j + (0 - M t k * invF (M k k)) * low M k t k j) := by
        funext l
        rw [low_more h1, low_own, low_piv]
        unfold upd
        split
        · funext j; grind
        · rfl
      rw [e, (alt_det n).addrow _ (by omega) hk (by omega), det_low M hk t h1 (by omega)]
    · rw [low_start]
theorem Tri.low {n k : Nat} {M : Nat → V} {d D0 : F} (h : Tri n k M d D0) (hk : k < n) (hne : M k k ≠ 0) : Tri n (k + 1) (low M k n) (d * M k k) D0 := by
  obtain ⟨s, h1, h2⟩ := h.val
  refine ⟨fun i j hj hji hi => ?_, s, ?_, ?_⟩
  · unfold RedW.low
    rcases Nat.lt_or_eq_of_le (Nat.le_of_lt_succ hj) with h3 | rfl
    · split
      · show M i j + M k j * (0 - M i k * invF (M k k)) = 0
        rw [h.zero i j h3 hji hi, h.zero k j h3 h3 hk]; grind
      · exact h.zero i j h3 hji hi
    · rw [if_pos (by omega)]
      have := invF_ok _ hne
      show M i j + M j j * (0 - M i j * invF (M j j)) = 0
      grind
  · rw [h1]
    rcases Nat.lt_or_eq_of_le hk with h3 | h3
    · rw [det_low M hk n (by omega) (Nat.le_refl _)]
    · rw [det_low M hk n (by omega) (Nat.le_refl _)]
  · show d * M k k = s * (diag _ k * RedW.low M k n k k)
    rw [low_piv, diag_congr (N := M) fun i hi => by unfold RedW.low; rw [if_neg (by omega)], h2]; grind
theorem Tri.done {n : Nat} {M : Nat → V} {d D0 : F} (h : Tri n n M d D0) : D0 = d := by
  obtain ⟨s, h1, h2⟩ := h.val
  have := det_tri n 0 M fun i j h3 h4 h5 => h.zero i j h3 h4 h5
  rw [Nat.add_zero] at this
  rw [h1, h2, this]
  show s * (diag M n * 1) = _
  grind
theorem sub_em (x : F) : sub 0 (em x) = em (0 - x) := by
  have := em_sub 0 x
  rw [em_0] at this
  rw [this, show sub 0 (em x) = _ from sub_el (by decide) (em_el x)]
theorem em_m1 : em (0 - 1) = 1018 := by decide
end Go.Proofs.YtefcfeikooknmaaGreat.RedW
namespace Go.Proofs.YtefcfeikooknmaaGreat.RedW
open Go.ChangeShapes Go.WideShapes Go.ChangeAt Go.RowKit
open Go.Proofs.YtefcfeikooknmaaGreat.Drawn Go.Proofs.YtefcfeikooknmaaGreat.Seq Go.Proofs.YtefcfeikooknmaaGreat.Help Go.Proofs.YtefcfeikooknmaaGreat.Field Go.Proofs.YtefcfeikooknmaaGreat.FieldW Go.Proofs.YtefcfeikooknmaaGreat.Vec Go.Proofs.YtefcfeikooknmaaGreat.VecW Go.Proofs.YtefcfeikooknmaaGreat.Mat Go.Proofs.YtefcfeikooknmaaGreat.MatW Go.Proofs.YtefcfeikooknmaaGreat.MatP Go.Proofs.YtefcfeikooknmaaGreat.Lin Go.Proofs.YtefcfeikooknmaaGreat.Rref Go.Proofs.YtefcfeikooknmaaGreat.SolP

/-- A new slice and a truth value. -/
def GivesB (xs : List Int) (b : Bool) (w : World) (e : Ending) (w' : World) : Prop :=
  ∃ ad n cap, e = .returned (.tuple #[.slice ad n cap, .bool b]) ∧ Row w' w.heap.size w'.heap.size .i64 3 ad n cap xs ∧ Below w.heap.size w w'
theorem sysOk_no {m : List (List Int)} {b : List Int} (h : ¬ (Mat.isMat m = true ∧ Vec.isVec b = true ∧ b.length = m.length ∧ colsOf m < 40)) : solveM m b = ([], false) :=
  solveM_no (by cases e : sysOk m b; rfl; exact absurd (sysOk_iff.1 e) h)
theorem span_congr {n : Nat} {S T : Nat → V} {v : V} (h : ∀ i, i < n → S i = T i) (hv : Span n S v) : Span n T v := by
  obtain ⟨c, rfl⟩ := hv
  exact ⟨c, lin_congr (fun _ _ => rfl) h⟩
/-- The vector that is filled in, row by row. -/
def filled (p : Nat → Nat) (M : Nat → V) (c t : Nat) : V := lin t (fun k => ind (p k)) fun k => M k c
theorem filled_set {p : Nat → Nat} {M : Nat → V} {c t A w : Nat} (h : Red A w M p) (ht : t < A) : (vec c (filled p M c t)).set (p t) (em (M t c)) = vec c (filled p M c (t + 1)) := by
  apply List.ext_getElem?
  intro j
  rw [List.getElem?_set]
  unfold vec filled
  by_cases hj : j < c
  · rw [List.getElem?_map, List.getElem?_map, List.getElem?_range hj]
    show _ = some (em (sum t (fun k => M k c * ind (p k) j) + M t c * ind (p t) j))
    by_cases e : p t = j
    · subst e
      have h0 : sum t (fun k => M k c * ind (p k) (p t)) = 0 := sum_zero fun k hk => by
        have := h.up k t hk ht
        rw [ind_ne (show p t ≠ p k by omega)]; grind
      rw [if_pos rfl, if_pos (by simp; exact hj), h0, ind_same]
      congr 2; grind
    · rw [if_neg e, ind_ne (fun e' => e e'.symm)]
      show some (em (sum t _)) = _
      congr 2
      rw [show M t c * 0 = 0 by grind, show ∀ x : F, x + 0 = x by intro x; grind]
  · rw [List.getElem?_eq_none (by simp; omega), List.getElem?_eq_none (by simp; omega)]
    by_cases e : p t = j
    · subst e; rw [if_pos rfl, if_neg (by simp; omega)]
    · rw [if_neg e]
theorem filled_0 (p : Nat → Nat) (M : Nat → V) (c : Nat) : List.replicate c (0 : Int) = vec c (filled p M c 0) := by
  unfold vec
  rw [show (fun i => em (filled p M c 0 i)) = fun _ => (0 : Int) from rfl]
  simp [List.map_const']
/-- The rows of the matrix with the right side behind them. -/
def wideB (m : List (List Int)) (b : List Int) (k : Nat) : List (List Int) := ((List.range m.length).take k).map fun i => (m[i]?.getD []) ++ [b[i]?.getD 0]
theorem wideB_more {m : List (List Int)} {b xs : List Int} {y : Int} {k : Nat} (hx : m[k]? = some xs) (hy : b[k]? = some y) : wideB m b (k + 1) = wideB m b k ++ [xs ++ [y]] := by
  unfold wideB
  rw [range_map_more (by exact (List.getElem?_eq_some_iff.1 hx).1), hx, hy]; rfl
theorem wideB_mk {m : List (List Int)} {b : List Int} (hm : Mat.isMat m = true) (hb : Vec.isVec b = true) (hl : b.length = m.length) : wideB m b m.length = mk m.length (colsOf m + 1) (wide m b) := by
  unfold wideB mk
  rw [range_map_full]
  refine List.map_congr_left fun i hi => ?_
  have hi := List.mem_range.1 hi
  have h1 : m[i]?.getD [] = vec (colsOf m) (ent m i) := by
    have := mk_get (n := m.length) (c := colsOf m) (ent m) hi
    rw [mk_ent hm] at this
    rw [this]; rfl
  have h2 : b[i]?.getD 0 = em (rhs b i) := by
    unfold rhs
    rw [List.getElem?_eq_getElem (by omega), Option.getD_some, em_toF ((isVec_iff.1 hb).1 _ (List.getElem_mem _))]
  rw [h1, h2]
  unfold vec
  rw [List.range_succ, List.map_append]
  congr 1
  · exact List.map_congr_left fun j hj => by
      have := List.mem_range.1 hj
      unfold wide; rw [if_neg (by omega)]
  · show [em (rhs b i)] = [em (wide m b i (colsOf m))]
    unfold wide; rw [if_pos rfl]
theorem sz1 (D : World) (o : Obj) : D.heap.size ≤ (D.alloc o).heap.size := by rw [World.size_alloc]; exact Nat.le_succ _
theorem sz2 (D : World) (o o' : Obj) : D.heap.size ≤ ((D.alloc o).alloc o').heap.size := Nat.le_trans (sz1 D o) (sz1 _ o')
end Go.Proofs.YtefcfeikooknmaaGreat.RedW
namespace Go.Proofs.YtefcfeikooknmaaGreat.RedW
open Go.ChangeShapes Go.WideShapes Go.ChangeAt Go.RowKit
open Go.Proofs.YtefcfeikooknmaaGreat.Drawn Go.Proofs.YtefcfeikooknmaaGreat.Seq Go.Proofs.YtefcfeikooknmaaGreat.Help Go.Proofs.YtefcfeikooknmaaGreat.Field Go.Proofs.YtefcfeikooknmaaGreat.FieldW Go.Proofs.YtefcfeikooknmaaGreat.Vec Go.Proofs.YtefcfeikooknmaaGreat.VecW Go.Proofs.YtefcfeikooknmaaGreat.Mat Go.Proofs.YtefcfeikooknmaaGreat.MatW Go.Proofs.YtefcfeikooknmaaGreat.MatP Go.Proofs.YtefcfeikooknmaaGreat.Lin Go.Proofs.YtefcfeikooknmaaGreat.Rref Go.Proofs.YtefcfeikooknmaaGreat.SolP Go.Proofs.YtefcfeikooknmaaGreat.Det Go.Proofs.YtefcfeikooknmaaGreat.InvP

/-- New rows and a truth value. -/
def Gives2B (xss : List (List Int)) (b : Bool) (w : World) (e : Ending) (w' : World) : Prop :=
  ∃ ad n cap us, e = .returned (.tuple #[.slice ad n cap, .bool b]) ∧ Grid w' w.heap.size w'.heap.size 3 61 ad n cap us xss ∧ Below w.heap.size w w'
/-- The rows of a matrix with the identity's behind them. -/
def wideI (m : List (List Int)) (k : Nat) : List (List Int) := ((List.range m.length).take k).map fun (i : Nat) => (m[i]?.getD []) ++ unit (m.length : Int) (i : Int)
theorem wideI_more {m : List (List Int)} {xs : List Int} {k : Nat} (hx : m[k]? = some xs) : wideI m (k + 1) = wideI m k ++ [xs ++ unit (m.length : Int) (k : Int)] := by
  unfold wideI
  rw [range_map_more (by exact (List.getElem?_eq_some_iff.1 hx).1), hx]; rfl
def wI (m : List (List Int)) : Nat → V := fun i j => if j < m.length then ent m i j else one i (j - m.length)
theorem unit_vec {n i : Nat} (hn : n ≤ 40) (hi : i < n) : unit (n : Int) (i : Int) = vec n (one i) := by
  have h := identity_mk hn
  obtain ⟨k, hk, he, hh⟩ := identity_is n
  obtain rfl : k = n := by omega
  rw [he] at h
  have h2 : ((List.range k).map fun (i : Nat) => unit (k : Int) i)[i]? = some (unit (k : Int) i) := by simp [hi]
  rw [h, mk_get _ hi] at h2
  exact (Option.some.inj h2).symm
theorem wideI_mk {m : List (List Int)} (hs : isSq m = true) : wideI m m.length = mk m.length (m.length + m.length) (wI m) := by
  obtain ⟨hm, hsq⟩ := isSq_iff.1 hs
  unfold wideI mk
  rw [range_map_full]
  refine List.map_congr_left fun i hi => ?_
  have hi := List.mem_range.1 hi
  have h1 : m[i]?.getD [] = vec m.length (ent m i) := by
    have := mk_get (n := m.length) (c := colsOf m) (ent m) hi
    rw [mk_ent hm] at this
    rw [this, ← hsq]; rfl
  rw [h1, unit_vec (isMat_iff.1 hm).2 hi]
  unfold vec
  rw [List.range_add, List.map_append, List.map_map]
  congr 1
  · exact List.map_congr_left fun j hj => by
      have := List.mem_range.1 hj
      unfold wI; rw [if_pos this]
  · exact List.map_congr_left fun j hj => by
      show em (one i j) = em (wI m i (m.length + j))
      unfold wI; rw [if_neg (by omega), Nat.add_sub_cancel_left]
/-- Elimination over the first half: fewer pivots than rows, no inverse. -/
theorem wideI_none {m : List (List Int)} (hs : isSq m = true) {A : Nat} {M : Nat → V} {p : Nat → Nat} (hA : Elim m.length A m.length M p) (h2 : ∀ l, l < m.length → Span m.length M (wI m l)) (hlt : A < m.length) : isFull m = false := by
  cases hf : isFull m
  · rfl
  · exfalso
    obtain ⟨_, _, hr⟩ := isFull_iff.1 hf
    refine (full_iff hs).1 hr ?_
    obtain ⟨C, hC⟩ := choose_c h2
    have e : det m.length (ent m) = det m.length (mulR m.length C M) := det_congr _ fun i j hi hj => by
      have := congrFun (hC i hi) j
      unfold wI at this
      rw [if_pos hj] at this
      exact this
    have hz : det m.length M = 0 := by
      have e : det m.length M = det m.length (upd M A (fun _ => 0)) := det_congr _ fun i j hi hj => by
        unfold upd; split
        · rename_i e; subst e; exact hA.rest i j (Nat.le_refl _) hi hj
        · rfl
      rw [e, (alt_det _).zero _ hlt fun j => by rw [upd_same]]
    rw [e, det_mul invF invF_ok, hz]; grind
/-- All pivots: the second half is the inverse. -/
theorem wideI_full {m : List (List Int)} (hs : isSq m = true) (h20 : m.length ≤ 20) {M : Nat → V} {p : Nat → Nat} (hA : Elim m.length m.length m.length M p) (h1 : ∀ l, l < m.length → Span m.length (wI m) (M l)) : isFull m = true ∧ invM m = mk m.length m.length (fun i j => M i (m.length + j)) := by
  obtain ⟨C, hC⟩ := choose_c h1
  have hl : Like m.length (mulR m.length C (ent m)) one := fun i j hi hj => by
    have h := full_one hA.red i j hi hj
    rw [hC i hi] at h
    rw [← h]
    exact sum_congr fun k _ => by
      show C i k * ent m k j = C i k * wI m k j
      unfold wI; rw [if_pos hj]
  have hr : ∀ i j, i < m.length → j < m.length → M i (m.length + j) = C i j := fun i j hi hj => by
    rw [hC i hi]
    have : lin m.length (wI m) (C i) (m.length + j) = lin m.length one (C i) j := sum_congr fun k _ => by
      unfold wI; rw [if_neg (by omega), Nat.add_sub_cancel_left]
    rw [this]
    exact mulR_one m.length C i j hi hj
  have hf : isFull m = true := isFull_iff.2 ⟨hs, h20, (full_iff hs).2 fun e => by
    have := left_det hl
    rw [e] at this
    have h0 : (0 : F) = 1 := by grind
    exact absurd h0 (by decide)⟩
  exact ⟨hf, by rw [invM_is hf hl]; exact mk_congr fun i j hi hj => (hr i j hi hj).symm⟩
theorem vec_drop {n : Nat} (f : V) : (vec (n + n) f).drop n = vec n fun j => f (n + j) := by
  unfold vec
  rw [List.range_add, List.map_append, List.drop_left' (by simp), List.map_map]; rfl
theorem wI_supp {m : List (List Int)} (l : Nat) (hl : l < m.length) : Supp (m.length + m.length) (wI m l) := fun j hj => by
  unfold wI; rw [if_neg (by omega), one_at, if_neg (by omega)]
theorem isFull_no {m : List (List Int)} (h : ¬ (isSq m = true ∧ m.length ≤ 20)) : isFull m = false := by
  cases e : isFull m
  · rfl
  · obtain ⟨h1, h2, _⟩ := isFull_iff.1 e; exact absurd ⟨h1, h2⟩ h
end Go.Proofs.YtefcfeikooknmaaGreat.RedW
namespace Go.Proofs.YtefcfeikooknmaaGreat.RedW
open Go.ChangeShapes Go.WideShapes Go.ChangeAt Go.RowKit
open Go.Proofs.YtefcfeikooknmaaGreat.Seq Go.Proofs.YtefcfeikooknmaaGreat.Help Go.Proofs.YtefcfeikooknmaaGreat.Field Go.Proofs.YtefcfeikooknmaaGreat.FieldW Go.Proofs.YtefcfeikooknmaaGreat.Vec Go.Proofs.YtefcfeikooknmaaGreat.VecW Go.Proofs.YtefcfeikooknmaaGreat.Mat Go.Proofs.YtefcfeikooknmaaGreat.MatW Go.Proofs.YtefcfeikooknmaaGreat.MatP Go.Proofs.YtefcfeikooknmaaGreat.Lin Go.Proofs.YtefcfeikooknmaaGreat.Rref Go.Proofs.YtefcfeikooknmaaGreat.SolP

/-- The row with its pivot at a column, among the first t; else -1. -/
def pvt (p : Nat → Nat) : Nat → Nat → Int
  | 0, _ => -1
  | t + 1, j => if p t = j then (t : Int) else pvt p t j
def pvl (p : Nat → Nat) (t c : Nat) : List Int := (List.range c).map fun j => pvt p t j
theorem pvl_len (p : Nat → Nat) (t c : Nat) : (pvl p t c).length = c := by simp [pvl]
theorem pvl_get {p : Nat → Nat} {t c j : Nat} (h : j < c) : (pvl p t c)[j]? = some (pvt p t j) := by simp [pvl, h]
theorem pvl_0 (p : Nat → Nat) (c : Nat) : List.replicate c (-1 : Int) = pvl p 0 c := by
  unfold pvl
  rw [show (fun j => pvt p 0 j) = fun _ => (-1 : Int) from rfl]
  simp [List.map_const']
theorem pvl_set {p : Nat → Nat} {t c : Nat} (ht : p t < c) : (pvl p t c).set (p t) (t : Int) = pvl p (t + 1) c := by
  apply List.ext_getElem?
  intro j
  rw [List.getElem?_set]
  by_cases hj : j < c
  · rw [pvl_get hj, pvl_get hj]
    show _ = some (if p t = j then (t : Int) else pvt p t j)
    by_cases e : p t = j
    · rw [if_pos e, if_pos (by rw [pvl_len]; exact ht), if_pos e]
    · rw [if_neg e, if_neg e]
  · rw [List.getElem?_eq_none (by rw [pvl_len]; omega), List.getElem?_eq_none (by rw [pvl_len]; omega), if_neg (by omega)]
theorem pvt_no {p : Nat → Nat} {t j : Nat} (h : isPiv t p j = false) : pvt p t j = -1 := by
  induction t with
  | zero => rfl
  | succ t ih =>
    show (if p t = j then (t : Int) else pvt p t j) = -1
    rw [if_neg (isPiv_no h (Nat.lt_succ_self t))]
    refine ih ?_
    cases e : isPiv t p j
    · rfl
    · obtain ⟨i, hi, he⟩ := isPiv_iff.1 e
      exact absurd he (isPiv_no h (by omega))
theorem pvt_yes {A w : Nat} {R : Nat → V} {p : Nat → Nat} (h : Red A w R p) {i : Nat} (hi : i < A) : ∀ t, i < t → t ≤ A → pvt p t (p i) = i
  | 0, h0, _ => by omega
  | t + 1, h0, ht => by
    show (if p t = p i then (t : Int) else pvt p t (p i)) = i
    rcases Nat.lt_or_eq_of_le (Nat.le_of_lt_succ h0) with h1 | rfl
    · have := h.up i t h1 (by omega)
      rw [if_neg (by omega)]
      exact pvt_yes h hi t h1 (by omega)
    · rw [if_pos rfl]
theorem pvt_fits (p : Nat → Nat) : ∀ (t j : Nat), -1 ≤ pvt p t j ∧ pvt p t j ≤ t
  | 0, _ => by show -1 ≤ (-1 : Int) ∧ (-1 : Int) ≤ ((0 : Nat) : Int); omega
  | t + 1, j => by
    have := pvt_fits p t j
    show -1 ≤ (if p t = j then (t : Int) else pvt p t j) ∧ (if p t = j then (t : Int) else pvt p t j) ≤ _
    split <;> omega
def nullsTo (A : Nat) (R : Nat → V) (p : Nat → Nat) (c k : Nat) : List (List Int) := ((List.range k).filter fun j => !isPiv A p j).map fun f => vec c (nul A R p f)
theorem nullsTo_piv {A : Nat} {R : Nat → V} {p : Nat → Nat} {c k : Nat} (h : isPiv A p k = true) : nullsTo A R p c (k + 1) = nullsTo A R p c k := by
  unfold nullsTo; rw [List.range_succ, List.filter_append]; simp [h]
theorem nullsTo_free {A : Nat} {R : Nat → V} {p : Nat → Nat} {c k : Nat} (h : isPiv A p k = false) : nullsTo A R p c (k + 1) = nullsTo A R p c k ++ [vec c (nul A R p k)] := by
  unfold nullsTo; rw [List.range_succ, List.filter_append, List.map_append]; simp [h]
theorem nullsTo_le (A : Nat) (R : Nat → V) (p : Nat → Nat) (c k : Nat) : (nullsTo A R p c k).length ≤ k := by
  unfold nullsTo
  rw [List.length_map]
  exact Nat.le_trans (List.length_filter_le _ _) (by simp)
/-- A null vector that is filled in up to a column. -/
def mixN (A : Nat) (R : Nat → V) (p : Nat → Nat) (k j : Nat) : V := fun l => if l < j then nul A R p k l else ind k l
theorem mixN_0 (A : Nat) (R : Nat → V) (p : Nat → Nat) (k c : Nat) : vec c (Det.one k) = vec c (mixN A R p k 0) := vec_congr fun l _ => by unfold mixN; rw [if_neg (by omega)]; rfl
theorem mixN_all (A : Nat) (R : Nat → V) (p : Nat → Nat) (k c : Nat) : vec c (mixN A R p k c) = vec c (nul A R p k) := vec_congr fun l hl => by unfold mixN; rw [if_pos hl]
theorem mixN_free {A : Nat} {R : Nat → V} {p : Nat → Nat} {k j c : Nat} (h : isPiv A p j = false) : vec c (mixN A R p k (j + 1)) = vec c (mixN A R p k j) := vec_congr fun l _ => by
  unfold mixN
  by_cases h1 : l < j
  · rw [if_pos (by omega), if_pos h1]
  · by_cases h2 : l = j
    · subst h2; rw [if_pos (by omega), if_neg h1, nul_free h]
    · rw [if_neg (by omega), if_neg h1]
theorem mixN_set {A w : Nat} {R : Nat → V} {p : Nat → Nat} (h : Red A w R p) {k i c : Nat} (hk : isPiv A p k = false) (hi : i < A) (hc : p i < c) : (vec c (mixN A R p k (p i))).set (p i) (em (0 - R i k)) = vec c (mixN A R p k (p i + 1)) := by
  apply List.ext_getElem?
  intro j
  rw [List.getElem?_set]
  by_cases hj : j < c
  · rw [vec_get _ hj, vec_get _ hj]
    by_cases e : p i = j
    · subst e
      rw [if_pos rfl, if_pos (by rw [vec_len]; exact hc)]
      unfold mixN
      rw [if_pos (by omega), nul_piv h hk hi]
    · rw [if_neg e]
      unfold mixN
      by_cases h1 : j < p i
      · rw [if_pos h1, if_pos (by omega)]
      · rw [if_neg h1, if_neg (by omega)]
  · rw [List.getElem?_eq_none (by rw [vec_len]; omega), List.getElem?_eq_none (by rw [vec_len]; omega), if_neg (by omega)]
theorem over_n {xs ms : List Int} {n j : Nat} {x : Int} (hl : xs.length = n) (hm : ms.length = n) (hj : j < n) (hx : ms[j]? = some x) : (ms.take j ++ xs.drop j).set j x = ms.take (j + 1) ++ xs.drop (j + 1) := over2 hl hm hj hx
set_option maxRecDepth 100000 in
set_option maxHeartbeats 1600000 in
theorem spec_null (w : World) {l h : Nat} {ad : Option Addr} {n cap : Nat} {m : List (List Int)} (s : Sls w l h ad n cap m) :
    Calls Tryz.prog 40 #[.slice ad n cap] w (Gives2 (nullOf m) w) := by
  have s1 := s.alloc (.cells #[] 61)
  have K1 := spec_isMat _ s1
  have hb0 : Below w.heap.size w (w.alloc (.cells #[] 61)) := (Below.refl _ _).alloc (Nat.le_refl _) _
  have hz0 : (w.alloc (.cells #[] 61)).heap.size = w.heap.size + 1 := by simp
  cases hm : Mat.isMat m
  · rw [hm] at K1
    have HE := Lib.hid (nullOf_no hm)
    have K1 := Lib.hid K1
    clear hm s1
    rw [HE.out]
    go_enter Tryz.func40, Tryz.ntmps40
    go_wp2_with fail
    go_at_call 65
    refine K1.out.mono ?_
    rintro e w1 ⟨rfl, q, rfl⟩
    go_wp2
    go_ret
    exact ⟨_, _, _, _, rfl, Grid.nil _ _ _ _ _ _, below_drewN hb0 q⟩
  rw [hm] at K1
  have K1 := Lib.hid K1
  obtain ⟨A, R, p, hd⟩ := dec_exists hm
  obtain ⟨c, hcc⟩ : ∃ c, c = colsOf m := ⟨_, rfl⟩
  have K2 := fun q => spec_cols ((w.alloc (.cells #[] 61)).drewN q) (s1.drewN q)
  have K3 := fun q => spec_rref ((w.alloc (.cells #[] 61)).drewN q) (s1.drewN q)
  rw [hd.rref hm] at K3
  have hE := nullOf_is hm hd
  have hRed := hd.red
  have hA40 : A ≤ 40 := by have := hd.le; have := (isMat_iff.1 hm).2; omega
  have hc40 := colsOf_le hm
  rw [hE]
  rw [← hcc] at K2 K3 hE hRed hc40 ⊢
  rw [show nulls A R p c = nullsTo A R p c c from rfl]
  have K2 := Lib.hid K2
  have K3 := Lib.hid K3
  have HRed := Lib.hid hRed
  clear hm hd hcc hE hRed s1
  go_enter Tryz.func40, Tryz.ntmps40
  go_wp2_with fail
  go_at_call 65
  refine K1.out.mono ?_
  rintro e w1 ⟨rfl, q, rfl⟩
  go_wp2_with fail
  go_at_call 66
  refine (K2.out _).mono ?_
  rintro e w' ⟨rfl, rfl⟩
  go_wp2_with fail
  go_at_call 67
  refine (K3.out _).mono ?_
  rintro e w2 ⟨ad5, n5, cap5, rfl, rX, b2⟩
  obtain rfl : n5 = A := by rw [← rX.len, mk_len]
  have f2 : Below w.heap.size w w2 := (below_drewN hb0 q).trans (b2.mono (by show w.heap.size ≤ (w.alloc _).heap.size; omega))
  have z2 : w.heap.size + 1 ≤ w2.heap.size := by have h9 := b2.size; have h8 : ((w.alloc (.cells #[] 61)).drewN q).heap.size = (w.alloc (.cells #[] 61)).heap.size := rfl; omega
  have HX := Lib.hid (rX.lt (Nat.le_refl w2.heap.size))
  clear rX b2 hb0 hz0 K1 K2 K3
  go_wp2_with (at_make; refine wpList_mk (n := c) Tryz.underlying61 info_int (fits_i64.2 (by omega)) (by unfold maxLen; omega) (by omega) rfl _ _ rfl rfl rfl ?_; intro w3 hr3 hb3)
  rw [show List.replicate c (0 : Int) = (List.replicate c (-1 : Int)).take 0 ++ (List.replicate c 0).drop 0 by simp] at hr3
  go_loopw [7] (fun i wr => ∃ j : Nat, j ≤ c ∧ i = .int .i64 j ∧ Row wr w2.heap.size wr.heap.size .i64 3 (some ⟨w2.heap.size, 0, none⟩) c c ((List.replicate c (-1 : Int)).take j ++ (List.replicate c 0).drop j) ∧ Below w2.heap.size w2 wr) (fun i _ => c - (intOf i).toNat)
  case atStart => exact ⟨0, Nat.zero_le _, rfl, hr3, hb3⟩
  case round =>
    obtain ⟨j, hj, rfl, hr, hb⟩ := hrel
    by_cases hlt : j < c
    · obtain ⟨u0, _, _, hc0, hf0⟩ := hr.there hlt
      have hput := hr.set (x := -1) hlt (fits_i64.2 (by omega))
      rw [over_n (n := c) (by simp) (by simp) hlt (by simp [hlt])] at hput
      have HP := Lib.hid hput
      clear hput hr
      go_wp2
      go_roundw
      case rel => exact ⟨j + 1, by omega, by go_num, HP.out.1.lt, hb.trans (HP.out.2.below (Nat.le_refl _) hb.size)⟩
      case measure => simp [intOf]; omega
    obtain rfl : j = c := by omega
    rw [List.take_of_length_le (by simp), List.drop_eq_nil_of_le (by simp), List.append_nil, pvl_0 p j] at hr
    go_wp2
    go_loopw [8] (fun i w4 => ∃ t : Nat, t ≤ n5 ∧ i = .int .i64 t ∧ Row w4 w2.heap.size w4.heap.size .i64 3 (some ⟨w2.heap.size, 0, none⟩) j j (pvl p t j) ∧ Below w2.heap.size w2 w4) (fun i _ => n5 - (intOf i).toNat)
    case atStart => exact ⟨0, Nat.zero_le _, rfl, hr, hb⟩
    case round =>
      obtain ⟨t, ht, rfl, r4, hb4⟩ := hrel
      by_cases htn : t < n5
      · obtain ⟨ax, ad8, n8, cap8, x8, e8, hx8, hc8⟩ := (HX.out.below hb4 (.inr (Nat.le_refl _))).at_ htn
        subst e8
        have e9 : vec j (R t) = x8 := Option.some.inj ((mk_get R htn).symm.trans hx8.get)
        subst e9
        have KL := spec_lead _ hx8.sl
        rw [lead_red HRed.out htn] at KL
        have hpt := HRed.out.lt t htn
        have hS := pvl_set (t := t) hpt
        obtain ⟨u0, _, _, hc0, hf0⟩ := r4.there hpt
        have hput := r4.set (j := p t) (x := (t : Int)) hpt (fits_i64.2 (by omega))
        rw [hS] at hput
        obtain ⟨q4, hq4⟩ : ∃ q4, q4 = p t := ⟨_, rfl⟩
        rw [← hq4] at hput KL hpt hc0 hf0
        have HP := Lib.hid hput
        have KL := Lib.hid KL
        have hleX := HX.out.le
        have hbgX := HX.out.big
        unfold maxLen at hbgX
        clear hput r4 hS hq4 hx8
        go_wp2_with fail
        go_at_call 68
        refine KL.out.mono ?_
        rintro e w' ⟨rfl, rfl⟩
        go_wp2
        go_roundw
        case rel => exact ⟨t + 1, by omega, by go_num, HP.out.1.lt, hb4.trans (HP.out.2.below (Nat.le_refl _) hb4.size)⟩
        case measure => simp [intOf]; omega
      obtain rfl : t = n5 := by omega
      generalize wr = W at *
      have hX4 := HX.out.below hb4 (.inr (Nat.le_refl _))
      have f4 := f2.trans (hb4.mono (by omega))
      have z4 := hb4.size
      have HX4 := Lib.hid (hX4.lt (Nat.le_refl W.heap.size))
      have HP4 := Lib.hid r4
      clear hX4 r4 HX hb hr hb3 hb4 f2
      go_wp2
      go_loopw [3, 9] (fun o k w5 => ∃ (K N : Nat) (ad' : Option Addr) (cap' : Nat) (us : List Value), K ≤ j ∧ k = .int .i64 K ∧ o = .slice ad' N cap' ∧ (∀ g, ad' = some ⟨g, 0, none⟩ → g < w5.heap.size) ∧
        Grid w5 W.heap.size w5.heap.size 3 61 ad' N cap' us (nullsTo t R p j K) ∧ Below W.heap.size W w5) (fun _ k _ => j - (intOf k).toNat)
      case atStart => exact ⟨0, 0, _, 0, [], Nat.zero_le _, rfl, rfl, (fun g hg => by obtain rfl := (Addr.mk.inj (Option.some.inj hg)).1; omega), Grid.nil _ _ _ _ _ _, Below.refl _ _⟩
      case round =>
        obtain ⟨K, N, ad', cap', us, hK, rfl, rfl, had, hr, hb⟩ := hrel
        have zb := hb.size
        by_cases hlt2 : K < j
        case neg =>
          obtain rfl : K = j := by omega
          have HG := Lib.hid (hr.lo (l' := w.heap.size) (by omega))
          have HB := Lib.hid (f4.trans (hb.mono (by omega)))
          clear hr hb
          go_wp2
          go_ret
          exact ⟨_, _, _, _, rfl, HG.out, HB.out⟩
        have hN : N ≤ 40 := by rw [← hr.len]; have := nullsTo_le t R p j K; omega
        obtain ⟨yp, hyp, _, hcp, _⟩ := (HP4.out.below hb (.inr (Nat.le_refl _))).there hlt2
        have ep2 : pvt p t K = yp := Option.some.inj ((pvl_get hlt2).symm.trans hyp)
        subst ep2
        clear hyp
        cases hpv : isPiv t p K
        case true =>
          obtain ⟨i, hi, hpi⟩ := isPiv_iff.1 hpv
          have hy := pvt_yes HRed.out hi t hi (Nat.le_refl _)
          rw [hpi] at hy
          rw [hy] at hcp
          have HN := Lib.hid (nullsTo_piv (R := R) (c := j) hpv)
          clear hpv hy hpi
          go_wp2
          go_roundw
          case rel => exact ⟨K + 1, N, _, _, us, by omega, by go_num, rfl, had, HN.out ▸ hr, hb⟩
          case measure => simp [intOf]; omega
        have hy := pvt_no hpv
        rw [hy] at hcp
        have HN := Lib.hid (nullsTo_free (R := R) (c := j) hpv)
        have HFree := Lib.hid hpv
        have KU := spec_unit wr j K (by omega) (by omega) (by omega) (by omega)
        rw [unit_vec hc40 hlt2, mixN_0 t R p K j] at KU
        have KU := Lib.hid KU
        clear hy hpv
        go_wp2_with fail
        go_at_call 64
        refine KU.out.mono ?_
        rintro e w6 ⟨ad6, n6, cap6, rfl, r6, b6⟩
        obtain rfl : n6 = j := by rw [← r6.len, vec_len]
        obtain ⟨g6, rfl, hg6, _⟩ := r6.pos (by omega)
        have hleX := HX4.out.le
        have hbgX := HX4.out.big
        unfold maxLen at hbgX
        have hle6 := r6.le
        have hbg6 := r6.big
        unfold maxLen at hbg6
        go_wp2
        go_loopw [11] (fun i w7 => ∃ J : Nat, J ≤ n6 ∧ i = .int .i64 J ∧ Row w7 wr.heap.size w7.heap.size .i64 3 (some ⟨g6, 0, none⟩) n6 cap6 (vec n6 (mixN t R p K J)) ∧ Below wr.heap.size wr w7) (fun i _ => n6 - (intOf i).toNat)
        case atStart => exact ⟨0, Nat.zero_le _, rfl, r6, b6⟩
        case round =>
          obtain ⟨J, hJ, rfl, r7, hb7⟩ := hrel
          have z7 := hb7.size
          have hb70 := hb.trans (hb7.mono zb)
          by_cases hJn : J < n6
          case neg =>
            obtain rfl : J = n6 := by omega
            rw [mixN_all] at r7
            have hr8 := (hr.below hb7 (.inr (Nat.le_refl _))).alloc (.cells #[.slice (some ⟨g6, 0, none⟩) J cap6] 61)
            have ho8 := (OwnInts.of r7).below ((Below.refl _ _).alloc (Nat.le_refl _) (.cells #[.slice (some ⟨g6, 0, none⟩) J cap6] 61)) (.inl (Nat.le_refl _))
            clear r7 r6 b6 hr hcp HX4 HP4
            go_wp2_with (at_builtin; refine wpList_snoc hr8.out (u := .slice (some ⟨g6, 0, none⟩) J cap6) (by rw [World.cell?_alloc_new]; rfl) rfl Tryz.underlying24 info_ints rfl (by unfold maxLen; omega) (by omega) rfl _ _ rfl rfl rfl ?_; intro g9 cap9 w9 o9 p9)
            have hA := hr8.add ho8 had o9 p9 (by simp; omega) zb
            have hb9 := (hb70.alloc hb70.size (.cells #[.slice (some ⟨g6, 0, none⟩) J cap6] 61)).trans (p9.below (Nat.le_refl _) (by simp; omega))
            have HA := Lib.hid (HN.out ▸ hA.1)
            have HA2 := hA.2
            clear hA hr8 ho8 o9 p9
            go_roundw
            case rel => exact ⟨K + 1, N + 1, _, _, _, by omega, by go_num, rfl, HA2, HA.out, hb9⟩
            case measure => simp [intOf]; omega
          obtain ⟨yq, hyq, _, hcq, _⟩ := (HP4.out.below hb70 (.inr (Nat.le_refl _))).there hJn
          have eq2 : pvt p t J = yq := Option.some.inj ((pvl_get hJn).symm.trans hyq)
          subst eq2
          clear hyq
          cases hpj : isPiv t p J
          case false =>
            have hy := pvt_no hpj
            rw [hy] at hcq
            have HM := Lib.hid (mixN_free (R := R) (k := K) (c := n6) hpj)
            clear hy hpj
            go_wp2
            go_roundw
            case rel => exact ⟨J + 1, by omega, by go_num, HM.out ▸ r7, hb7⟩
            case measure => simp [intOf]; omega
          obtain ⟨i, hi, hpi⟩ := isPiv_iff.1 hpj
          have hy := pvt_yes HRed.out hi t hi (Nat.le_refl _)
          rw [hpi] at hy
          rw [hy] at hcq
          have HM := Lib.hid (hpi ▸ mixN_set (c := n6) HRed.out HFree.out hi (by rw [hpi]; exact hJn))
          obtain ⟨ax, ad8, n8, cap8, x8, e8, hx8, hc8⟩ := (HX4.out.below hb70 (.inr (Nat.le_refl _))).at_ hi
          subst e8
          have e9 : vec n6 (R i) = x8 := Option.some.inj ((mk_get R hi).symm.trans hx8.get)
          subst e9
          obtain rfl : n8 = n6 := by rw [← hx8.sl.len, vec_len]
          obtain ⟨a9, y9, e9, hy9, hc9⟩ := hx8.sl.at_ (j := K) hlt2
          have e10 : em (R i K) = y9 := Option.some.inj ((vec_get (R i) hlt2).symm.trans hy9.get)
          subst e9 e10
          obtain ⟨u9, _, _, hcu, hfu⟩ := r7.there hJn
          have hem := em_in (0 - R i K)
          have hput := r7.set (x := em (0 - R i K)) hJn (fits_i64.2 (by omega))
          rw [HM.out] at hput
          have HPut := Lib.hid hput
          have hle8 := hx8.sl.le
          have hbg8 := hx8.sl.big
          unfold maxLen at hbg8
          clear hx8 hy9 hput r7 hy hpj hpi
          go_wp2_with fail
          go_at_call 69
          refine (spec_sub _ _ _).mono ?_
          rintro e w' ⟨rfl, rfl⟩
          rw [sub_em]
          go_wp2
          go_roundw
          case rel => exact ⟨J + 1, by omega, by go_num, HPut.out.1.lt, hb7.trans (HPut.out.2.below (Nat.le_refl _) z7)⟩
          case measure => simp [intOf]; omega
end Go.Proofs.YtefcfeikooknmaaGreat.RedW
