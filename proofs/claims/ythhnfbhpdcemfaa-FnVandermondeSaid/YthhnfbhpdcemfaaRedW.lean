/-
  Elimination, of the model: what its functions answer.
-/
import Derived.Test.YthhnfbhpdcemfaaMatM
namespace Go.Proofs.Ythhnfbhpdcemfaa.RedW
open Go.ChangeShapes Go.WideShapes Go.ChangeAt Go.RowKit
open Go.Proofs.Ythhnfbhpdcemfaa.Seq Go.Proofs.Ythhnfbhpdcemfaa.Help Go.Proofs.Ythhnfbhpdcemfaa.Field Go.Proofs.Ythhnfbhpdcemfaa.FieldW Go.Proofs.Ythhnfbhpdcemfaa.Vec Go.Proofs.Ythhnfbhpdcemfaa.VecW Go.Proofs.Ythhnfbhpdcemfaa.Mat Go.Proofs.Ythhnfbhpdcemfaa.MatW

set_option maxRecDepth 100000 in
theorem spec_copy (w : World) {l h : Nat} {ad : Option Addr} {n cap : Nat} {m : List (List Int)} (s : Sls w l h ad n cap m) (hn : n ≤ 1099511627776) (hr : ∀ xs ∈ m, xs.length ≤ 17592186044416) :
    Calls Try.prog 96 #[.slice ad n cap] w (Gives2 m w) := by
  have hL := Lib.hid s.len
  have hcap := s.le
  have HR := Lib.hid hr
  clear hr
  go_enter Try.func96, Try.ntmps96
  go_wp2
  have hb0 : Below w.heap.size w (w.alloc (.cells #[] 30)) := (Below.refl _ _).alloc (Nat.le_refl _) _
  go_loopw [3, 4] (fun o i wr => ∃ (j : Nat) (ad' : Option Addr) (cap' : Nat) (us : List Value), j ≤ n ∧ i = .int .i64 j ∧ o = .slice ad' j cap' ∧ (∀ g, ad' = some ⟨g, 0, none⟩ → g < wr.heap.size) ∧
    Grid wr w.heap.size wr.heap.size 3 30 ad' j cap' us (m.take j) ∧ Below w.heap.size w wr) (fun _ i _ => n - (intOf i).toNat)
  case atStart => exact ⟨0, _, 0, [], Nat.zero_le _, rfl, rfl, (fun g hg => by obtain rfl := (Addr.mk.inj (Option.some.inj hg)).1; simp), by simpa using Grid.nil _ _ _ _ _ _, hb0⟩
  case round =>
    obtain ⟨j, ad', cap', us, hj, rfl, rfl, had, hr, hb⟩ := hrel
    have zb := hb.size
    by_cases hlt : j < n
    · obtain ⟨a1, ad3, n3, cap3, xs, e1, hx, hcl⟩ := (s.below hb (.inr (Nat.le_refl _))).at_ hlt
      subst e1
      have hn3 : n3 ≤ 17592186044416 := by rw [← hx.sl.len]; exact HR.out _ (List.mem_of_getElem? hx.get)
      have HT := Lib.hid (take_more hx.get)
      have hsx := (hx.sl.alloc (.cells #[] 3))
      have hcl2 := (((Below.refl wr.heap.size wr).alloc (Nat.le_refl _) (.cells #[] 3)).cell (World.block_lt_of_cell? _ _ hcl)).trans hcl
      clear hx
      go_wp2_with (first
        | (at_builtin; refine wpList_app (Row.nil (wr.alloc (.cells #[] 3)) wr.heap.size wr.heap.size .i64 3 (some ⟨wr.heap.size, 0, none⟩)) hsx Try.underlying30 info_int (by unfold maxLen; omega) (by omega) (by simp) rfl _ _ rfl rfl rfl ?_; intro ad4 cap4 w4 r4 m4
           have hb4 : Below wr.heap.size wr w4 := ((Below.refl _ wr).alloc (Nat.le_refl _) (.cells #[] 3)).trans (m4.below (Nat.le_refl _) (by simp))
           have hz4 := hb4.size
           rw [List.nil_append, Nat.zero_add] at r4
           have hr4 := (hr.below hb4 (.inr (Nat.le_refl _))).alloc (.cells #[.slice ad4 n3 cap4] 30)
           have ho4 := (OwnInts.of r4).below ((Below.refl _ w4).alloc (Nat.le_refl _) (.cells #[.slice ad4 n3 cap4] 30)) (.inl (Nat.le_refl _)))
        | (at_builtin; refine wpList_snoc hr4.out (u := .slice ad4 n3 cap4) (by rw [World.cell?_alloc_new]; rfl) rfl Try.underlying24 info_ints rfl (by unfold maxLen; omega) (by omega) rfl _ _ rfl rfl rfl ?_; intro g5 cap5 w5 o5 p5))
      have hA := hr4.add ho4 had o5 p5 (by simp; omega) zb
      have hb5 := ((hb.trans (hb4.mono zb)).alloc (by omega) (.cells #[.slice ad4 n3 cap4] 30)).trans (p5.below (Nat.le_refl _) (by simp; omega))
      go_roundw
      case rel => exact ⟨j + 1, _, _, _, by omega, by go_num, rfl, hA.2, HT.out ▸ hA.1, hb5⟩
      case measure => simp [intOf]; omega
    · obtain rfl : j = n := by omega
      rw [List.take_of_length_le (Nat.le_of_eq hL.out)] at hr
      have HG := Lib.hid hr
      clear hr
      go_wp2
      go_ret
      exact ⟨_, _, _, _, rfl, HG.out, hb⟩
/-- Rows in own memory; two of them may be one slice. -/
structure Rws (w : World) (l h : Nat) (e e1 : TypeId) (g n cap : Nat) (us : List Value) (xss : List (List Int)) : Prop where
  out : RowV w l h e1 (some ⟨g, 0, none⟩) n cap us
  len : xss.length = n
  rows : ∀ (j : Nat) (u : Value) (xs : List Int), us[j]? = some u → xss[j]? = some xs → OwnInts w l h e u xs
  away : ∀ (j : Nat) (u : Value) (b : Nat), us[j]? = some u → blockOf u = some b → b ≠ g
section
variable {w w' : World} {l h l' h' g : Nat} {e e1 : TypeId} {n cap : Nat} {us : List Value} {xss : List (List Int)} {u : Value} {xs : List Int}
theorem Rws.of {ad : Option Addr} (r : Grid w l h e e1 ad n cap us xss) (hn : 0 < n) : ∃ g, ad = some ⟨g, 0, none⟩ ∧ Rws w l h e e1 g n cap us xss := by
  obtain ⟨g, rfl, _⟩ := r.out.pos hn
  exact ⟨g, rfl, r.out, r.len, r.rows, fun j u b hu hb => r.away j u b g hu hb rfl⟩
theorem Rws.below {B : Nat} (r : Rws w l h e e1 g n cap us xss) (m : Below B w w') (hB : h ≤ B ∨ w.heap.size ≤ B) : Rws w' l h e e1 g n cap us xss :=
  ⟨r.out.below m hB, r.len, fun j u xs hu hx => (r.rows j u xs hu hx).below m hB, r.away⟩
theorem Rws.mono (r : Rws w l h e e1 g n cap us xss) (h2 : h ≤ h') : Rws w l h' e e1 g n cap us xss :=
  ⟨r.out.mono h2, r.len, fun j u xs hu hx => (r.rows j u xs hu hx).mono h2, r.away⟩
theorem Rws.drewN (r : Rws w l h e e1 g n cap us xss) (k : Nat) : Rws (w.drewN k) l h e e1 g n cap us xss :=
  r.below (B := w.heap.size) (below_drewN (Below.refl _ _) k) (.inr (Nat.le_refl _))
theorem Rws.sls (r : Rws w l h e e1 g n cap us xss) : Sls w l h (some ⟨g, 0, none⟩) n cap xss := by
  refine ⟨r.len, r.out.le, r.out.big, r.out.sl.nil, fun j xs hx => ?_⟩
  have hj : j < us.length := by rw [r.out.len, ← r.len]; exact (List.getElem?_eq_some_iff.1 hx).1
  obtain ⟨a, ea, h1, h2, h3⟩ := r.out.sl.cells j us[j] (List.getElem?_eq_getElem hj)
  exact ⟨a, us[j], ea, h1, h2, h3, (r.rows j _ _ (List.getElem?_eq_getElem hj) hx).ints⟩
theorem Rws.gpos (r : Rws w l h e e1 g n cap us xss) (hn : 0 < n) : l ≤ g ∧ g < h := by
  obtain ⟨_, hge, hg1, hg2⟩ := r.out.pos hn
  obtain rfl := (Addr.mk.inj (Option.some.inj hge)).1
  exact ⟨hg1, hg2⟩
theorem Rws.block (r : Rws w l h e e1 g n cap us xss) {j b : Nat} (hu : us[j]? = some u) (hb : blockOf u = some b) : l ≤ b ∧ b < h ∧ b < w.heap.size := by
  have h1 := (List.getElem?_eq_some_iff.1 hu).1
  have h2 : j < xss.length := by rw [r.len, ← r.out.len]; exact h1
  exact (r.rows j _ _ hu (List.getElem?_eq_getElem h2)).block hb
/-- One row: the slice at hand, its numbers, its cell. -/
theorem Rws.at_ (r : Rws w l h e e1 g n cap us xss) {j : Nat} (hj : j < n) : ∃ ad' n' cap' xs, us[j]? = some (.slice ad' n' cap') ∧ xss[j]? = some xs ∧ Sl w l h .i64 ad' n' cap' xs ∧ OwnInts w l h e (.slice ad' n' cap') xs ∧ w.cell? ⟨g, j, none⟩ = some (.slice ad' n' cap') ∧ w.frozen? ⟨g, j, none⟩ = false := by
  have h2 : j < xss.length := by rw [r.len]; exact hj
  obtain ⟨u, hu, hc, hf⟩ := r.out.there hj
  have ho := r.rows j u _ hu (List.getElem?_eq_getElem h2)
  obtain ⟨ad', n', cap', rfl, s⟩ := ho.ints
  exact ⟨ad', n', cap', _, hu, List.getElem?_eq_getElem h2, s, ho, hc, hf⟩
theorem OwnInts.keep {j : Nat} {v : Value} {ys : List Int} (ho : OwnInts w l h e v ys) (hb : ∀ b, blockOf v = some b → b ≠ g) (u : Value) : OwnInts (w.setCell ⟨g, j, none⟩ u) l h e v ys := by
  have mg : Mv w (w.setCell ⟨g, j, none⟩ u) g (g + 1) := (Mv.refl w g (g + 1)).setCell (Nat.le_refl _) (Nat.lt_succ_self _) u
  refine ho.imp fun ad' n' cap' hn hv hr => ?_
  subst hv
  obtain ⟨b, rfl, b1, b2, hr'⟩ := hr.tight hn
  have hn' : n' ≠ 0 := by omega
  have hbg := hb b (by simp [blockOf, hn'])
  exact ((hr'.mv mg (by omega)).lo b1).mono (by omega)
theorem OwnInts.sl {ad : Option Addr} {n cap : Nat} (ho : OwnInts w l h e (.slice ad n cap) xs) : Sl w l h .i64 ad n cap xs := by
  obtain ⟨ad', n', cap', e1, s⟩ := ho.ints
  obtain ⟨rfl, rfl, rfl⟩ := Value.slice.inj e1
  exact s
/-- A row is put in place. -/
theorem Rws.put {j : Nat} (r : Rws w l h e e1 g n cap us xss) (hj : j < n) (hu : OwnInts w l h e u xs) (hg : ∀ b, blockOf u = some b → b ≠ g) :
    Rws (w.setCell ⟨g, j, none⟩ u) l h e e1 g n cap (us.set j u) (xss.set j xs) ∧ Mv w (w.setCell ⟨g, j, none⟩ u) l h := by
  obtain ⟨h1, h2⟩ := r.out.set hj hu.one
  obtain ⟨_, hge, hg1, hg2⟩ := r.out.pos (by omega)
  obtain rfl := (Addr.mk.inj (Option.some.inj hge)).1
  have mg : Mv w (w.setCell ⟨g, j, none⟩ u) g (g + 1) := (Mv.refl w g (g + 1)).setCell (Nat.le_refl _) (Nat.lt_succ_self _) u
  have keep : ∀ v ys, OwnInts w l h e v ys → (∀ b, blockOf v = some b → b ≠ g) → OwnInts (w.setCell ⟨g, j, none⟩ u) l h e v ys := by
    intro v ys ho hb
    refine ho.imp fun ad' n' cap' hn hv hr => ?_
    subst hv
    obtain ⟨b, rfl, b1, b2, hr'⟩ := hr.tight hn
    have hn' : n' ≠ 0 := by omega
    have hbg := hb b (by simp [blockOf, hn'])
    exact ((hr'.mv mg (by omega)).lo b1).mono (by omega)
  refine ⟨⟨h1, by rw [List.length_set]; exact r.len, ?_, ?_⟩, h2⟩
  · intro i v ys hv hy
    rw [List.getElem?_set] at hv hy
    by_cases hij : j = i
    · subst hij
      rw [if_pos rfl] at hv hy
      split at hv
      · split at hy
        · obtain rfl := Option.some.inj hv
          obtain rfl := Option.some.inj hy
          exact keep _ _ hu hg
        · cases hy
      · cases hv
    · rw [if_neg hij] at hv hy
      exact keep _ _ (r.rows i v ys hv hy) fun b hb => r.away i v b hv hb
  · intro i v b hv hb
    rw [List.getElem?_set] at hv
    by_cases h3 : j = i
    · subst h3
      rw [if_pos rfl] at hv
      split at hv
      · obtain rfl := Option.some.inj hv; exact hg b hb
      · cases hv
    · rw [if_neg h3] at hv
      exact r.away i v b hv hb
end
/-- New memory that reads as these rows. -/
def Reads2 (xss : List (List Int)) (w : World) (e : Ending) (w' : World) : Prop :=
  ∃ ad n cap, e = .returned (.slice ad n cap) ∧ Sls w' w.heap.size w'.heap.size ad n cap xss ∧ Below w.heap.size w w'
end Go.Proofs.Ythhnfbhpdcemfaa.RedW
