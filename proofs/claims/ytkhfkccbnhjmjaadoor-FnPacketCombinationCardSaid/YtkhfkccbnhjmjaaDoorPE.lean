/-
  Elimination, of the model: what its functions answer.
  Slices of slices whose rows lie apart in own memory, each anywhere within its block; the list may be a part of a longer one (Net). And rows of which only some are the call's own (Mix). No program.
  Marking slices of slices whose rows are ends of slices of their own.
  Slices of structs in memory (K cells an element): one that reads as a list of values (SlK), one that the call itself has made (RowK), and what append, make and a store do to them. No program.
  Lists of rows, each in own memory: rows of another list are appended.
  Values of the laws' types, by what they read as: read (I), or the call's own and apart (O); and the laws' helpers over them: a copy, a comparison, marking, asking for the stamps, measuring.
  A row put into a list of rows: what append of zero values, append without room and copy do to slices of one-cell values. No program.
  The reduced rows of a matrix: there are such rows, and one list alone. No program.
  Elimination, of the model: the walk of l7Reduce.
  Elimination, of the model: the walk of l7Reduce.
  Elimination, of the model: the reduced rows and the rank.
-/
import Derived.Test.YtkhfkccbnhjmjaaDoorPD
import Derived.Test.YtkhfkccbnhjmjaaDoorPA
import Derived.Handy
import Derived.Lib.AppendZerosOnto
import Derived.Laws.IdiomCopy
namespace Go.Proofs.YtkhfkccbnhjmjaaDoor.RedW
open Go.ChangeShapes Go.WideShapes Go.ChangeAt Go.RowKit
open Go.Proofs.YtkhfkccbnhjmjaaDoor.Seq Go.Proofs.YtkhfkccbnhjmjaaDoor.Help Go.Proofs.YtkhfkccbnhjmjaaDoor.Field Go.Proofs.YtkhfkccbnhjmjaaDoor.FieldW Go.Proofs.YtkhfkccbnhjmjaaDoor.Vec Go.Proofs.YtkhfkccbnhjmjaaDoor.VecW Go.Proofs.YtkhfkccbnhjmjaaDoor.Mat Go.Proofs.YtkhfkccbnhjmjaaDoor.MatW

set_option maxRecDepth 100000 in
theorem spec_copy (w : World) {l h : Nat} {ad : Option Addr} {n cap : Nat} {m : List (List Int)} (s : Sls w l h ad n cap m) (hn : n ≤ 1099511627776) (hr : ∀ xs ∈ m, xs.length ≤ 17592186044416) :
    Calls Tryd.prog 125 #[.slice ad n cap] w (Gives2 m w) := by
  have hL := Lib.hid s.len
  have hcap := s.le
  have HR := Lib.hid hr
  clear hr
  go_enter Tryd.func125, Tryd.ntmps125
  go_wp2
  have hb0 : Below w.heap.size w (w.alloc (.cells #[] 27)) := (Below.refl _ _).alloc (Nat.le_refl _) _
  go_loopw [3, 4] (fun o i wr => ∃ (j : Nat) (ad' : Option Addr) (cap' : Nat) (us : List Value), j ≤ n ∧ i = .int .i64 j ∧ o = .slice ad' j cap' ∧ (∀ g, ad' = some ⟨g, 0, none⟩ → g < wr.heap.size) ∧
    Grid wr w.heap.size wr.heap.size 3 27 ad' j cap' us (m.take j) ∧ Below w.heap.size w wr) (fun _ i _ => n - (intOf i).toNat)
  case atStart => exact ⟨0, _, 0, [], Nat.zero_le _, rfl, rfl, (fun g hg => by obtain rfl := (Addr.mk.inj (Option.some.inj hg)).1; simp), by simpa using Grid.nil _ _ _ _ _ _, hb0⟩
  case round =>
    obtain ⟨j, ad', cap', us, hj, rfl, rfl, had, hr, hb⟩ := hrel
    have zb := hb.size
    by_cases hlt : j < n
    · obtain ⟨a1, ad3, n3, cap3, xs, e1, hx, hcl⟩ := (s.below hb (.inr (Nat.le_refl _))).at_ hlt
      subst e1
      have hn3 : n3 ≤ 17592186044416 := by rw [← hx.sl.len]; exact HR.out _ (List.mem_of_getElem? hx.get)
      have HT := Lib.hid (take_more hx.get)
      have hsx := (hx.sl.alloc (.cells #[] 3))
      have hcl2 := (((Below.refl wr.heap.size wr).alloc (Nat.le_refl _) (.cells #[] 3)).cell (World.block_lt_of_cell? _ _ hcl)).trans hcl
      clear hx
      go_wp2_with (first
        | (at_builtin; refine wpList_app (Row.nil (wr.alloc (.cells #[] 3)) wr.heap.size wr.heap.size .i64 3 (some ⟨wr.heap.size, 0, none⟩)) hsx Tryd.underlying27 info_int (by unfold maxLen; omega) (by omega) (by simp) rfl _ _ rfl rfl rfl ?_; intro ad4 cap4 w4 r4 m4
           have hb4 : Below wr.heap.size wr w4 := ((Below.refl _ wr).alloc (Nat.le_refl _) (.cells #[] 3)).trans (m4.below (Nat.le_refl _) (by simp))
           have hz4 := hb4.size
           rw [List.nil_append, Nat.zero_add] at r4
           have hr4 := (hr.below hb4 (.inr (Nat.le_refl _))).alloc (.cells #[.slice ad4 n3 cap4] 27)
           have ho4 := (OwnInts.of r4).below ((Below.refl _ w4).alloc (Nat.le_refl _) (.cells #[.slice ad4 n3 cap4] 27)) (.inl (Nat.le_refl _)))
        | (at_builtin; refine wpList_snoc hr4.out (u := .slice ad4 n3 cap4) (by rw [World.cell?_alloc_new]; rfl) rfl Tryd.underlying24 info_ints rfl (by unfold maxLen; omega) (by omega) rfl _ _ rfl rfl rfl ?_; intro g5 cap5 w5 o5 p5))
      have hA := hr4.add ho4 had o5 p5 (by simp; omega) zb
      have hb5 := ((hb.trans (hb4.mono zb)).alloc (by omega) (.cells #[.slice ad4 n3 cap4] 27)).trans (p5.below (Nat.le_refl _) (by simp; omega))
      go_roundw
      case rel => exact ⟨j + 1, _, _, _, by omega, by go_num, rfl, hA.2, HT.out ▸ hA.1, hb5⟩
      case measure => simp [intOf]; omega
    · obtain rfl : j = n := by omega
      rw [List.take_of_length_le (Nat.le_of_eq hL.out)] at hr
      have HG := Lib.hid hr
      clear hr
      go_wp2
      go_ret
      exact ⟨_, _, _, _, rfl, HG.out, hb⟩
/-- Rows in own memory; two of them may be one slice. -/
structure Rws (w : World) (l h : Nat) (e e1 : TypeId) (g n cap : Nat) (us : List Value) (xss : List (List Int)) : Prop where
  out : RowV w l h e1 (some ⟨g, 0, none⟩) n cap us
  len : xss.length = n
  rows : ∀ (j : Nat) (u : Value) (xs : List Int), us[j]? = some u → xss[j]? = some xs → OwnInts w l h e u xs
  away : ∀ (j : Nat) (u : Value) (b : Nat), us[j]? = some u → blockOf u = some b → b ≠ g
section
variable {w w' : World} {l h l' h' g : Nat} {e e1 : TypeId} {n cap : Nat} {us : List Value} {xss : List (List Int)} {u : Value} {xs : List Int}
theorem Rws.of {ad : Option Addr} (r : Grid w l h e e1 ad n cap us xss) (hn : 0 < n) : ∃ g, ad = some ⟨g, 0, none⟩ ∧ Rws w l h e e1 g n cap us xss := by
  obtain ⟨g, rfl, _⟩ := r.out.pos hn
  exact ⟨g, rfl, r.out, r.len, r.rows, fun j u b hu hb => r.away j u b g hu hb rfl⟩
theorem Rws.below {B : Nat} (r : Rws w l h e e1 g n cap us xss) (m : Below B w w') (hB : h ≤ B ∨ w.heap.size ≤ B) : Rws w' l h e e1 g n cap us xss :=
  ⟨r.out.below m hB, r.len, fun j u xs hu hx => (r.rows j u xs hu hx).below m hB, r.away⟩
theorem Rws.mono (r : Rws w l h e e1 g n cap us xss) (h2 : h ≤ h') : Rws w l h' e e1 g n cap us xss :=
  ⟨r.out.mono h2, r.len, fun j u xs hu hx => (r.rows j u xs hu hx).mono h2, r.away⟩
theorem Rws.drewN (r : Rws w l h e e1 g n cap us xss) (k : Nat) : Rws (w.drewN k) l h e e1 g n cap us xss :=
  r.below (B := w.heap.size) (below_drewN (Below.refl _ _) k) (.inr (Nat.le_refl _))
theorem Rws.sls (r : Rws w l h e e1 g n cap us xss) : Sls w l h (some ⟨g, 0, none⟩) n cap xss := by
  refine ⟨r.len, r.out.le, r.out.big, r.out.sl.nil, fun j xs hx => ?_⟩
  have hj : j < us.length := by rw [r.out.len, ← r.len]; exact (List.getElem?_eq_some_iff.1 hx).1
  obtain ⟨a, ea, h1, h2, h3⟩ := r.out.sl.cells j us[j] (List.getElem?_eq_getElem hj)
  exact ⟨a, us[j], ea, h1, h2, h3, (r.rows j _ _ (List.getElem?_eq_getElem hj) hx).ints⟩
theorem Rws.gpos (r : Rws w l h e e1 g n cap us xss) (hn : 0 < n) : l ≤ g ∧ g < h := by
  obtain ⟨_, hge, hg1, hg2⟩ := r.out.pos hn
  obtain rfl := (Addr.mk.inj (Option.some.inj hge)).1
  exact ⟨hg1, hg2⟩
/-- One row: the slice at hand, its numbers, its cell. -/
theorem Rws.at_ (r : Rws w l h e e1 g n cap us xss) {j : Nat} (hj : j < n) : ∃ ad' n' cap' xs, us[j]? = some (.slice ad' n' cap') ∧ xss[j]? = some xs ∧ Sl w l h .i64 ad' n' cap' xs ∧ OwnInts w l h e (.slice ad' n' cap') xs ∧ w.cell? ⟨g, j, none⟩ = some (.slice ad' n' cap') ∧ w.frozen? ⟨g, j, none⟩ = false := by
  have h2 : j < xss.length := by rw [r.len]; exact hj
  obtain ⟨u, hu, hc, hf⟩ := r.out.there hj
  have ho := r.rows j u _ hu (List.getElem?_eq_getElem h2)
  obtain ⟨ad', n', cap', rfl, s⟩ := ho.ints
  exact ⟨ad', n', cap', _, hu, List.getElem?_eq_getElem h2, s, ho, hc, hf⟩
theorem OwnInts.keep {j : Nat} {v : Value} {ys : List Int} (ho : OwnInts w l h e v ys) (hb : ∀ b, blockOf v = some b → b ≠ g) (u : Value) : OwnInts (w.setCell ⟨g, j, none⟩ u) l h e v ys := by
  have mg : Mv w (w.setCell ⟨g, j, none⟩ u) g (g + 1) := (Mv.refl w g (g + 1)).setCell (Nat.le_refl _) (Nat.lt_succ_self _) u
  refine ho.imp fun ad' n' cap' hn hv hr => ?_
  subst hv
  obtain ⟨b, rfl, b1, b2, hr'⟩ := hr.tight hn
  have hn' : n' ≠ 0 := by omega
  have hbg := hb b (by simp [blockOf, hn'])
  exact ((hr'.mv mg (by omega)).lo b1).mono (by omega)
theorem OwnInts.sl {ad : Option Addr} {n cap : Nat} (ho : OwnInts w l h e (.slice ad n cap) xs) : Sl w l h .i64 ad n cap xs := by
  obtain ⟨ad', n', cap', e1, s⟩ := ho.ints
  obtain ⟨rfl, rfl, rfl⟩ := Value.slice.inj e1
  exact s
/-- A row is put in place. -/
theorem Rws.put {j : Nat} (r : Rws w l h e e1 g n cap us xss) (hj : j < n) (hu : OwnInts w l h e u xs) (hg : ∀ b, blockOf u = some b → b ≠ g) :
    Rws (w.setCell ⟨g, j, none⟩ u) l h e e1 g n cap (us.set j u) (xss.set j xs) ∧ Mv w (w.setCell ⟨g, j, none⟩ u) l h := by
  obtain ⟨h1, h2⟩ := r.out.set hj hu.one
  obtain ⟨_, hge, hg1, hg2⟩ := r.out.pos (by omega)
  obtain rfl := (Addr.mk.inj (Option.some.inj hge)).1
  have mg : Mv w (w.setCell ⟨g, j, none⟩ u) g (g + 1) := (Mv.refl w g (g + 1)).setCell (Nat.le_refl _) (Nat.lt_succ_self _) u
  have keep : ∀ v ys, OwnInts w l h e v ys → (∀ b, blockOf v = some b → b ≠ g) → OwnInts (w.setCell ⟨g, j, none⟩ u) l h e v ys := by
    intro v ys ho hb
    refine ho.imp fun ad' n' cap' hn hv hr => ?_
    subst hv
    obtain ⟨b, rfl, b1, b2, hr'⟩ := hr.tight hn
    have hn' : n' ≠ 0 := by omega
    have hbg := hb b (by simp [blockOf, hn'])
    exact ((hr'.mv mg (by omega)).lo b1).mono (by omega)
  refine ⟨⟨h1, by rw [List.length_set]; exact r.len, ?_, ?_⟩, h2⟩
  · intro i v ys hv hy
    rw [List.getElem?_set] at hv hy
    by_cases hij : j = i
    · subst hij
      rw [if_pos rfl] at hv hy
      split at hv
      · split at hy
        · obtain rfl := Option.some.inj hv
          obtain rfl := Option.some.inj hy
          exact keep _ _ hu hg
        · cases hy
      · cases hv
    · rw [if_neg hij] at hv hy
      exact keep _ _ (r.rows i v ys hv hy) fun b hb => r.away i v b hv hb
  · intro i v b hv hb
    rw [List.getElem?_set] at hv
    by_cases h3 : j = i
    · subst h3
      rw [if_pos rfl] at hv
      split at hv
      · obtain rfl := Option.some.inj hv; exact hg b hb
      · cases hv
    · rw [if_neg h3] at hv
      exact r.away i v b hv hb
end
/-- Rows in own memory, none of them in the list's block; two of them may be one slice; the list has been built by appends. -/
structure Loose (w : World) (l h : Nat) (e e1 : TypeId) (ad : Option Addr) (n cap : Nat) (us : List Value) (xss : List (List Int)) : Prop where
  out : RowV w l h e1 ad n cap us
  len : xss.length = n
  rows : ∀ (j : Nat) (u : Value) (xs : List Int), us[j]? = some u → xss[j]? = some xs → OwnInts w l h e u xs
  away : ∀ (j : Nat) (u : Value) (b g : Nat), us[j]? = some u → blockOf u = some b → ad = some ⟨g, 0, none⟩ → b ≠ g
section
variable {w w' : World} {l h l' h' : Nat} {e e1 : TypeId} {ad : Option Addr} {n cap : Nat} {us : List Value} {xss : List (List Int)} {u : Value} {xs : List Int}
theorem Rws.loose {g : Nat} (r : Rws w l h e e1 g n cap us xss) : Loose w l h e e1 (some ⟨g, 0, none⟩) n cap us xss :=
  ⟨r.out, r.len, r.rows, fun j u b g' hu hb hg => by obtain rfl := (Addr.mk.inj (Option.some.inj hg)).1; exact r.away j u b hu hb⟩
theorem _root_.Go.Proofs.YtkhfkccbnhjmjaaDoor.Seq.Grid.loose (r : Grid w l h e e1 ad n cap us xss) : Loose w l h e e1 ad n cap us xss := ⟨r.out, r.len, r.rows, r.away⟩
end
/-- New memory that reads as these rows. -/
def Reads2 (xss : List (List Int)) (w : World) (e : Ending) (w' : World) : Prop :=
  ∃ ad n cap, e = .returned (.slice ad n cap) ∧ Sls w' w.heap.size w'.heap.size ad n cap xss ∧ Below w.heap.size w w'
end Go.Proofs.YtkhfkccbnhjmjaaDoor.RedW
namespace Go.Proofs.YtkhfkccbnhjmjaaDoor.Seq
open Go.ChangeShapes Go.WideShapes Go.RowKit

section
variable {w w' : World} {l h l' h' : Nat} {e : TypeId} {u : Value} {xs : List Int}
end

section
variable {w w' : World} {l h l' h' : Nat} {e e1 : TypeId} {ad : Option Addr} {n cap : Nat} {us : List Value} {xss : List (List Int)} {u : Value} {xs : List Int}
end

section
variable {w w' : World} {l h l' h' g : Nat} {e e1 : TypeId} {n cap : Nat} {us : List Value} {xss : List (List Int)} {u : Value} {xs : List Int} {own own' : Nat → Prop}
end
end Go.Proofs.YtkhfkccbnhjmjaaDoor.Seq
namespace Go.Proofs.YtkhfkccbnhjmjaaDoor.Help
open Go.ChangeShapes Go.WideShapes Go.ChangeAt Go.RowKit
open Go.Proofs.YtkhfkccbnhjmjaaDoor.Seq

end Go.Proofs.YtkhfkccbnhjmjaaDoor.Help
namespace Go.Proofs.YtkhfkccbnhjmjaaDoor.Seq
open Go.RowKit

/-- The slice with this address, length and capacity reads as the list us; its cells lie in blocks from l up to (not with) h. -/
structure SlK (K : Nat) (w : World) (l h : Nat) (ad : Option Addr) (n cap : Nat) (us : List Value) : Prop where
  len : us.length = n * K
  le : n ≤ cap
  big : cap ≤ maxLen
  nil : ad = none → cap = 0
  one : ∀ u ∈ us, u.oneCell' = true
  cells : ∀ j u, us[j]? = some u → ∃ a, ad = some a ∧ l ≤ a.block ∧ a.block < h ∧ w.cell? (a.add j) = some u

section
variable {K : Nat} {w w' : World} {l h l' h' : Nat} {ad : Option Addr} {n cap : Nat} {us vs : List Value}
end

/-- A slice that the call itself has made. -/
structure RowK (K : Nat) (w : World) (l h : Nat) (e : TypeId) (ad : Option Addr) (n cap : Nat) (us : List Value) : Prop where
  len : us.length = n * K
  le : n ≤ cap
  big : cap ≤ maxLen
  one : ∀ u ∈ us, u.oneCell' = true
  own : (n = 0 ∧ cap = 0) ∨ ∃ g, ad = some ⟨g, 0, none⟩ ∧ l ≤ g ∧ g < h ∧ w.ownsRow l e K (.slice ad n cap) n us

section
variable {K : Nat} {w w' : World} {l h l' h' : Nat} {e : TypeId} {ad : Option Addr} {n cap : Nat} {us vs : List Value}
theorem RowK.sl (r : RowK K w l h e ad n cap us) : SlK K w l h ad n cap us := by
  refine ⟨r.len, r.le, r.big, ?_, r.one, ?_⟩
  · intro hn
    rcases r.own with ⟨_, h⟩ | ⟨g, h, _⟩
    · exact h
    · rw [hn] at h; cases h
  · intro j x hx
    rcases r.own with ⟨h0, _⟩ | ⟨g, rfl, h1, h2, h3⟩
    · have h5 : us = [] := List.eq_nil_of_length_eq_zero (by rw [r.len, h0, Nat.zero_mul])
      rw [h5] at hx; simp at hx
    · exact ⟨_, rfl, h1, h2, h3.cells (g := g) rfl j _ hx⟩
theorem RowK.mono (r : RowK K w l h e ad n cap us) (h2 : h ≤ h') : RowK K w l h' e ad n cap us :=
  ⟨r.len, r.le, r.big, r.one, r.own.imp id fun ⟨g, a, b, c, d⟩ => ⟨g, a, b, by omega, d⟩⟩
theorem RowK.mv (r : RowK K w l h e ad n cap us) (m : Mv w w' l' h') (hd : h ≤ l' ∨ h' ≤ l) : RowK K w' l h e ad n cap us :=
  ⟨r.len, r.le, r.big, r.one, r.own.imp id fun ⟨g, a, b, c, d⟩ => ⟨g, a, b, c, by
    subst a
    exact owns_keep d fun g' hg => by
      obtain rfl : g = g' := by simpa [Value.ownBlock] using hg
      exact m.block g (owns_lt d) (by omega)⟩⟩
theorem RowK.below {B : Nat} (r : RowK K w l h e ad n cap us) (m : Below B w w') (hB : h ≤ B ∨ w.heap.size ≤ B) : RowK K w' l h e ad n cap us :=
  ⟨r.len, r.le, r.big, r.one, r.own.imp id fun ⟨g, a, b, c, d⟩ => ⟨g, a, b, c, by
    subst a
    exact owns_keep d fun g' hg => by
      obtain rfl : g = g' := by simpa [Value.ownBlock] using hg
      exact m.block g (by have := owns_lt d; omega)⟩⟩
theorem RowK.alloc (r : RowK K w l h e ad n cap us) (o : Obj) : RowK K (w.alloc o) l h e ad n cap us := r.mv ((Mv.refl w 0 0).alloc o) (.inr (Nat.zero_le _))
theorem RowK.nil (w : World) (l h : Nat) (e : TypeId) (ad : Option Addr) : RowK K w l h e ad 0 0 [] := ⟨by simp, Nat.le_refl _, Nat.zero_le _, by simp, .inl ⟨rfl, rfl⟩⟩
theorem RowK.lt (r : RowK K w l h e ad n cap us) : RowK K w l w.heap.size e ad n cap us :=
  ⟨r.len, r.le, r.big, r.one, r.own.imp id fun ⟨g, a, b, c, d⟩ => ⟨g, a, b, by subst a; exact owns_lt d, d⟩⟩
theorem RowK.pos (r : RowK K w l h e ad n cap us) (hn : 0 < n) : ∃ g, ad = some ⟨g, 0, none⟩ ∧ l ≤ g ∧ g < h := by
  rcases r.own with ⟨h0, _⟩ | ⟨g, h1, h2, h3, _⟩
  · omega
  · exact ⟨g, h1, h2, h3⟩
end

section
variable {K : Nat} {w w' : World} {l h : Nat} {e : TypeId} {ad : Option Addr} {n cap : Nat} {us vs : List Value}
/-- m elements are appended (m > 0): in place, in the slice's own block; or everything lies in a new block. -/
theorem run_pushK (hK0 : 0 < K) {m c : Nat} (hm0 : 0 < m) {P : Program} {t ty : TypeId} {i : TypeInfo} {z : Value} {bytes : Nat} (ht : P.underlying t = some (.slice e)) (hi : P.info? e = some i) (hz : i.zero = some z) (hs : i.size = K) (hb : i.bytes = bytes) (hzs : z.cells.size = K)
    (r : RowK K w l h e ad n cap us) {a : Addr} (hl : vs.length = m * K) (src : ∀ j v, vs[j]? = some v → w.cell? (a.add j) = some v) (hnews : ∀ v ∈ vs, v.oneCell' = true) (h63 : n + m ≤ maxLen) (hby : (n + m) * bytes ≤ 140737488355328) :
    ∃ g cap' w', (Builtin.append_ #[t, t] ty #[.slice ad n cap, .slice (some a) m c]).run P w = .ok (.slice (some ⟨g, 0, none⟩) (n + m) cap') w' ∧ RowK K w' g (g + 1) e (some ⟨g, 0, none⟩) (n + m) cap' (us ++ vs) ∧
      ((ad = some ⟨g, 0, none⟩ ∧ l ≤ g ∧ g < h ∧ g < w.heap.size ∧ Mv w w' g (g + 1)) ∨ (w.heap.size ≤ g ∧ Below w.heap.size w w')) := by
  have hlen : (us ++ vs).length = (n + m) * K := by rw [List.length_append, r.len, hl, Nat.add_mul]
  have hl1 : vs.length = m * K := hl
  have hone : ∀ v ∈ us ++ vs, v.oneCell' = true := fun v hv => (List.mem_append.1 hv).elim (r.one v) (hnews v)
  have fin : ∀ v' w' base, w'.ownsRow base e K v' (n + m) (us ++ vs) → ∃ g cap', v' = .slice (some ⟨g, 0, none⟩) (n + m) cap' ∧ base ≤ g ∧ RowK K w' g (g + 1) e (some ⟨g, 0, none⟩) (n + m) cap' (us ++ vs) := by
    intro v' w' base o
    rcases o.2 with ⟨rfl, h0⟩ | ⟨g, c', cur, rfl, g1, g2, g3, g4, g5⟩
    · omega
    · refine ⟨g, c', rfl, g1, hlen, g3, g4, hone, .inr ⟨g, rfl, Nat.le_refl _, Nat.lt_succ_self _, o.1, .inr ⟨g, c', cur, rfl, Nat.le_refl _, g2, g3, g4, g5⟩⟩⟩
  rcases r.own with ⟨rfl, rfl⟩ | ⟨g, rfl, g1, g2, o⟩
  · have hx0 : us = [] := List.eq_nil_of_length_eq_zero (by rw [r.len, Nat.zero_mul])
    subst hx0
    cases ad with
    | none =>
      obtain ⟨v', w', hr, ho, hg, _⟩ := run_append_own (P := P) w w.heap.size t ty e i z K bytes ht hi hz hs hb hzs hK0 (.slice none 0 0) 0 [] (World.ownsRow_nil w _ e K) a m c vs hl1 src hnews h63 hby (Nat.le_refl _)
      obtain ⟨g, cap', rfl, hge, hrow⟩ := fin v' w' _ (by simpa using ho)
      exact ⟨g, cap', w', by simpa using hr, hrow, .inr ⟨hge, hg.os, hg.tape, hg.output, hg.size, fun k hk => hg.block k hk (by simp [Value.ownBlock])⟩⟩
    | some b =>
      obtain ⟨v', w', hr, ho, hg⟩ := run_append_arg_grows (P := P) w t ty e i z K bytes ht hi hz hs hb hzs hK0 b 0 0 [] (by simp) (by simp) a m c vs hl1 src (by omega) h63 hby
      obtain ⟨g, cap', rfl, hge, hrow⟩ := fin v' w' _ (by simpa using ho)
      exact ⟨g, cap', w', by simpa using hr, hrow, .inr ⟨hge, hg.os, hg.tape, hg.output, hg.size, fun k hk => hg.block k hk (by simp)⟩⟩
  · by_cases hroom : n + m ≤ cap
    · obtain ⟨w', hr, ho, hg⟩ := run_append_fits (P := P) w l t ty e i K ht hi hs g n cap us o a m c vs hl1 src hnews hroom
      obtain ⟨g', cap', hv, _, hrow⟩ := fin _ w' _ ho
      obtain ⟨rfl, rfl⟩ : g = g' ∧ cap = cap' := by simpa using hv
      exact ⟨g, cap, w', hr, hrow, .inl ⟨rfl, g1, g2, owns_lt o, hg.os, hg.tape, hg.output, hg.size, fun k hk hk2 => hg.block k hk (by simp; omega)⟩⟩
    · obtain ⟨v', w', hr, ho, hg⟩ := run_append_arg_grows (P := P) w t ty e i z K bytes ht hi hz hs hb hzs hK0 ⟨g, 0, none⟩ n cap us r.len (fun j v hv => o.cells (g := g) rfl j v hv) a m c vs hl1 src (by omega) h63 hby
      obtain ⟨g', cap', rfl, hge, hrow⟩ := fin v' w' _ ho
      exact ⟨g', cap', w', hr, hrow, .inr ⟨hge, hg.os, hg.tape, hg.output, hg.size, fun k hk => hg.block k hk (by simp)⟩⟩
theorem run_snocK (hK0 : 0 < K) {P : Program} {t ty : TypeId} {i : TypeInfo} {z : Value} {bytes : Nat} (ht : P.underlying t = some (.slice e)) (hi : P.info? e = some i) (hz : i.zero = some z) (hs : i.size = K) (hb : i.bytes = bytes) (hzs : z.cells.size = K)
    (r : RowK K w l h e ad n cap us) {a : Addr} (hl : vs.length = K) (src : ∀ j v, vs[j]? = some v → w.cell? (a.add j) = some v) (hnews : ∀ v ∈ vs, v.oneCell' = true) (h63 : n + 1 ≤ maxLen) (hby : (n + 1) * bytes ≤ 140737488355328) :
    ∃ g cap' w', (Builtin.append_ #[t, t] ty #[.slice ad n cap, .slice (some a) 1 1]).run P w = .ok (.slice (some ⟨g, 0, none⟩) (n + 1) cap') w' ∧ RowK K w' g (g + 1) e (some ⟨g, 0, none⟩) (n + 1) cap' (us ++ vs) ∧
      ((ad = some ⟨g, 0, none⟩ ∧ l ≤ g ∧ g < h ∧ g < w.heap.size ∧ Mv w w' g (g + 1)) ∨ (w.heap.size ≤ g ∧ Below w.heap.size w w')) :=
  run_pushK hK0 (m := 1) (c := 1) (by decide) ht hi hz hs hb hzs r (by rw [hl, Nat.one_mul]) src hnews h63 hby
end

/-- 'append(l, x...)' of at least one element, as the walk meets it. -/
theorem wpList_pushK {K : Nat} (hK0 : 0 < K) {P : Program} {w : World} {ops : Array Oper} {rest : List Oper} {o : Oper} {a : Act} {Q : Exit → Act → World → Prop} {l h : Nat} {e : TypeId} {ad : Option Addr} {n cap m c : Nat} {us vs : List Value} (hm0 : 0 < m)
    (r : RowK K w l h e ad n cap us) {A : Addr} (hl : vs.length = m * K) (src : ∀ j v, vs[j]? = some v → w.cell? (A.add j) = some v) (hnews : ∀ v ∈ vs, v.oneCell' = true) {t : TypeId} (ht : P.underlying t = some (.slice e)) {z : Value} {bytes : Nat}
    (hinfo : (P.info? e).map (fun i => (i.zero, i.size, i.bytes)) = some (some z, K, bytes)) (hzs : z.cells.size = K) (h63 : n + m ≤ maxLen) (hby : (n + m) * bytes ≤ 140737488355328)
    (hg : o.guard = none) (p q : Operand) (hop : o.op = Op.call { callee := Callee.builtin Builtin.append, args := #[p, q], argTypes := #[t, t] }) (hp : a.eval p = .slice ad n cap) (hq : a.eval q = .slice (some A) m c)
    (hK : ∀ g cap' w', RowK K w' g (g + 1) e (some ⟨g, 0, none⟩) (n + m) cap' (us ++ vs) → Put w w' l h ad g → wpList P ops Q rest (a.put o.dst (.slice (some ⟨g, 0, none⟩) (n + m) cap')) w') : wpList P ops Q (o :: rest) a w := by
  obtain ⟨i, hi, hz, hs, hb⟩ := info_parts hinfo
  refine wpList_plain hg fun Kp hK' => ?_
  obtain ⟨g, cap', w', hrun, hr, hm⟩ := run_pushK hK0 (P := P) (t := t) (ty := o.type) (c := c) hm0 ht hi hz hs hb hzs r hl src hnews h63 hby
  unfold Oper.wp
  simp [execOp, hop, resolve, invoke, builtin, hp, hq, hrun, Result.andThen]
  exact hK' _ _ (hK g cap' w' hr hm)
/-- 'append(l, u)' at a step of a region that draws its order. -/
theorem step_snocK {K : Nat} (hK0 : 0 < K) {P : Program} {w : World} {ops : Array Oper} {o : Oper} {a : Act} {Kp : Act → World → Prop} {Q : Exit → Act → World → Prop} {E : Prop} {l h : Nat} {e : TypeId} {ad : Option Addr} {n cap : Nat} {us vs : List Value}
    (r : RowK K w l h e ad n cap us) {A : Addr} (hl : vs.length = K) (src : ∀ j v, vs[j]? = some v → w.cell? (A.add j) = some v) (hnews : ∀ v ∈ vs, v.oneCell' = true) {t : TypeId} (ht : P.underlying t = some (.slice e)) {z : Value} {bytes : Nat}
    (hinfo : (P.info? e).map (fun i => (i.zero, i.size, i.bytes)) = some (some z, K, bytes)) (hzs : z.cells.size = K) (h63 : n + 1 ≤ maxLen) (hby : (n + 1) * bytes ≤ 140737488355328)
    (hg : o.guard = none) (p q : Operand) (hop : o.op = Op.call { callee := Callee.builtin Builtin.append, args := #[p, q], argTypes := #[t, t] }) (hp : a.eval p = .slice ad n cap) (hq : a.eval q = .slice (some A) 1 1)
    (hK : ∀ g cap' w', RowK K w' g (g + 1) e (some ⟨g, 0, none⟩) (n + 1) cap' (us ++ vs) → Put w w' l h ad g → Kp (a.put o.dst (.slice (some ⟨g, 0, none⟩) (n + 1) cap')) w') :
    if Region.wanted o (yielded ops a.tmps) = true then Oper.wp P o a w Kp Q else E := by
  have hw : Region.wanted o (yielded ops a.tmps) = true := by simp [Region.wanted, hg]
  rw [if_pos hw]
  obtain ⟨i, hi, hz, hs, hb⟩ := info_parts hinfo
  obtain ⟨g, cap', w', hrun, hr, hm⟩ := run_snocK hK0 (P := P) (t := t) (ty := o.type) ht hi hz hs hb hzs r hl src hnews h63 hby
  unfold Oper.wp
  simp [execOp, hop, resolve, invoke, builtin, hp, hq, hrun, Result.andThen]
  exact hK _ _ _ hr hm
end Go.Proofs.YtkhfkccbnhjmjaaDoor.Seq
namespace Go.Proofs.YtkhfkccbnhjmjaaDoor.RedW
open Go.ChangeShapes Go.WideShapes Go.ChangeAt Go.RowKit
open Go.Proofs.YtkhfkccbnhjmjaaDoor.Seq Go.Proofs.YtkhfkccbnhjmjaaDoor.Help
section
variable {w w' : World} {l h l' h' : Nat} {e e1 : TypeId} {ad : Option Addr} {n cap : Nat} {us : List Value} {xss : List (List Int)} {u : Value} {xs : List Int}
end
end Go.Proofs.YtkhfkccbnhjmjaaDoor.RedW
namespace Go.Proofs.YtkhfkccbnhjmjaaDoor.Shape
open Go.ChangeShapes Go.WideShapes Go.ChangeAt Go.RowKit
open Go.Proofs.YtkhfkccbnhjmjaaDoor.Seq Go.Proofs.YtkhfkccbnhjmjaaDoor.Help

/-- An answer in new memory; one with a truth value. -/
def Ret (P : World → Nat → Nat → Value → Prop) (w : World) (e : Ending) (w' : World) : Prop := ∃ u, e = .returned u ∧ P w' w.heap.size w'.heap.size u ∧ Below w.heap.size w w'
def RetB (P : World → Nat → Nat → Value → Prop) (b : Bool) (w : World) (e : Ending) (w' : World) : Prop := ∃ u, e = .returned (.tuple #[u, .bool b]) ∧ P w' w.heap.size w'.heap.size u ∧ Below w.heap.size w w'
/-- A comparison, a mark, a look, a measure. -/
def Says (v : Value) (w : World) (e : Ending) (w' : World) : Prop := e = .returned v ∧ Below w.heap.size w w'
section
variable {w w' : World} {l h l' h' B : Nat} {v : Value}
/-! slices of integers -/
def IntSI (w : World) (l h : Nat) (v : Value) (xs : List Int) : Prop := ∃ ad n cap, v = .slice ad n cap ∧ Sl w l h .i64 ad n cap xs
def IntSF (xs : List Int) : Prop := xs.length ≤ 1048576
/-! slices of slices of integers -/
def IntSSI (w : World) (l h : Nat) (v : Value) (xss : List (List Int)) : Prop := ∃ ad n cap, v = .slice ad n cap ∧ Sls w l h ad n cap xss
theorem IntSSI_below {x : List (List Int)} (s : IntSSI w l h v x) (m : Below B w w') (hB : h ≤ B ∨ w.heap.size ≤ B) : IntSSI w' l h v x := by obtain ⟨_, _, _, rfl, s⟩ := s; exact ⟨_, _, _, rfl, s.below m hB⟩
/-! bases: a width and rows -/
abbrev Bs := Int × List (List Int)
def BasisI (w : World) (l h : Nat) (v : Value) (b : Bs) : Prop := ∃ u, v = .agg #[.int .i64 b.1, u] ∧ (-9223372036854775808 ≤ b.1 ∧ b.1 ≤ 9223372036854775807) ∧ IntSSI w l h u b.2
def BasisF (b : Bs) : Prop := Small b.2
theorem BasisI_below {x : Bs} (s : BasisI w l h v x) (m : Below B w w') (hB : h ≤ B ∨ w.heap.size ≤ B) : BasisI w' l h v x := by obtain ⟨_, rfl, hw, s⟩ := s; exact ⟨_, rfl, hw, IntSSI_below s m hB⟩
end

/-! the helpers -/
section
variable {w : World} {l h l2 h2 : Nat} {v v2 : Value}
/-- A block of two values. -/
structure Blk (w : World) (b : Nat) (T : TypeId) (x y : Value) : Prop where
  obj : w.heap[b]? = some (.cells #[x, y] T (0, 0))
theorem Blk.new (w : World) (x y : Value) (T : TypeId) : Blk (w.alloc (.cells #[x, y] T)) w.heap.size T x y := ⟨heap_alloc_new w _⟩
theorem Blk.c0 {w : World} {b : Nat} {T : TypeId} {x y : Value} (h : Blk w b T x y) : w.cell? ⟨b, 0, none⟩ = some x := by simp [World.cell?, h.obj]
theorem Blk.c1 {w : World} {b : Nat} {T : TypeId} {x y : Value} (h : Blk w b T x y) : w.cell? ⟨b, 1, none⟩ = some y := by simp [World.cell?, h.obj]
theorem below_box (w : World) (o : Obj) : Below w.heap.size w (w.alloc o) := (Below.refl _ _).alloc (Nat.le_refl _) _
abbrev GenerationI := BasisI
abbrev GenerationF := BasisF
theorem GenerationI_below {w w' : World} {l h B : Nat} {v : Value} {x : Bs} (s : GenerationI w l h v x) (m : Below B w w') (hB : h ≤ B ∨ w.heap.size ≤ B) : GenerationI w' l h v x := BasisI_below s m hB
end
end Go.Proofs.YtkhfkccbnhjmjaaDoor.Shape
namespace Go.Proofs.YtkhfkccbnhjmjaaDoor.Seq
open Go.RowKit Go.WideShapes

section
variable {w w' : World} {l h : Nat} {e : TypeId} {n cap : Nat} {us vs : List Value} {g : Nat}
/-! a block of one-cell values, whole -/
end
end Go.Proofs.YtkhfkccbnhjmjaaDoor.Seq
namespace Go.Proofs.YtkhfkccbnhjmjaaDoor.Rref
open Go.Proofs.YtkhfkccbnhjmjaaDoor.Field Go.Proofs.YtkhfkccbnhjmjaaDoor.Vec Go.Proofs.YtkhfkccbnhjmjaaDoor.Mat Go.Proofs.YtkhfkccbnhjmjaaDoor.MatP Go.Proofs.YtkhfkccbnhjmjaaDoor.Lin

/-- The entries of a matrix; 0 outside. -/
def ent (m : List (List Int)) : Nat → V := fun i j => toF ((m[i]?.getD [])[j]?.getD 0)
theorem toF_em (x : F) : toF (em x) = x := em_inj (em_toF (em_el x))
theorem mk_ent {m : List (List Int)} (h : isMat m = true) : mk m.length (colsOf m) (ent m) = m := by
  apply List.ext_getElem?
  intro i
  unfold mk ent
  by_cases hi : i < m.length
  · rw [List.getElem?_map, List.getElem?_range hi, List.getElem?_eq_getElem hi]
    obtain ⟨h1, h2⟩ := (isMat_iff.1 h).1 _ (List.getElem_mem hi)
    simp only [Option.map_some]
    rw [← h2, List.getElem?_eq_getElem hi, Option.getD_some, ← of_isVec h1]
  · rw [List.getElem?_eq_none (by simp; omega), List.getElem?_eq_none (by omega)]
theorem ent_supp {m : List (List Int)} (h : isMat m = true) (l : Nat) : Supp (colsOf m) (ent m l) := by
  intro j hj
  unfold ent
  by_cases hl : l < m.length
  · have e : m[l]?.getD [] = m[l] := by simp [hl]
    have h2 := ((isMat_iff.1 h).1 _ (List.getElem_mem hl)).2
    rw [e, List.getElem?_eq_none (by omega)]; rfl
  · have e : m[l]? = none := List.getElem?_eq_none (by omega)
    rw [e]; rfl
/-- r are the reduced rows of the rows M (m of them, of w numbers). -/
def IsRed (m w : Nat) (M : Nat → V) (r : List (List Int)) : Prop :=
  ∃ (n : Nat) (R : Nat → V) (p : Nat → Nat), r = mk n w R ∧ Red n w R p ∧ n ≤ m ∧ (∀ i, i < n → Span m M (R i)) ∧ ∀ l, l < m → Span n R (M l)
section
variable (inv : F → F) (hinv : ∀ x : F, x ≠ 0 → x * inv x = 1)
include hinv
theorem IsRed.uniq {m w : Nat} {M : Nat → V} {r r' : List (List Int)} (h : IsRed m w M r) (h' : IsRed m w M r') : r = r' := by
  obtain ⟨n, R, p, rfl, h1, _, h3, h4⟩ := h
  obtain ⟨n', R', p', rfl, k1, _, k3, k4⟩ := h'
  obtain ⟨rfl, _, hR⟩ := Red.uniq inv hinv h1 k1 (fun i hi => span_trans k4 (h3 i hi)) (fun i hi => span_trans h4 (k3 i hi))
  exact mk_congr fun i j hi _ => by rw [hR i hi]
end
open Classical in
/-- The reduced rows of a matrix; none of what is no matrix. -/
noncomputable def rref (m : List (List Int)) : List (List Int) :=
  if h : isMat m = true ∧ ∃ r, IsRed m.length (colsOf m) (ent m) r then Classical.choose h.2 else []
theorem rref_no {m : List (List Int)} (h : isMat m = false) : rref m = [] := by
  unfold rref
  rw [dif_neg (by rw [h]; simp)]
theorem rref_is (inv : F → F) (hinv : ∀ x : F, x ≠ 0 → x * inv x = 1) {m r : List (List Int)} (h : isMat m = true) (hr : IsRed m.length (colsOf m) (ent m) r) : rref m = r := by
  unfold rref
  have hx : isMat m = true ∧ ∃ r, IsRed m.length (colsOf m) (ent m) r := ⟨h, r, hr⟩
  rw [dif_pos hx]
  exact IsRed.uniq inv hinv (Classical.choose_spec hx.2) hr
/-- The field's inverse, as a function of its numbers. -/
def invF (x : F) : F := toF (Field.inv (em x))
theorem invF_ok (x : F) (h : x ≠ 0) : x * invF x = 1 := by
  have hne : em x ≠ 0 := fun e => h (em_inj e)
  obtain ⟨h1, _, h3⟩ := inv_el (em_el x) hne
  obtain ⟨y, hy⟩ := of_el h1
  rw [← hy, mul_em] at h3
  unfold invF
  rw [← hy, toF_em]
  exact em_inj h3
theorem em_invF (x : F) (h : x ≠ 0) : em (invF x) = Field.inv (em x) := em_toF (inv_el (em_el x) fun e => h (em_inj e)).1
end Go.Proofs.YtkhfkccbnhjmjaaDoor.Rref
namespace Go.Proofs.YtkhfkccbnhjmjaaDoor.RedW
open Go.ChangeShapes Go.WideShapes Go.ChangeAt Go.RowKit
open Go.Proofs.YtkhfkccbnhjmjaaDoor.Seq Go.Proofs.YtkhfkccbnhjmjaaDoor.Help Go.Proofs.YtkhfkccbnhjmjaaDoor.Field Go.Proofs.YtkhfkccbnhjmjaaDoor.FieldW Go.Proofs.YtkhfkccbnhjmjaaDoor.Vec Go.Proofs.YtkhfkccbnhjmjaaDoor.VecW Go.Proofs.YtkhfkccbnhjmjaaDoor.Mat Go.Proofs.YtkhfkccbnhjmjaaDoor.MatW Go.Proofs.YtkhfkccbnhjmjaaDoor.MatP Go.Proofs.YtkhfkccbnhjmjaaDoor.Lin Go.Proofs.YtkhfkccbnhjmjaaDoor.Rref

theorem vec_get {n j : Nat} (f : Nat → F) (h : j < n) : (vec n f)[j]? = some (em (f j)) := by unfold vec; simp [h]
theorem mk_get {n c j : Nat} (f : Nat → V) (h : j < n) : (mk n c f)[j]? = some (vec c (f j)) := by unfold mk; simp [h]
theorem mk_set {n c j : Nat} (f : Nat → V) (v : V) (h : j < n) : (mk n c f).set j (vec c v) = mk n c (fun l => if l = j then v else f l) := by
  apply List.ext_getElem?
  intro i
  rw [List.getElem?_set]
  by_cases hij : j = i
  · subst hij
    rw [if_pos rfl, if_pos (by rw [mk_len]; exact h), mk_get _ h, if_pos rfl]
  · rw [if_neg hij]
    unfold mk
    rw [List.getElem?_map, List.getElem?_map]
    cases hi : (List.range n)[i]? with
    | none => rfl
    | some x =>
      obtain ⟨h1, h2⟩ := List.getElem?_eq_some_iff.1 hi
      obtain rfl : i = x := by simpa using h2
      simp only [Option.map_some]
      rw [if_neg (fun e : i = j => hij e.symm)]
theorem mk_take {n a c : Nat} (f : Nat → V) (h : a ≤ n) : (mk n c f).take a = mk a c f := by
  unfold mk
  rw [← List.map_take, List.take_range, Nat.min_eq_left h]
/-- A row that is cleared at a column. -/
theorem clear_row {c k : Nat} (u v : V) (hc : c ≤ 40) (h : u k ≠ 0) : addScaled (vec c u) (vec c v) (1019 - em (u k)) = vec c fun j => u j + v j * (0 - u k) := by
  have e : 1019 - em (u k) = em (0 - u k) := by
    rw [em_sub, em_0]
    have h1 := em_in (u k)
    have h2 : em (u k) ≠ 0 := fun e => h (em_inj e)
    omega
  rw [e, adds_vec _ _ _ hc]
/-- A pivot's row. -/
theorem pivot_row {c k : Nat} (v : V) (hc : c ≤ 40) (h : v k ≠ 0) : scale (vec c v) (Field.inv (em (v k))) = vec c fun j => v j * invF (v k) := by
  rw [← em_invF _ h, vec_ems, scale_ems (by simpa using hc), vec_ems]
  congr 1
  rw [List.map_map]; rfl
theorem full {m k k' : Nat} {M : Nat → V} {p : Nat → Nat} (h : Elim m m k M p) (hk : k ≤ k') : Elim m m k' M p :=
  ⟨h.le, fun i hi => Nat.lt_of_lt_of_le (h.lt i hi) hk, h.up, h.one, h.zero, h.ahead, fun l j h1 h2 _ => by omega⟩
/-- The rows while one column is cleared: up to row i it is done. -/
def part (M : Nat → V) (A q K i l : Nat) : V := if l < i then cleared invF M A q K l else if l = A then cleared invF M A q K A else swapped M A q l
theorem part_own {M : Nat → V} {A q K i : Nat} (h : i ≠ A) : part M A q K i i = swapped M A q i := by unfold part; rw [if_neg (by omega), if_neg h]
theorem part_piv {M : Nat → V} {A q K i : Nat} : part M A q K i A = cleared invF M A q K A := by
  unfold part
  by_cases h : A < i
  · rw [if_pos h]
  · rw [if_neg h, if_pos rfl]
theorem part_more {M : Nat → V} {A q K i : Nat} (h : i ≠ A) (l : Nat) : part M A q K (i + 1) l = if l = i then (fun j => swapped M A q i j + cleared invF M A q K A j * (0 - swapped M A q i K)) else part M A q K i l := by
  unfold part
  by_cases e : l = i
  · subst e
    rw [if_pos (by omega), if_pos rfl]
    funext j
    rw [cleared_o _ _ _ _ _ h, cleared_a]
  · rw [if_neg e]
    by_cases h1 : l < i
    · rw [if_pos (by omega), if_pos h1]
    · rw [if_neg (by omega), if_neg h1]
theorem part_same {M : Nat → V} {A q K i : Nat} (h : i = A ∨ swapped M A q i K = 0) (l : Nat) : part M A q K (i + 1) l = part M A q K i l := by
  by_cases e : i = A
  · subst e
    unfold part
    by_cases h1 : l < i
    · rw [if_pos (by omega), if_pos h1]
    · rw [if_neg h1]
      by_cases h2 : l = i
      · subst h2; rw [if_pos (by omega), if_pos rfl]
      · rw [if_neg (by omega), if_neg h2]
  · rw [part_more e]
    by_cases h1 : l = i
    · subst h1
      rw [if_pos rfl, part_own e]
      funext j
      show swapped M A q l j + cleared invF M A q K A j * (0 - swapped M A q l K) = swapped M A q l j
      rw [h.resolve_left e]; grind
    · rw [if_neg h1]
theorem part_0 (M : Nat → V) (A q K l : Nat) : part M A q K 0 l = if l = A then cleared invF M A q K A else if l = q then M A else M l := by
  unfold part
  rw [if_neg (by omega)]
  by_cases h : l = A
  · rw [if_pos h, if_pos h]
  · rw [if_neg h, if_neg h]; unfold swapped; rw [if_neg h]
theorem part_all {M : Nat → V} {A q K n l : Nat} (h : l < n) : part M A q K n l = cleared invF M A q K l := if_pos h
theorem span_self (n : Nat) (M : Nat → V) : ∀ l, l < n → Span n M (M l) := fun _ h => span_mem h
end Go.Proofs.YtkhfkccbnhjmjaaDoor.RedW
namespace Go.Proofs.YtkhfkccbnhjmjaaDoor.RedW
open Go.ChangeShapes Go.WideShapes Go.ChangeAt Go.RowKit
open Go.Proofs.YtkhfkccbnhjmjaaDoor.Drawn Go.Proofs.YtkhfkccbnhjmjaaDoor.Seq Go.Proofs.YtkhfkccbnhjmjaaDoor.Help Go.Proofs.YtkhfkccbnhjmjaaDoor.Field Go.Proofs.YtkhfkccbnhjmjaaDoor.FieldW Go.Proofs.YtkhfkccbnhjmjaaDoor.Vec Go.Proofs.YtkhfkccbnhjmjaaDoor.VecW Go.Proofs.YtkhfkccbnhjmjaaDoor.Mat Go.Proofs.YtkhfkccbnhjmjaaDoor.MatW Go.Proofs.YtkhfkccbnhjmjaaDoor.MatP Go.Proofs.YtkhfkccbnhjmjaaDoor.Lin Go.Proofs.YtkhfkccbnhjmjaaDoor.Rref

theorem sls_take {w : World} {l h : Nat} {ad : Option Addr} {n cap A : Nat} {xss : List (List Int)} (s : Sls w l h ad n cap xss) (hA : A ≤ n) : Sls w l h ad A cap (xss.take A) := by
  refine ⟨by rw [List.length_take, s.len]; omega, Nat.le_trans hA s.le, s.big, s.nil, fun j xs hx => ?_⟩
  rw [List.getElem?_take] at hx
  split at hx
  · exact s.cells j xs hx
  · cases hx
/-- New memory that reads as these rows; where none has been left out, their list may be appended to. -/
def ReadsG (all : Prop) (xss : List (List Int)) (w : World) (e : Ending) (w' : World) : Prop :=
  ∃ ad n cap, e = .returned (.slice ad n cap) ∧ Sls w' w.heap.size w'.heap.size ad n cap xss ∧ Below w.heap.size w w' ∧ (all → ∃ us, Loose w' w.heap.size w'.heap.size 3 27 ad n cap us xss)
def ReducedG (m : List (List Int)) (K0 : Nat) (w : World) (e : Ending) (w' : World) : Prop :=
  ∃ (A : Nat) (M : Nat → V) (p : Nat → Nat), Elim m.length A K0 M p ∧ (∀ l, l < m.length → Span m.length (ent m) (M l)) ∧ (∀ l, l < m.length → Span m.length M (ent m l)) ∧ ReadsG (A = m.length) (mk A (colsOf m) M) w e w'
/-- What elimination hands back: the first rows of an eliminated matrix with the same span. -/
def Reduced (m : List (List Int)) (K0 : Nat) (w : World) (e : Ending) (w' : World) : Prop :=
  ∃ (A : Nat) (M : Nat → V) (p : Nat → Nat), Elim m.length A K0 M p ∧ (∀ l, l < m.length → Span m.length (ent m) (M l)) ∧ (∀ l, l < m.length → Span m.length M (ent m l)) ∧ Reads2 (mk A (colsOf m) M) w e w'
set_option maxRecDepth 100000 in
set_option maxHeartbeats 1600000 in
theorem spec_reduceG (w : World) {l h : Nat} {ad : Option Addr} {n cap : Nat} {m : List (List Int)} (s : Sls w l h ad n cap m) (hm : isMat m = true) (K0 : Nat) (hK : 0 < m.length → K0 ≤ colsOf m) :
    Calls Tryd.prog 119 #[.slice ad n cap, .int .i64 K0] w (ReducedG m K0 w) := by
  have hL := s.len
  have hn40 := (isMat_iff.1 hm).2
  have hc40 := colsOf_le hm
  have hsh : ∀ xs ∈ m, xs.length ≤ 17592186044416 := fun xs hx => by have := (isVec_iff.1 ((isMat_iff.1 hm).1 xs hx).1).2; omega
  rw [hL] at hn40
  have HC := Lib.hid (spec_copy w s (by omega) hsh)
  have HM := Lib.hid (mk_ent hm)
  clear hsh
  unfold ReducedG
  rw [hL] at HM hK ⊢
  obtain ⟨c, hc⟩ : ∃ c, colsOf m = c := ⟨_, rfl⟩
  rw [hc] at HM hK hc40 ⊢
  generalize hM0 : ent m = M0 at *
  clear hc hM0 hm s hL
  go_enter Tryd.func119, Tryd.ntmps119
  go_wp2_with fail
  go_at_call 125
  refine HC.out.mono ?_
  rintro e w1 ⟨ad1, n1, cap1, us, rfl, r1, b1⟩
  have hr := HM.out ▸ r1
  obtain rfl : n1 = n := by rw [← hr.len, mk_len]
  have z1 := b1.size
  clear HC r1
  rcases Nat.eq_zero_or_pos n1 with hn0 | hn0
  · subst hn0
    have HS := Lib.hid (sls_take (A := 0) hr.sls (Nat.le_refl _))
    have HLO := Lib.hid (show Loose w1 w.heap.size w1.heap.size 3 27 ad1 0 cap1 us (mk 0 c M0) from hr.loose)
    have hle9 := hr.out.le
    have hbg9 := hr.out.big
    unfold maxLen at hbg9
    clear HM hr
    go_wp2
    go_loopw [6, 7] (fun a k wr => a = .int .i64 (0 : Nat) ∧ k = .int .i64 (0 : Nat) ∧ wr = w1) (fun _ _ _ => 0)
    case atStart => exact ⟨rfl, rfl, rfl⟩
    case round =>
      obtain ⟨rfl, rfl, rfl⟩ := hrel
      by_cases hK0 : K0 = 0
      · subst hK0
        go_wp2
        go_ret
        exact ⟨0, M0, fun _ => 0, Elim.start _ _ _, span_self _ _, span_self _ _, _, _, _, rfl, HS.out.mono (Nat.le_refl _) (Nat.le_refl _), b1, fun _ => ⟨_, HLO.out⟩⟩
      · have hK1 : 0 < K0 := by omega
        go_wp2
        go_ret
        exact ⟨0, M0, fun _ => 0, full (Elim.start _ _ _) (Nat.zero_le _), span_self _ _, span_self _ _, _, _, _, rfl, HS.out.mono (Nat.le_refl _) (Nat.le_refl _), b1, fun _ => ⟨_, HLO.out⟩⟩
  replace hK := hK hn0
  obtain ⟨g, rfl, hr1⟩ := Rws.of hr hn0
  clear HM hr
  go_wp2
  go_loopw [6, 7] (fun a k wr => ∃ (A K : Nat) (M : Nat → V) (p : Nat → Nat) (vs : List Value), A ≤ n1 ∧ K ≤ K0 ∧ a = .int .i64 A ∧ k = .int .i64 K ∧ Rws wr w.heap.size wr.heap.size 3 27 g n1 cap1 vs (mk n1 c M) ∧
    Hid (Elim n1 A K M p ∧ (∀ l, l < n1 → Span n1 M0 (M l)) ∧ ∀ l, l < n1 → Span n1 M (M0 l)) ∧ Below w.heap.size w wr) (fun _ k _ => K0 - (intOf k).toNat)
  case atStart => exact ⟨0, 0, M0, fun _ => 0, us, Nat.zero_le _, Nat.zero_le _, rfl, rfl, hr1, ⟨Elim.start _ _ _, span_self _ _, span_self _ _⟩, b1⟩
  case round =>
    obtain ⟨A, K, M, p, vs, hA, hK', rfl, rfl, hr, HE, hb⟩ := hrel
    have zb := hb.size
    by_cases hKK : K = K0
    · subst hKK
      have HS := Lib.hid (sls_take hr.sls hA)
      have HLO := Lib.hid hr.loose
      have hle9 := hr.out.le
      have hbg9 := hr.out.big
      unfold maxLen at hbg9
      have HF := Lib.hid (HE.out)
      clear hr HE
      go_wp2
      go_ret
      exact ⟨A, M, p, HF.out.1, HF.out.2.1, HF.out.2.2, _, _, _, rfl, by rw [← mk_take M hA]; exact HS.out.mono (Nat.le_refl _) (Nat.le_refl _), hb, fun hAll => ⟨vs, by first | exact HLO.out | (subst hAll; exact HLO.out)⟩⟩
    have hK1 : K < K0 := by omega
    by_cases hAn : A = n1
    · subst hAn
      have HS := Lib.hid (sls_take hr.sls hA)
      have HLO := Lib.hid hr.loose
      have hle9 := hr.out.le
      have hbg9 := hr.out.big
      unfold maxLen at hbg9
      have HF := Lib.hid ((And.intro (full HE.out.1 hK') HE.out.2))
      clear hr HE
      go_wp2
      go_ret
      exact ⟨A, M, p, HF.out.1, HF.out.2.1, HF.out.2.2, _, _, _, rfl, by rw [← mk_take M hA]; exact HS.out.mono (Nat.le_refl _) (Nat.le_refl _), hb, fun hAll => ⟨vs, by first | exact HLO.out | (subst hAll; exact HLO.out)⟩⟩
    have hA1 : A < n1 := by omega
    go_wp2
    go_loop [8] (fun i => ∃ q : Nat, A ≤ q ∧ q ≤ n1 ∧ i = .int .i64 q ∧ Hid (∀ l, A ≤ l → l < q → M l K = 0)) (fun i => n1 - (intOf i).toNat)
    case atStart => exact ⟨A, Nat.le_refl _, hA, rfl, fun l h1 h2 => by omega⟩
    case round =>
      obtain ⟨q, hq1, hq2, rfl, HZ⟩ := hrel
      by_cases hqn : q = n1
      · subst hqn
        have HN := Lib.hid (HE.out.1.none (fun l h1 h2 => HZ.out l h1 h2))
        have HE2 := Lib.hid (And.intro HN.out HE.out.2)
        clear HZ HE HN
        go_wp2
        go_roundw
        case rel => exact ⟨A, K + 1, M, p, vs, hA, hK1, rfl, by go_num, hr, HE2.out, hb⟩
        case measure => simp [intOf]; omega
      have hqn1 : q < n1 := by omega
      obtain ⟨adq, nq, capq, xq, huq, hxq, sq, oq, hcq, hfq⟩ := hr.at_ hqn1
      obtain rfl : vec c (M q) = xq := Option.some.inj ((mk_get M hqn1).symm.trans hxq)
      have hnq : nq = c := by rw [← sq.len, vec_len]
      subst hnq
      obtain ⟨aq, xk, e1, hxk, hck⟩ := sq.at_ (j := K) (by omega)
      obtain rfl : em (M q K) = xk := Option.some.inj ((vec_get (M q) (by omega)).symm.trans hxk.get)
      subst e1
      have hle := sq.le
      have hbg := sq.big
      unfold maxLen at hbg
      have hle2 := hr.out.le
      have hbg2 := hr.out.big
      unfold maxLen at hbg2
      by_cases hz : M q K = 0
      · have hz2 : em (M q K) = 0 := by rw [hz]; rfl
        rw [hz2] at hck
        have HZ2 := Lib.hid (show ∀ l, A ≤ l → l < q + 1 → M l K = 0 from fun l h1 h2 => by
          rcases Nat.lt_or_eq_of_le (Nat.le_of_lt_succ h2) with h3 | rfl
          · exact HZ.out l h1 h3
          · exact hz)
        clear hxk hz HZ
        go_wp2
        go_round
        case rel => exact ⟨q + 1, by omega, by omega, by go_num, HZ2.out⟩
        case measure => simp [intOf]; omega
      have hz2 : (em (M q K) == 0) = false := by simp; exact fun e => hz (em_inj e)
      have hqn2 : ((q : Int) == (n1 : Int)) = false := by simp; omega
      obtain ⟨adA, nA, capA, xA, huA, hxA, sA, oA, hcA, hfA⟩ := hr.at_ hA1
      obtain rfl : vec nq (M A) = xA := Option.some.inj ((mk_get M hA1).symm.trans hxA)
      have hgp := hr.gpos hn0
      have hp1 := hr.put hqn1 oA (fun b hb => hr.away A _ b huA hb)
      have oq1 := OwnInts.keep (g := g) (j := q) oq (fun b hb => hr.away q _ b huq hb) (.slice adA nA capA)
      rw [mk_set M (M A) hqn1] at hp1
      obtain ⟨aq', xk', e1, hxk', hck1⟩ := (OwnInts.sl oq1).at_ (j := K) (by omega)
      obtain rfl : em (M q K) = xk' := Option.some.inj ((vec_get (M q) (by omega)).symm.trans hxk'.get)
      obtain rfl := Option.some.inj e1
      have HP1 := Lib.hid hp1
      have OQ1 := Lib.hid oq1
      clear hp1 oq1 oq oA sA hxA hxq sq hxk hr
      go_wp2_with fail
      go_at_call 126
      refine (spec_inv _ _).mono ?_
      rintro e w' ⟨rfl, rfl⟩
      have hS := spec_scale _ (OwnInts.sl OQ1.out) (Field.inv (em (M q K)))
      rw [pivot_row (M q) hc40 hz] at hS
      have HS := Lib.hid hS
      clear hS
      go_wp2_with fail
      go_at_call 88
      refine HS.out.mono ?_
      rintro e w5 ⟨ad5, n5, cap5, rfl, r5, b5⟩
      have z5 := b5.size
      have zm := HP1.out.2.size
      have hl5 : n5 = nq := by rw [← r5.len, vec_len]
      subst hl5
      have hR := (HP1.out.1.below b5 (.inr (Nat.le_refl _))).mono (h' := w5.heap.size) (by omega)
      have hp2 := hR.put hA1 ((OwnInts.of r5).lo (by omega)) (fun b hb => by have := ((OwnInts.of r5).block hb).1; omega)
      rw [mk_set _ _ hA1] at hp2
      obtain ⟨u0, _, hc0, hf0⟩ := hR.out.there hA1
      rw [show mk n1 n5 (fun l => if l = A then (fun j => M q j * invF (M q K)) else (fun l => if l = q then M A else M l) l) = mk n1 n5 (part M A q K 0) from mk_congr fun i j _ _ => by
        rw [part_0]
        by_cases h : i = A
        · rw [if_pos h, if_pos h, cleared_a]
        · rw [if_neg h, if_neg h]] at hp2
      have hb5 : Below w.heap.size w w5 := (hb.trans (HP1.out.2.below (Nat.le_refl _) zb)).trans (b5.mono (by omega))
      have hb6 := hb5.trans (hp2.2.below (Nat.le_refl _) hb5.size)
      have HP2 := Lib.hid (hp2.1.mono hp2.2.size)
      have HB6 := Lib.hid hb6
      clear HS HP1 OQ1 hR hp2 r5 b5 hb5 hb6 hb
      go_wp2
      go_loopw [10] (fun i w2 => ∃ (I : Nat) (us2 : List Value), I ≤ n1 ∧ i = .int .i64 I ∧ Rws w2 w.heap.size w2.heap.size 3 27 g n1 cap1 us2 (mk n1 n5 (part M A q K I)) ∧ Below w.heap.size w w2) (fun i _ => n1 - (intOf i).toNat)
      case atStart => exact ⟨0, _, Nat.zero_le _, rfl, HP2.out, HB6.out⟩
      case round =>
        obtain ⟨I, us2, hI, rfl, hr2, hb2⟩ := hrel
        have zb2 := hb2.size
        by_cases hIn : I < n1
        case neg =>
          obtain rfl : I = n1 := by omega
          have HE2 := Lib.hid (show Elim I (A + 1) (K + 1) (cleared invF M A q K) (more p A K) ∧ (∀ l, l < I → Span I M0 (cleared invF M A q K l)) ∧ ∀ l, l < I → Span I (cleared invF M A q K) (M0 l) from
            ⟨HE.out.1.pivot invF invF_ok hq1 hqn1 hz, fun l hl => span_trans HE.out.2.1 (cleared_in invF M K hA1 hqn1 l hl), fun l hl => span_trans (in_cleared invF invF_ok M hA1 hqn1 hz) (HE.out.2.2 l hl)⟩)
          rw [mk_congr (g := cleared invF M A q K) fun i j hi _ => by rw [part_all hi]] at hr2
          have HR2 := Lib.hid hr2
          clear hr2
          go_wp2
          go_roundw
          case rel => exact ⟨A + 1, K + 1, _, _, us2, hA1, hK1, by go_num, by go_num, HR2.out, HE2.out, hb2⟩
          case measure => simp [intOf]; omega
        obtain ⟨adI, nI, capI, xI, huI, hxI, sI, oI, hcI, hfI⟩ := hr2.at_ hIn
        obtain rfl : vec n5 (part M A q K I I) = xI := Option.some.inj ((mk_get _ hIn).symm.trans hxI)
        have hnI : nI = n5 := by rw [← sI.len, vec_len]
        subst hnI
        have hle3 := hr2.out.le
        have hbg3 := hr2.out.big
        unfold maxLen at hbg3
        by_cases hIA : I = A
        · subst hIA
          have HM := Lib.hid (mk_congr (r := n1) (c := nI) (fun i j _ _ => by rw [part_same (.inl rfl)] : ∀ i j, i < n1 → j < nI → part M I q K (I + 1) i j = part M I q K I i j))
          clear hxI sI oI
          go_wp2
          go_roundw
          case rel => exact ⟨I + 1, us2, by omega, by go_num, HM.out ▸ hr2, hb2⟩
          case measure => simp [intOf]; omega
        have hIA2 : ((I : Int) != (A : Int)) = true := by simp; omega
        have hIA3 : ((I : Int) == (A : Int)) = false := by simp; omega
        obtain ⟨aI, xk2, e2, hxk2, hck2⟩ := sI.at_ (j := K) (by omega)
        obtain rfl : em (part M A q K I I K) = xk2 := Option.some.inj ((vec_get _ (by omega)).symm.trans hxk2.get)
        subst e2
        rw [part_own hIA] at *
        have hle4 := sI.le
        have hbg4 := sI.big
        unfold maxLen at hbg4
        by_cases hz3 : swapped M A q I K = 0
        · have hz4 : em (swapped M A q I K) = 0 := by rw [hz3]; rfl
          rw [hz4] at hck2
          have HM := Lib.hid (mk_congr (r := n1) (c := nI) (fun i j _ _ => by rw [part_same (.inr hz3)] : ∀ i j, i < n1 → j < nI → part M A q K (I + 1) i j = part M A q K I i j))
          clear hxI sI oI hxk2 hz3 hz4
          go_wp2
          go_roundw
          case rel => exact ⟨I + 1, us2, by omega, by go_num, HM.out ▸ hr2, hb2⟩
          case measure => simp [intOf]; omega
        have hz4 : (em (swapped M A q I K) == 0) = false := by simp; exact fun e => hz3 (em_inj e)
        obtain ⟨adP, nP, capP, xP, huP, hxP, sP, oP, hcP, hfP⟩ := hr2.at_ hA1
        obtain rfl : vec nI (part M A q K I A) = xP := Option.some.inj ((mk_get _ hA1).symm.trans hxP)
        rw [part_piv] at *
        have hS := spec_adds wr.drew (sI.drewN 1) (sP.drewN 1) (1019 - em (swapped M A q I K))
        rw [clear_row (swapped M A q I) _ hc40 hz3] at hS
        have HS := Lib.hid hS
        have hin := em_in (swapped M A q I K)
        have e19 : IntKind.i64.wrap (1019 - em (swapped M A q I K)) = 1019 - em (swapped M A q I K) := by rw [IntKind.wrap_i64]; omega
        have hrD : Rws wr.drew w.heap.size wr.heap.size 3 27 g n1 cap1 us2 (mk n1 nI (part M A q K I)) := hr2.drewN 1
        have hbD : Below w.heap.size w wr.drew := hb2.drew
        have hgp2 := hr2.gpos hn0
        have hKn : K < nI := by omega
        have HRD := Lib.hid hrD
        have HBD := Lib.hid hbD
        have c1 : wr.drew.cell? ⟨g, I, none⟩ = some (.slice (some aI) nI capI) := hcI
        have c2 : wr.drew.cell? ⟨g, A, none⟩ = some (.slice adP nP capP) := hcP
        have c3 : wr.drew.cell? (aI.add K) = some (.int .i64 (em (swapped M A q I K))) := hck2
        clear hS hrD hbD hr2 hb2 sI sP oI oP hxI hxP hxk2 HP2 HB6
        go_wp2
        refine wp_region_last (S := fun w' => w'.cell? ⟨g, I, none⟩ = some (.slice (some aI) nI capI) ∧ w'.cell? ⟨g, A, none⟩ = some (.slice adP nP capP) ∧ w'.cell? (aI.add K) = some (.int .i64 (em (swapped M A q I K)))) 20 (by kernel_rfl) (by kernel_rfl) rfl ?_
        have HH := Lib.hid (And.intro c1 (And.intro c2 c3))
        refine wpAnyH_take (i := 0) (oi := ⟨some 85, _, _, _, _, _⟩) (v := ?_) rfl (by kernel_rfl) (by kernel_rfl) (by kernel_rfl) (fun _ _ _ h => h) (Or.inl ⟨by rfl, ?_⟩) HH.out ?_
        rotate_left
        · intro wS hSw
          try dsimp only at hSw
          go_simp
          all_goals (with_reducible rfl)
        simp only [Act.put, List.setIfInBounds_toArray, List.set_cons_zero, List.set_cons_succ]
        refine wpAnyH_take (i := 1) (oi := ⟨some 86, _, _, _, _, _⟩) (v := ?_) rfl (by kernel_rfl) (by kernel_rfl) (by kernel_rfl) (fun _ _ _ h => h) (Or.inl ⟨by rfl, ?_⟩) HH.out ?_
        rotate_left
        · intro wS hSw
          try dsimp only at hSw
          go_simp
          all_goals (with_reducible rfl)
        simp only [Act.put, List.setIfInBounds_toArray, List.set_cons_zero, List.set_cons_succ]
        refine wpAnyH_take (i := 2) (oi := ⟨some 87, _, _, _, _, _⟩) (v := ?_) rfl (by kernel_rfl) (by kernel_rfl) (by kernel_rfl) (fun _ _ _ h => h) (Or.inl ⟨by rfl, ?_⟩) HH.out ?_
        rotate_left
        · intro wS hSw
          try dsimp only at hSw
          go_simp
          all_goals (with_reducible rfl)
        simp only [Act.put, List.setIfInBounds_toArray, List.set_cons_zero, List.set_cons_succ]
        refine wpAnyH_take (i := 3) (oi := ⟨some 88, _, _, _, _, _⟩) (v := ?_) rfl (by kernel_rfl) (by kernel_rfl) (by kernel_rfl) (fun _ _ _ h => h) (Or.inl ⟨by rfl, ?_⟩) HH.out ?_
        rotate_left
        · intro wS hSw
          try dsimp only at hSw
          go_simp
          all_goals (with_reducible rfl)
        simp only [Act.put, List.setIfInBounds_toArray, List.set_cons_zero, List.set_cons_succ]
        refine wpAnyH_take (i := 4) (oi := ⟨some 89, _, _, _, _, _⟩) (v := ?_) rfl (by kernel_rfl) (by kernel_rfl) (by kernel_rfl) (fun _ _ _ h => h) (Or.inl ⟨by rfl, ?_⟩) HH.out ?_
        rotate_left
        · intro wS hSw
          try dsimp only at hSw
          go_simp
          all_goals (with_reducible rfl)
        simp only [Act.put, List.setIfInBounds_toArray, List.set_cons_zero, List.set_cons_succ]
        refine wpAnyH_take (i := 5) (oi := ⟨some 90, _, _, _, _, _⟩) (v := ?_) rfl (by kernel_rfl) (by kernel_rfl) (by kernel_rfl) (fun _ _ _ h => h) (Or.inl ⟨by rfl, ?_⟩) HH.out ?_
        rotate_left
        · intro wS hSw
          try dsimp only at hSw
          go_simp
          all_goals (with_reducible rfl)
        simp only [Act.put, List.setIfInBounds_toArray, List.set_cons_zero, List.set_cons_succ]
        refine wpAnyH_take (i := 6) (oi := ⟨some 91, _, _, _, _, _⟩) (v := ?_) rfl (by kernel_rfl) (by kernel_rfl) (by kernel_rfl) (fun _ _ _ h => h) (Or.inl ⟨by rfl, ?_⟩) HH.out ?_
        rotate_left
        · intro wS hSw
          try dsimp only at hSw
          go_simp
          all_goals (with_reducible rfl)
        simp only [Act.put, List.setIfInBounds_toArray, List.set_cons_zero, List.set_cons_succ]
        refine wpAnyH_take (i := 7) (oi := ⟨some 92, _, _, _, _, _⟩) (v := ?_) rfl (by kernel_rfl) (by kernel_rfl) (by kernel_rfl) (fun _ _ _ h => h) (Or.inl ⟨by rfl, ?_⟩) HH.out ?_
        rotate_left
        · intro wS hSw
          try dsimp only at hSw
          go_simp
          all_goals (with_reducible rfl)
        simp only [Act.put, List.setIfInBounds_toArray, List.set_cons_zero, List.set_cons_succ]
        refine wpAnyH_take (i := 8) (oi := ⟨some 93, _, _, _, _, _⟩) (v := ?_) rfl (by kernel_rfl) (by kernel_rfl) (by kernel_rfl) (fun _ _ _ h => h) (Or.inl ⟨by rfl, ?_⟩) HH.out ?_
        rotate_left
        · intro wS hSw
          try dsimp only at hSw
          go_simp
          all_goals (with_reducible rfl)
        simp only [Act.put, List.setIfInBounds_toArray, List.set_cons_zero, List.set_cons_succ]
        refine wpAnyH_take (i := 9) (oi := ⟨some 94, _, _, _, _, _⟩) (v := ?_) rfl (by kernel_rfl) (by kernel_rfl) (by kernel_rfl) (fun _ _ _ h => h) (Or.inl ⟨by rfl, ?_⟩) HH.out ?_
        rotate_left
        · intro wS hSw
          try dsimp only at hSw
          go_simp
          all_goals (with_reducible rfl)
        simp only [Act.put, List.setIfInBounds_toArray, List.set_cons_zero, List.set_cons_succ]
        refine wpAnyH_take (i := 10) (oi := ⟨some 95, _, _, _, _, _⟩) (v := ?_) rfl (by kernel_rfl) (by kernel_rfl) (by kernel_rfl) (fun _ _ _ h => h) (Or.inl ⟨by rfl, ?_⟩) HH.out ?_
        rotate_left
        · intro wS hSw
          try dsimp only at hSw
          go_simp
          all_goals (with_reducible rfl)
        simp only [Act.put, List.setIfInBounds_toArray, List.set_cons_zero, List.set_cons_succ]
        refine wpAnyH_take (i := 11) (oi := ⟨some 96, _, _, _, _, _⟩) (v := ?_) rfl (by kernel_rfl) (by kernel_rfl) (by kernel_rfl) (fun _ _ _ h => h) (Or.inl ⟨by rfl, ?_⟩) HH.out ?_
        rotate_left
        · intro wS hSw
          try dsimp only at hSw
          go_simp
          all_goals (with_reducible rfl)
        simp only [Act.put, List.setIfInBounds_toArray, List.set_cons_zero, List.set_cons_succ]
        refine wpAnyH_take (i := 12) (oi := ⟨some 97, _, _, _, _, _⟩) (v := ?_) rfl (by kernel_rfl) (by kernel_rfl) (by kernel_rfl) (fun _ _ _ h => h) (Or.inl ⟨by rfl, ?_⟩) HH.out ?_
        rotate_left
        · intro wS hSw
          try dsimp only at hSw
          go_simp
          all_goals (with_reducible rfl)
        simp only [Act.put, List.setIfInBounds_toArray, List.set_cons_zero, List.set_cons_succ]
        refine wpAnyH_take (i := 13) (oi := ⟨some 98, _, _, _, _, _⟩) (v := ?_) rfl (by kernel_rfl) (by kernel_rfl) (by kernel_rfl) (fun _ _ _ h => h) (Or.inl ⟨by rfl, ?_⟩) HH.out ?_
        rotate_left
        · intro wS hSw
          try dsimp only at hSw
          go_simp
          all_goals (with_reducible rfl)
        simp only [Act.put, List.setIfInBounds_toArray, List.set_cons_zero, List.set_cons_succ]
        refine wpAnyH_take (i := 14) (oi := ⟨some 99, _, _, _, _, _⟩) (v := ?_) rfl (by kernel_rfl) (by kernel_rfl) (by kernel_rfl) (fun _ _ _ h => h) (Or.inl ⟨by rfl, ?_⟩) HH.out ?_
        rotate_left
        · intro wS hSw
          try dsimp only at hSw
          go_simp
          all_goals (with_reducible rfl)
        simp only [Act.put, List.setIfInBounds_toArray, List.set_cons_zero, List.set_cons_succ]
        refine wpAnyH_take (i := 15) (oi := ⟨some 100, _, _, _, _, _⟩) (v := ?_) rfl (by kernel_rfl) (by kernel_rfl) (by kernel_rfl) (fun _ _ _ h => h) (Or.inl ⟨by rfl, ?_⟩) HH.out ?_
        rotate_left
        · intro wS hSw
          try dsimp only at hSw
          go_simp
          all_goals (with_reducible rfl)
        simp only [Act.put, List.setIfInBounds_toArray, List.set_cons_zero, List.set_cons_succ]
        refine wpAnyH_take (i := 16) (oi := ⟨some 101, _, _, _, _, _⟩) (v := ?_) rfl (by kernel_rfl) (by kernel_rfl) (by kernel_rfl) (fun _ _ _ h => h) (Or.inl ⟨by rfl, ?_⟩) HH.out ?_
        rotate_left
        · intro wS hSw
          try dsimp only at hSw
          go_simp
          all_goals (with_reducible rfl)
        simp only [Act.put, List.setIfInBounds_toArray, List.set_cons_zero, List.set_cons_succ]
        refine wpAnyH_take (i := 17) (oi := ⟨some 102, _, _, _, _, _⟩) (v := ?_) rfl (by kernel_rfl) (by kernel_rfl) (by kernel_rfl) (fun _ _ _ h => h) (Or.inl ⟨by rfl, ?_⟩) HH.out ?_
        rotate_left
        · intro wS hSw
          try dsimp only at hSw
          go_simp
          all_goals (with_reducible rfl)
        simp only [Act.put, List.setIfInBounds_toArray, List.set_cons_zero, List.set_cons_succ]
        refine wpAnyH_ready (rs := [18]) (by kernel_rfl) (by simp) ?_
        refine AllReadyH.cons (o := ⟨some 103, _, _, _, _, _⟩) rfl (fun Kq hKq => ?_) AllReadyH.nil
        go_simp
        refine HS.out.mono ?_
        rintro e w6 ⟨ad6, n6, cap6, rfl, r6, b6⟩
        have hR6 := HRD.out.below b6 (.inr (Nat.le_refl _))
        obtain ⟨u6, _, _, hf6⟩ := hR6.out.there hIn
        have d1 := (b6.cell (World.block_lt_of_cell? _ _ c1)).trans c1
        have d2 := (b6.cell (World.block_lt_of_cell? _ _ c2)).trans c2
        have d3 := (b6.cell (World.block_lt_of_cell? _ _ c3)).trans c3
        have HH6 := Lib.hid (And.intro d1 (And.intro d2 d3))
        refine hKq.out _ _ HH6.out (fun _ => ?_)
        clear hKq Kq c1 c2 c3 d2 d3
        refine wpAnyH_take (i := 19) (oi := ⟨some 104, _, _, _, _, _⟩) (v := ?_) rfl (by kernel_rfl) (by kernel_rfl) (by kernel_rfl) (fun _ _ _ h => h) (Or.inl ⟨by rfl, ?_⟩) HH6.out ?_
        rotate_left
        · intro wS hSw
          go_simp
          all_goals (with_reducible rfl)
        simp only [Act.put, List.setIfInBounds_toArray, List.set_cons_zero, List.set_cons_succ]
        refine wpAnyH_ready (rs := [20]) (by kernel_rfl) (by simp) ?_
        refine AllReadyH.cons (o := ⟨none, .move (.const (.bool false)), _, _, _, _⟩) rfl (fun Kq hKq => ?_) AllReadyH.nil
        go_simp
        refine hKq.out _ _ HH6.out (fun _ => ?_)
        clear hKq Kq
        refine wpAnyH_done (by kernel_rfl) ?_ _
        refine ⟨_, rfl, ?_⟩
        go_simp
        have z6 : wr.heap.size ≤ w6.heap.size := b6.size
        have hl6 : n6 = nI := by rw [← r6.len, vec_len]
        subst hl6
        have hp6 := (hR6.mono z6).put hIn ((OwnInts.of r6).lo (l' := w.heap.size) zb2) (fun b hb => by have h7 : wr.heap.size ≤ b := ((OwnInts.of r6).block hb).1; omega)
        rw [mk_set _ _ hIn] at hp6
        rw [← mk_congr (f := part M A q K (I + 1)) fun i j _ _ => by rw [part_more hIA]] at hp6
        have hb6 := (HBD.out.trans (b6.mono zb2)).trans (hp6.2.below (Nat.le_refl _) (by omega))
        have HR6 := Lib.hid (hp6.1.mono hp6.2.size)
        have HB6' := Lib.hid hb6
        clear hp6 hb6 hR6 r6 b6 HBD HRD HS
        go_wp2
        go_roundw
        case rel => exact ⟨I + 1, _, by omega, by go_num, HR6.out, HB6'.out⟩
        case measure => simp [intOf]; omega
theorem spec_reduce (w : World) {l h : Nat} {ad : Option Addr} {n cap : Nat} {m : List (List Int)} (s : Sls w l h ad n cap m) (hm : isMat m = true) (K0 : Nat) (hK : 0 < m.length → K0 ≤ colsOf m) :
    Calls Tryd.prog 119 #[.slice ad n cap, .int .i64 K0] w (Reduced m K0 w) :=
  (spec_reduceG w s hm K0 hK).mono fun _ _ ⟨A, M, p, h1, h2, h3, ad, n, cap, e, s, b, _⟩ => ⟨A, M, p, h1, h2, h3, ad, n, cap, e, s, b⟩
end Go.Proofs.YtkhfkccbnhjmjaaDoor.RedW
namespace Go.Proofs.YtkhfkccbnhjmjaaDoor.RedW
open Go.ChangeShapes Go.WideShapes Go.ChangeAt Go.RowKit
open Go.Proofs.YtkhfkccbnhjmjaaDoor.Seq Go.Proofs.YtkhfkccbnhjmjaaDoor.Help Go.Proofs.YtkhfkccbnhjmjaaDoor.Field Go.Proofs.YtkhfkccbnhjmjaaDoor.FieldW Go.Proofs.YtkhfkccbnhjmjaaDoor.Vec Go.Proofs.YtkhfkccbnhjmjaaDoor.VecW Go.Proofs.YtkhfkccbnhjmjaaDoor.Mat Go.Proofs.YtkhfkccbnhjmjaaDoor.MatW Go.Proofs.YtkhfkccbnhjmjaaDoor.MatP Go.Proofs.YtkhfkccbnhjmjaaDoor.Lin Go.Proofs.YtkhfkccbnhjmjaaDoor.Rref

/-- What elimination over all columns leaves are the reduced rows. -/
theorem elim_rref {m : List (List Int)} {A : Nat} {M : Nat → V} {p : Nat → Nat} (hm : isMat m = true) (h : Elim m.length A (colsOf m) M p) (h1 : ∀ l, l < m.length → Span m.length (ent m) (M l)) (h2 : ∀ l, l < m.length → Span m.length M (ent m l)) : mk A (colsOf m) M = rref m :=
  (rref_is invF invF_ok hm ⟨A, M, p, rfl, h.red, h.le, fun i hi => h1 i (Nat.lt_of_lt_of_le hi h.le), fun l hl => h.span (fun l j hl hj => supp_span (fun l _ => ent_supp hm l) (h1 l hl) j hj) (h2 l hl)⟩).symm
set_option maxRecDepth 100000 in
theorem spec_rref (w : World) {l h : Nat} {ad : Option Addr} {n cap : Nat} {m : List (List Int)} (s : Sls w l h ad n cap m) :
    Calls Tryd.prog 115 #[.slice ad n cap] w (Reads2 (rref m) w) := by
  have K1 := spec_isMat w s
  cases hm : isMat m
  · rw [hm] at K1
    have HE := Lib.hid (rref_no hm)
    have K1 := Lib.hid K1
    clear hm
    rw [HE.out]
    go_enter Tryd.func115, Tryd.ntmps115
    go_wp2_with fail
    go_at_call 43
    refine K1.out.mono ?_
    rintro e w1 ⟨rfl, q, rfl⟩
    go_wp2
    go_ret
    exact ⟨_, _, _, rfl, (Grid.nil _ _ _ 3 27 _).sls, (below_drewN (Below.refl _ _) q).alloc (Nat.le_refl _) _⟩
  rw [hm] at K1
  have K1 := Lib.hid K1
  have K2 := Lib.hid (fun q => spec_cols (w.drewN q) (s.drewN q))
  have K3 := Lib.hid (fun q => spec_reduce (w.drewN q) (s.drewN q) hm (colsOf m) (fun _ => Nat.le_refl _))
  have HE := Lib.hid (fun (A : Nat) (M : Nat → V) (p : Nat → Nat) => elim_rref (A := A) (M := M) (p := p) hm)
  clear hm
  go_enter Tryd.func115, Tryd.ntmps115
  go_wp2_with fail
  go_at_call 43
  refine K1.out.mono ?_
  rintro e w1 ⟨rfl, q, rfl⟩
  go_wp2_with fail
  go_at_call 44
  refine (K2.out _).mono ?_
  rintro e w' ⟨rfl, rfl⟩
  go_wp2_with fail
  go_at_call 119
  refine (K3.out _).mono ?_
  rintro e w2 ⟨A, M, p, h1, h2, h3, ad2, n2, cap2, rfl, r2, b2⟩
  rw [HE.out A M p h1 h2 h3] at r2
  have HR := Lib.hid r2
  have HB := Lib.hid ((below_drewN (Below.refl w.heap.size w) q).trans b2)
  clear h1 h2 h3 r2 b2
  go_wp2
  go_ret
  exact ⟨_, _, _, rfl, HR.out, HB.out⟩
theorem spec_rank (w : World) {l h : Nat} {ad : Option Addr} {n cap : Nat} {m : List (List Int)} (s : Sls w l h ad n cap m) :
    Calls Tryd.prog 109 #[.slice ad n cap] w fun e w' => e = .returned (.int .i64 (rref m).length) ∧ Below w.heap.size w w' := by
  have K := Lib.hid (spec_rref w s)
  go_enter Tryd.func109, Tryd.ntmps109
  go_wp2_with fail
  go_at_call 115
  refine K.out.mono ?_
  rintro e w2 ⟨ad2, n2, cap2, rfl, r2, b2⟩
  have HL := Lib.hid r2.len
  clear r2
  go_wp2
  go_ret
  exact ⟨by rw [HL.out]; rfl, b2⟩
end Go.Proofs.YtkhfkccbnhjmjaaDoor.RedW
