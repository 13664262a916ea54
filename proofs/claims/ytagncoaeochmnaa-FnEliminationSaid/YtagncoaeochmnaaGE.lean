/-
  Elimination, of the model: what its functions answer.
  Elimination, of the model: the walk of l7Reduce.
  Elimination, of the model: the walk of l7Reduce.
  Elimination, of the model: the reduced rows and the rank.
  Determinants, of the model: square matrices, reduced matrices, the walk of Determinant.
  Systems, of the model: the walk of SolveSystem.
  Inverses, of the model: the walk of InvertMatrix.
  Null spaces, of the model: the walk of NullSpace.
-/
import Derived.Test.YtagncoaeochmnaaGD
import Derived.Test.YtagncoaeochmnaaGB
import Derived.Test.YtagncoaeochmnaaGA
import Derived.Deep.RegionHeld3
namespace Go.Proofs.Ytagncoaeochmnaa.RedW
open Go.ChangeShapes Go.WideShapes Go.ChangeAt Go.RowKit
open Go.Proofs.Ytagncoaeochmnaa.Seq Go.Proofs.Ytagncoaeochmnaa.Help Go.Proofs.Ytagncoaeochmnaa.Field Go.Proofs.Ytagncoaeochmnaa.FieldW Go.Proofs.Ytagncoaeochmnaa.Vec Go.Proofs.Ytagncoaeochmnaa.VecW Go.Proofs.Ytagncoaeochmnaa.Mat Go.Proofs.Ytagncoaeochmnaa.MatW

set_option maxRecDepth 100000 in
theorem spec_copy (w : World) {l h : Nat} {ad : Option Addr} {n cap : Nat} {m : List (List Int)} (s : Sls w l h ad n cap m) (hn : n ≤ 1099511627776) (hr : ∀ xs ∈ m, xs.length ≤ 17592186044416) :
    Calls Try.prog 91 #[.slice ad n cap] w (Gives2 m w) := by
  have hL := Lib.hid s.len
  have hcap := s.le
  have HR := Lib.hid hr
  clear hr
  go_enter Try.func91, Try.ntmps91
  go_wp2
  have hb0 : Below w.heap.size w (w.alloc (.cells #[] 30)) := (Below.refl _ _).alloc (Nat.le_refl _) _
  go_loopw [3, 4] (fun o i wr => ∃ (j : Nat) (ad' : Option Addr) (cap' : Nat) (us : List Value), j ≤ n ∧ i = .int .i64 j ∧ o = .slice ad' j cap' ∧ (∀ g, ad' = some ⟨g, 0, none⟩ → g < wr.heap.size) ∧
    Grid wr w.heap.size wr.heap.size 3 30 ad' j cap' us (m.take j) ∧ Below w.heap.size w wr) (fun _ i _ => n - (intOf i).toNat)
  case atStart => exact ⟨0, _, 0, [], Nat.zero_le _, rfl, rfl, (fun g hg => by obtain rfl := (Addr.mk.inj (Option.some.inj hg)).1; simp), by simpa using Grid.nil _ _ _ _ _ _, hb0⟩
  case round =>
    obtain ⟨j, ad', cap', us, hj, rfl, rfl, had, hr, hb⟩ := hrel
    have zb := hb.size
    by_cases hlt : j < n
    · obtain ⟨a1, ad3, n3, cap3, xs, e1, hx, hcl⟩ := (s.below hb (.inr (Nat.le_refl _))).at_ hlt
      subst e1
      have hn3 : n3 ≤ 17592186044416 := by rw [← hx.sl.len]; exact HR.out _ (List.mem_of_getElem? hx.get)
      have HT := Lib.hid (take_more hx.get)
      have hsx := (hx.sl.alloc (.cells #[] 3))
      have hcl2 := (((Below.refl wr.heap.size wr).alloc (Nat.le_refl _) (.cells #[] 3)).cell (World.block_lt_of_cell? _ _ hcl)).trans hcl
      clear hx
      go_wp2_with (first
        | (at_builtin; refine wpList_app (Row.nil (wr.alloc (.cells #[] 3)) wr.heap.size wr.heap.size .i64 3 (some ⟨wr.heap.size, 0, none⟩)) hsx Try.underlying30 info_int (by unfold maxLen; omega) (by omega) (by simp) rfl _ _ rfl rfl rfl ?_; intro ad4 cap4 w4 r4 m4
           have hb4 : Below wr.heap.size wr w4 := ((Below.refl _ wr).alloc (Nat.le_refl _) (.cells #[] 3)).trans (m4.below (Nat.le_refl _) (by simp))
           have hz4 := hb4.size
           rw [List.nil_append, Nat.zero_add] at r4
           have hr4 := (hr.below hb4 (.inr (Nat.le_refl _))).alloc (.cells #[.slice ad4 n3 cap4] 30)
           have ho4 := (OwnInts.of r4).below ((Below.refl _ w4).alloc (Nat.le_refl _) (.cells #[.slice ad4 n3 cap4] 30)) (.inl (Nat.le_refl _)))
        | (at_builtin; refine wpList_snoc hr4.out (u := .slice ad4 n3 cap4) (by rw [World.cell?_alloc_new]; rfl) rfl Try.underlying24 info_ints rfl (by unfold maxLen; omega) (by omega) rfl _ _ rfl rfl rfl ?_; intro g5 cap5 w5 o5 p5))
      have hA := hr4.add ho4 had o5 p5 (by simp; omega) zb
      have hb5 := ((hb.trans (hb4.mono zb)).alloc (by omega) (.cells #[.slice ad4 n3 cap4] 30)).trans (p5.below (Nat.le_refl _) (by simp; omega))
      go_roundw
      case rel => exact ⟨j + 1, _, _, _, by omega, by go_num, rfl, hA.2, HT.out ▸ hA.1, hb5⟩
      case measure => simp [intOf]; omega
    · obtain rfl : j = n := by omega
      rw [List.take_of_length_le (Nat.le_of_eq hL.out)] at hr
      have HG := Lib.hid hr
      clear hr
      go_wp2
      go_ret
      exact ⟨_, _, _, _, rfl, HG.out, hb⟩
/-- Rows in own memory; two of them may be one slice. -/
structure Rws (w : World) (l h : Nat) (e e1 : TypeId) (g n cap : Nat) (us : List Value) (xss : List (List Int)) : Prop where
  out : RowV w l h e1 (some ⟨g, 0, none⟩) n cap us
  len : xss.length = n
  rows : ∀ (j : Nat) (u : Value) (xs : List Int), us[j]? = some u → xss[j]? = some xs → OwnInts w l h e u xs
  away : ∀ (j : Nat) (u : Value) (b : Nat), us[j]? = some u → blockOf u = some b → b ≠ g
section
variable {w w' : World} {l h l' h' g : Nat} {e e1 : TypeId} {n cap : Nat} {us : List Value} {xss : List (List Int)} {u : Value} {xs : List Int}
theorem Rws.of {ad : Option Addr} (r : Grid w l h e e1 ad n cap us xss) (hn : 0 < n) : ∃ g, ad = some ⟨g, 0, none⟩ ∧ Rws w l h e e1 g n cap us xss := by
  obtain ⟨g, rfl, _⟩ := r.out.pos hn
  exact ⟨g, rfl, r.out, r.len, r.rows, fun j u b hu hb => r.away j u b g hu hb rfl⟩
theorem Rws.below {B : Nat} (r : Rws w l h e e1 g n cap us xss) (m : Below B w w') (hB : h ≤ B ∨ w.heap.size ≤ B) : Rws w' l h e e1 g n cap us xss :=
  ⟨r.out.below m hB, r.len, fun j u xs hu hx => (r.rows j u xs hu hx).below m hB, r.away⟩
theorem Rws.mono (r : Rws w l h e e1 g n cap us xss) (h2 : h ≤ h') : Rws w l h' e e1 g n cap us xss :=
  ⟨r.out.mono h2, r.len, fun j u xs hu hx => (r.rows j u xs hu hx).mono h2, r.away⟩
theorem Rws.drewN (r : Rws w l h e e1 g n cap us xss) (k : Nat) : Rws (w.drewN k) l h e e1 g n cap us xss :=
  r.below (B := w.heap.size) (below_drewN (Below.refl _ _) k) (.inr (Nat.le_refl _))
theorem Rws.sls (r : Rws w l h e e1 g n cap us xss) : Sls w l h (some ⟨g, 0, none⟩) n cap xss := by
  refine ⟨r.len, r.out.le, r.out.big, r.out.sl.nil, fun j xs hx => ?_⟩
  have hj : j < us.length := by rw [r.out.len, ← r.len]; exact (List.getElem?_eq_some_iff.1 hx).1
  obtain ⟨a, ea, h1, h2, h3⟩ := r.out.sl.cells j us[j] (List.getElem?_eq_getElem hj)
  exact ⟨a, us[j], ea, h1, h2, h3, (r.rows j _ _ (List.getElem?_eq_getElem hj) hx).ints⟩
theorem Rws.gpos (r : Rws w l h e e1 g n cap us xss) (hn : 0 < n) : l ≤ g ∧ g < h := by
  obtain ⟨_, hge, hg1, hg2⟩ := r.out.pos hn
  obtain rfl := (Addr.mk.inj (Option.some.inj hge)).1
  exact ⟨hg1, hg2⟩
theorem Rws.block (r : Rws w l h e e1 g n cap us xss) {j b : Nat} (hu : us[j]? = some u) (hb : blockOf u = some b) : l ≤ b ∧ b < h ∧ b < w.heap.size := by
  have h1 := (List.getElem?_eq_some_iff.1 hu).1
  have h2 : j < xss.length := by rw [r.len, ← r.out.len]; exact h1
  exact (r.rows j _ _ hu (List.getElem?_eq_getElem h2)).block hb
/-- One row: the slice at hand, its numbers, its cell. -/
theorem Rws.at_ (r : Rws w l h e e1 g n cap us xss) {j : Nat} (hj : j < n) : ∃ ad' n' cap' xs, us[j]? = some (.slice ad' n' cap') ∧ xss[j]? = some xs ∧ Sl w l h .i64 ad' n' cap' xs ∧ OwnInts w l h e (.slice ad' n' cap') xs ∧ w.cell? ⟨g, j, none⟩ = some (.slice ad' n' cap') ∧ w.frozen? ⟨g, j, none⟩ = false := by
  have h2 : j < xss.length := by rw [r.len]; exact hj
  obtain ⟨u, hu, hc, hf⟩ := r.out.there hj
  have ho := r.rows j u _ hu (List.getElem?_eq_getElem h2)
  obtain ⟨ad', n', cap', rfl, s⟩ := ho.ints
  exact ⟨ad', n', cap', _, hu, List.getElem?_eq_getElem h2, s, ho, hc, hf⟩
theorem OwnInts.keep {j : Nat} {v : Value} {ys : List Int} (ho : OwnInts w l h e v ys) (hb : ∀ b, blockOf v = some b → b ≠ g) (u : Value) : OwnInts (w.setCell ⟨g, j, none⟩ u) l h e v ys := by
  have mg : Mv w (w.setCell ⟨g, j, none⟩ u) g (g + 1) := (Mv.refl w g (g + 1)).setCell (Nat.le_refl _) (Nat.lt_succ_self _) u
  refine ho.imp fun ad' n' cap' hn hv hr => ?_
  subst hv
  obtain ⟨b, rfl, b1, b2, hr'⟩ := hr.tight hn
  have hn' : n' ≠ 0 := by omega
  have hbg := hb b (by simp [blockOf, hn'])
  exact ((hr'.mv mg (by omega)).lo b1).mono (by omega)
theorem OwnInts.sl {ad : Option Addr} {n cap : Nat} (ho : OwnInts w l h e (.slice ad n cap) xs) : Sl w l h .i64 ad n cap xs := by
  obtain ⟨ad', n', cap', e1, s⟩ := ho.ints
  obtain ⟨rfl, rfl, rfl⟩ := Value.slice.inj e1
  exact s
/-- A row is put in place. -/
theorem Rws.put {j : Nat} (r : Rws w l h e e1 g n cap us xss) (hj : j < n) (hu : OwnInts w l h e u xs) (hg : ∀ b, blockOf u = some b → b ≠ g) :
    Rws (w.setCell ⟨g, j, none⟩ u) l h e e1 g n cap (us.set j u) (xss.set j xs) ∧ Mv w (w.setCell ⟨g, j, none⟩ u) l h := by
  obtain ⟨h1, h2⟩ := r.out.set hj hu.one
  obtain ⟨_, hge, hg1, hg2⟩ := r.out.pos (by omega)
  obtain rfl := (Addr.mk.inj (Option.some.inj hge)).1
  have mg : Mv w (w.setCell ⟨g, j, none⟩ u) g (g + 1) := (Mv.refl w g (g + 1)).setCell (Nat.le_refl _) (Nat.lt_succ_self _) u
  have keep : ∀ v ys, OwnInts w l h e v ys → (∀ b, blockOf v = some b → b ≠ g) → OwnInts (w.setCell ⟨g, j, none⟩ u) l h e v ys := by
    intro v ys ho hb
    refine ho.imp fun ad' n' cap' hn hv hr => ?_
    subst hv
    obtain ⟨b, rfl, b1, b2, hr'⟩ := hr.tight hn
    have hn' : n' ≠ 0 := by omega
    have hbg := hb b (by simp [blockOf, hn'])
    exact ((hr'.mv mg (by omega)).lo b1).mono (by omega)
  refine ⟨⟨h1, by rw [List.length_set]; exact r.len, ?_, ?_⟩, h2⟩
  · intro i v ys hv hy
    rw [List.getElem?_set] at hv hy
    by_cases hij : j = i
    · subst hij
      rw [if_pos rfl] at hv hy
      split at hv
      · split at hy
        · obtain rfl := Option.some.inj hv
          obtain rfl := Option.some.inj hy
          exact keep _ _ hu hg
        · cases hy
      · cases hv
    · rw [if_neg hij] at hv hy
      exact keep _ _ (r.rows i v ys hv hy) fun b hb => r.away i v b hv hb
  · intro i v b hv hb
    rw [List.getElem?_set] at hv
    by_cases h3 : j = i
    · subst h3
      rw [if_pos rfl] at hv
      split at hv
      · obtain rfl := Option.some.inj hv; exact hg b hb
      · cases hv
    · rw [if_neg h3] at hv
      exact r.away i v b hv hb
end
/-- New memory that reads as these rows. -/
def Reads2 (xss : List (List Int)) (w : World) (e : Ending) (w' : World) : Prop :=
  ∃ ad n cap, e = .returned (.slice ad n cap) ∧ Sls w' w.heap.size w'.heap.size ad n cap xss ∧ Below w.heap.size w w'
end Go.Proofs.Ytagncoaeochmnaa.RedW
namespace Go.Proofs.Ytagncoaeochmnaa.RedW
open Go.ChangeShapes Go.WideShapes Go.ChangeAt Go.RowKit
open Go.Proofs.Ytagncoaeochmnaa.Seq Go.Proofs.Ytagncoaeochmnaa.Help Go.Proofs.Ytagncoaeochmnaa.Field Go.Proofs.Ytagncoaeochmnaa.FieldW Go.Proofs.Ytagncoaeochmnaa.Vec Go.Proofs.Ytagncoaeochmnaa.VecW Go.Proofs.Ytagncoaeochmnaa.Mat Go.Proofs.Ytagncoaeochmnaa.MatW Go.Proofs.Ytagncoaeochmnaa.MatP Go.Proofs.Ytagncoaeochmnaa.Lin Go.Proofs.Ytagncoaeochmnaa.Rref

theorem vec_get {n j : Nat} (f : Nat → F) (h : j < n) : (vec n f)[j]? = some (em (f j)) := by unfold vec; simp [h]
theorem mk_get {n c j : Nat} (f : Nat → V) (h : j < n) : (mk n c f)[j]? = some (vec c (f j)) := by unfold mk; simp [h]
theorem mk_set {n c j : Nat} (f : Nat → V) (v : V) (h : j < n) : (mk n c f).set j (vec c v) = mk n c (fun l => if l = j then v else f l) := by
  apply List.ext_getElem?
  intro i
  rw [List.getElem?_set]
  by_cases hij : j = i
  · subst hij
    rw [if_pos rfl, if_pos (by rw [mk_len]; exact h), mk_get _ h, if_pos rfl]
  · rw [if_neg hij]
    unfold mk
    rw [List.getElem?_map, List.getElem?_map]
    cases hi : (List.range n)[i]? with
    | none => rfl
    | some x =>
      obtain ⟨h1, h2⟩ := List.getElem?_eq_some_iff.1 hi
      obtain rfl : i = x := by simpa using h2
      simp only [Option.map_some]
      rw [if_neg (fun e : i = j => hij e.symm)]
theorem mk_take {n a c : Nat} (f : Nat → V) (h : a ≤ n) : (mk n c f).take a = mk a c f := by
  unfold mk
  rw [← List.map_take, List.take_range, Nat.min_eq_left h]
/-- A row that is cleared at a column. -/
theorem clear_row {c k : Nat} (u v : V) (hc : c ≤ 40) (h : u k ≠ 0) : addScaled (vec c u) (vec c v) (1019 - em (u k)) = vec c fun j => u j + v j * (0 - u k) := by
  have e : 1019 - em (u k) = em (0 - u k) := by
    rw [em_sub, em_0]
    have h1 := em_in (u k)
    have h2 : em (u k) ≠ 0 := fun e => h (em_inj e)
    omega
  rw [e, adds_vec _ _ _ hc]
/-- A pivot's row. -/
theorem pivot_row {c k : Nat} (v : V) (hc : c ≤ 40) (h : v k ≠ 0) : scale (vec c v) (Field.inv (em (v k))) = vec c fun j => v j * invF (v k) := by
  rw [← em_invF _ h, vec_ems, scale_ems (by simpa using hc), vec_ems]
  congr 1
  rw [List.map_map]; rfl
theorem full {m k k' : Nat} {M : Nat → V} {p : Nat → Nat} (h : Elim m m k M p) (hk : k ≤ k') : Elim m m k' M p :=
  ⟨h.le, fun i hi => Nat.lt_of_lt_of_le (h.lt i hi) hk, h.up, h.one, h.zero, h.ahead, fun l j h1 h2 _ => by omega⟩
/-- The rows while one column is cleared: up to row i it is done. -/
def part (M : Nat → V) (A q K i l : Nat) : V := if l < i then cleared invF M A q K l else if l = A then cleared invF M A q K A else swapped M A q l
theorem part_own {M : Nat → V} {A q K i : Nat} (h : i ≠ A) : part M A q K i i = swapped M A q i := by unfold part; rw [if_neg (by omega), if_neg h]
theorem part_piv {M : Nat → V} {A q K i : Nat} : part M A q K i A = cleared invF M A q K A := by
  unfold part
  by_cases h : A < i
  · rw [if_pos h]
  · rw [if_neg h, if_pos rfl]
theorem part_more {M : Nat → V} {A q K i : Nat} (h : i ≠ A) (l : Nat) : part M A q K (i + 1) l = if l = i then (fun j => swapped M A q i j + cleared invF M A q K A j * (0 - swapped M A q i K)) else part M A q K i l := by
  unfold part
  by_cases e : l = i
  · subst e
    rw [if_pos (by omega), if_pos rfl]
    funext j
    rw [cleared_o _ _ _ _ _ h, cleared_a]
  · rw [if_neg e]
    by_cases h1 : l < i
    · rw [if_pos (by omega), if_pos h1]
    · rw [if_neg (by omega), if_neg h1]
theorem part_same {M : Nat → V} {A q K i : Nat} (h : i = A ∨ swapped M A q i K = 0) (l : Nat) : part M A q K (i + 1) l = part M A q K i l := by
  by_cases e : i = A
  · subst e
    unfold part
    by_cases h1 : l < i
    · rw [if_pos (by omega), if_pos h1]
    · rw [if_neg h1]
      by_cases h2 : l = i
      · subst h2; rw [if_pos (by omega), if_pos rfl]
      · rw [if_neg (by omega), if_neg h2]
  · rw [part_more e]
    by_cases h1 : l = i
    · subst h1
      rw [if_pos rfl, part_own e]
      funext j
      show swapped M A q l j + cleared invF M A q K A j * (0 - swapped M A q l K) = swapped M A q l j
      rw [h.resolve_left e]; grind
    · rw [if_neg h1]
theorem part_0 (M : Nat → V) (A q K l : Nat) : part M A q K 0 l = if l = A then cleared invF M A q K A else if l = q then M A else M l := by
  unfold part
  rw [if_neg (by omega)]
  by_cases h : l = A
  · rw [if_pos h, if_pos h]
  · rw [if_neg h, if_neg h]; unfold swapped; rw [if_neg h]
theorem part_all {M : Nat → V} {A q K n l : Nat} (h : l < n) : part M A q K n l = cleared invF M A q K l := if_pos h
theorem span_self (n : Nat) (M : Nat → V) : ∀ l, l < n → Span n M (M l) := fun _ h => span_mem h
end Go.Proofs.Ytagncoaeochmnaa.RedW
namespace Go.Proofs.Ytagncoaeochmnaa.RedW
open Go.ChangeShapes Go.WideShapes Go.ChangeAt Go.RowKit
open Go.Proofs.Ytagncoaeochmnaa.Drawn Go.Proofs.Ytagncoaeochmnaa.Seq Go.Proofs.Ytagncoaeochmnaa.Help Go.Proofs.Ytagncoaeochmnaa.Field Go.Proofs.Ytagncoaeochmnaa.FieldW Go.Proofs.Ytagncoaeochmnaa.Vec Go.Proofs.Ytagncoaeochmnaa.VecW Go.Proofs.Ytagncoaeochmnaa.Mat Go.Proofs.Ytagncoaeochmnaa.MatW Go.Proofs.Ytagncoaeochmnaa.MatP Go.Proofs.Ytagncoaeochmnaa.Lin Go.Proofs.Ytagncoaeochmnaa.Rref

theorem sls_take {w : World} {l h : Nat} {ad : Option Addr} {n cap A : Nat} {xss : List (List Int)} (s : Sls w l h ad n cap xss) (hA : A ≤ n) : Sls w l h ad A cap (xss.take A) := by
  refine ⟨by rw [List.length_take, s.len]; omega, Nat.le_trans hA s.le, s.big, s.nil, fun j xs hx => ?_⟩
  rw [List.getElem?_take] at hx
  split at hx
  · exact s.cells j xs hx
  · cases hx
/-- What elimination hands back: the first rows of an eliminated matrix with the same span. -/
def Reduced (m : List (List Int)) (K0 : Nat) (w : World) (e : Ending) (w' : World) : Prop :=
  ∃ (A : Nat) (M : Nat → V) (p : Nat → Nat), Elim m.length A K0 M p ∧ (∀ l, l < m.length → Span m.length (ent m) (M l)) ∧ (∀ l, l < m.length → Span m.length M (ent m l)) ∧ Reads2 (mk A (colsOf m) M) w e w'
set_option maxRecDepth 100000 in
set_option maxHeartbeats 1600000 in
theorem spec_reduce (w : World) {l h : Nat} {ad : Option Addr} {n cap : Nat} {m : List (List Int)} (s : Sls w l h ad n cap m) (hm : isMat m = true) (K0 : Nat) (hK : 0 < m.length → K0 ≤ colsOf m) :
    Calls Try.prog 85 #[.slice ad n cap, .int .i64 K0] w (Reduced m K0 w) := by
  have hL := s.len
  have hn40 := (isMat_iff.1 hm).2
  have hc40 := colsOf_le hm
  have hsh : ∀ xs ∈ m, xs.length ≤ 17592186044416 := fun xs hx => by have := (isVec_iff.1 ((isMat_iff.1 hm).1 xs hx).1).2; omega
  rw [hL] at hn40
  have HC := Lib.hid (spec_copy w s (by omega) hsh)
  have HM := Lib.hid (mk_ent hm)
  clear hsh
  unfold Reduced
  rw [hL] at HM hK ⊢
  obtain ⟨c, hc⟩ : ∃ c, colsOf m = c := ⟨_, rfl⟩
  rw [hc] at HM hK hc40 ⊢
  generalize hM0 : ent m = M0 at *
  clear hc hM0 hm s hL
  go_enter Try.func85, Try.ntmps85
  go_wp2_with fail
  go_at_call 91
  refine HC.out.mono ?_
  rintro e w1 ⟨ad1, n1, cap1, us, rfl, r1, b1⟩
  have hr := HM.out ▸ r1
  obtain rfl : n1 = n := by rw [← hr.len, mk_len]
  have z1 := b1.size
  clear HC r1
  rcases Nat.eq_zero_or_pos n1 with hn0 | hn0
  · subst hn0
    have HS := Lib.hid (sls_take (A := 0) hr.sls (Nat.le_refl _))
    have hle9 := hr.out.le
    have hbg9 := hr.out.big
    unfold maxLen at hbg9
    clear HM hr
    go_wp2
    go_loopw [6, 7] (fun a k wr => a = .int .i64 (0 : Nat) ∧ k = .int .i64 (0 : Nat) ∧ wr = w1) (fun _ _ _ => 0)
    case atStart => exact ⟨rfl, rfl, rfl⟩
    case round =>
      obtain ⟨rfl, rfl, rfl⟩ := hrel
      by_cases hK0 : K0 = 0
      · subst hK0
        go_wp2
        go_ret
        exact ⟨0, M0, fun _ => 0, Elim.start _ _ _, span_self _ _, span_self _ _, _, _, _, rfl, HS.out.mono (Nat.le_refl _) (Nat.le_refl _), b1⟩
      · have hK1 : 0 < K0 := by omega
        go_wp2
        go_ret
        exact ⟨0, M0, fun _ => 0, full (Elim.start _ _ _) (Nat.zero_le _), span_self _ _, span_self _ _, _, _, _, rfl, HS.out.mono (Nat.le_refl _) (Nat.le_refl _), b1⟩
  replace hK := hK hn0
  obtain ⟨g, rfl, hr1⟩ := Rws.of hr hn0
  clear HM hr
  go_wp2
  go_loopw [6, 7] (fun a k wr => ∃ (A K : Nat) (M : Nat → V) (p : Nat → Nat) (vs : List Value), A ≤ n1 ∧ K ≤ K0 ∧ a = .int .i64 A ∧ k = .int .i64 K ∧ Rws wr w.heap.size wr.heap.size 3 30 g n1 cap1 vs (mk n1 c M) ∧
    Hid (Elim n1 A K M p ∧ (∀ l, l < n1 → Span n1 M0 (M l)) ∧ ∀ l, l < n1 → Span n1 M (M0 l)) ∧ Below w.heap.size w wr) (fun _ k _ => K0 - (intOf k).toNat)
  case atStart => exact ⟨0, 0, M0, fun _ => 0, us, Nat.zero_le _, Nat.zero_le _, rfl, rfl, hr1, ⟨Elim.start _ _ _, span_self _ _, span_self _ _⟩, b1⟩
  case round =>
    obtain ⟨A, K, M, p, vs, hA, hK', rfl, rfl, hr, HE, hb⟩ := hrel
    have zb := hb.size
    by_cases hKK : K = K0
    · subst hKK
      have HS := Lib.hid (sls_take hr.sls hA)
      have hle9 := hr.out.le
      have hbg9 := hr.out.big
      unfold maxLen at hbg9
      have HF := Lib.hid (HE.out)
      clear hr HE
      go_wp2
      go_ret
      exact ⟨A, M, p, HF.out.1, HF.out.2.1, HF.out.2.2, _, _, _, rfl, by rw [← mk_take M hA]; exact HS.out.mono (Nat.le_refl _) (Nat.le_refl _), hb⟩
    have hK1 : K < K0 := by omega
    by_cases hAn : A = n1
    · subst hAn
      have HS := Lib.hid (sls_take hr.sls hA)
      have hle9 := hr.out.le
      have hbg9 := hr.out.big
      unfold maxLen at hbg9
      have HF := Lib.hid ((And.intro (full HE.out.1 hK') HE.out.2))
      clear hr HE
      go_wp2
      go_ret
      exact ⟨A, M, p, HF.out.1, HF.out.2.1, HF.out.2.2, _, _, _, rfl, by rw [← mk_take M hA]; exact HS.out.mono (Nat.le_refl _) (Nat.le_refl _), hb⟩
    have hA1 : A < n1 := by omega
    go_wp2
    go_loop [8] (fun i => ∃ q : Nat, A ≤ q ∧ q ≤ n1 ∧ i = .int .i64 q ∧ Hid (∀ l, A ≤ l → l < q → M l K = 0)) (fun i => n1 - (intOf i).toNat)
    case atStart => exact ⟨A, Nat.le_refl _, hA, rfl, fun l h1 h2 => by omega⟩
    case round =>
      obtain ⟨q, hq1, hq2, rfl, HZ⟩ := hrel
      by_cases hqn : q = n1
      · subst hqn
        have HN := Lib.hid (HE.out.1.none (fun l h1 h2 => HZ.out l h1 h2))
        have HE2 := Lib.hid (And.intro HN.out HE.out.2)
        clear HZ HE HN
        go_wp2
        go_roundw
        case rel => exact ⟨A, K + 1, M, p, vs, hA, hK1, rfl, by go_num, hr, HE2.out, hb⟩
        case measure => simp [intOf]; omega
      have hqn1 : q < n1 := by omega
      obtain ⟨adq, nq, capq, xq, huq, hxq, sq, oq, hcq, hfq⟩ := hr.at_ hqn1
      obtain rfl : vec c (M q) = xq := Option.some.inj ((mk_get M hqn1).symm.trans hxq)
      have hnq : nq = c := by rw [← sq.len, vec_len]
      subst hnq
      obtain ⟨aq, xk, e1, hxk, hck⟩ := sq.at_ (j := K) (by omega)
      obtain rfl : em (M q K) = xk := Option.some.inj ((vec_get (M q) (by omega)).symm.trans hxk.get)
      subst e1
      have hle := sq.le
      have hbg := sq.big
      unfold maxLen at hbg
      have hle2 := hr.out.le
      have hbg2 := hr.out.big
      unfold maxLen at hbg2
      by_cases hz : M q K = 0
      · have hz2 : em (M q K) = 0 := by rw [hz]; rfl
        rw [hz2] at hck
        have HZ2 := Lib.hid (show ∀ l, A ≤ l → l < q + 1 → M l K = 0 from fun l h1 h2 => by
          rcases Nat.lt_or_eq_of_le (Nat.le_of_lt_succ h2) with h3 | rfl
          · exact HZ.out l h1 h3
          · exact hz)
        clear hxk hz HZ
        go_wp2
        go_round
        case rel => exact ⟨q + 1, by omega, by omega, by go_num, HZ2.out⟩
        case measure => simp [intOf]; omega
      have hz2 : (em (M q K) == 0) = false := by simp; exact fun e => hz (em_inj e)
      have hqn2 : ((q : Int) == (n1 : Int)) = false := by simp; omega
      obtain ⟨adA, nA, capA, xA, huA, hxA, sA, oA, hcA, hfA⟩ := hr.at_ hA1
      obtain rfl : vec nq (M A) = xA := Option.some.inj ((mk_get M hA1).symm.trans hxA)
      have hgp := hr.gpos hn0
      have hp1 := hr.put hqn1 oA (fun b hb => hr.away A _ b huA hb)
      have oq1 := OwnInts.keep (g := g) (j := q) oq (fun b hb => hr.away q _ b huq hb) (.slice adA nA capA)
      rw [mk_set M (M A) hqn1] at hp1
      obtain ⟨aq', xk', e1, hxk', hck1⟩ := (OwnInts.sl oq1).at_ (j := K) (by omega)
      obtain rfl : em (M q K) = xk' := Option.some.inj ((vec_get (M q) (by omega)).symm.trans hxk'.get)
      obtain rfl := Option.some.inj e1
      have HP1 := Lib.hid hp1
      have OQ1 := Lib.hid oq1
      clear hp1 oq1 oq oA sA hxA hxq sq hxk hr
      go_wp2_with fail
      go_at_call 92
      refine (spec_inv _ _).mono ?_
      rintro e w' ⟨rfl, rfl⟩
      have hS := spec_scale _ (OwnInts.sl OQ1.out) (Field.inv (em (M q K)))
      rw [pivot_row (M q) hc40 hz] at hS
      have HS := Lib.hid hS
      clear hS
      go_wp2_with fail
      go_at_call 117
      refine HS.out.mono ?_
      rintro e w5 ⟨ad5, n5, cap5, rfl, r5, b5⟩
      have z5 := b5.size
      have zm := HP1.out.2.size
      have hl5 : n5 = nq := by rw [← r5.len, vec_len]
      subst hl5
      have hR := (HP1.out.1.below b5 (.inr (Nat.le_refl _))).mono (h' := w5.heap.size) (by omega)
      have hp2 := hR.put hA1 ((OwnInts.of r5).lo (by omega)) (fun b hb => by have := ((OwnInts.of r5).block hb).1; omega)
      rw [mk_set _ _ hA1] at hp2
      obtain ⟨u0, _, hc0, hf0⟩ := hR.out.there hA1
      rw [show mk n1 n5 (fun l => if l = A then (fun j => M q j * invF (M q K)) else (fun l => if l = q then M A else M l) l) = mk n1 n5 (part M A q K 0) from mk_congr fun i j _ _ => by
        rw [part_0]
        by_cases h : i = A
        · rw [if_pos h, if_pos h, cleared_a]
        · rw [if_neg h, if_neg h]] at hp2
      have hb5 : Below w.heap.size w w5 := (hb.trans (HP1.out.2.below (Nat.le_refl _) zb)).trans (b5.mono (by omega))
      have hb6 := hb5.trans (hp2.2.below (Nat.le_refl _) hb5.size)
      have HP2 := Lib.hid (hp2.1.mono hp2.2.size)
      have HB6 := Lib.hid hb6
      clear HS HP1 OQ1 hR hp2 r5 b5 hb5 hb6 hb
      go_wp2
      go_loopw [10] (fun i w2 => ∃ (I : Nat) (us2 : List Value), I ≤ n1 ∧ i = .int .i64 I ∧ Rws w2 w.heap.size w2.heap.size 3 30 g n1 cap1 us2 (mk n1 n5 (part M A q K I)) ∧ Below w.heap.size w w2) (fun i _ => n1 - (intOf i).toNat)
      case atStart => exact ⟨0, _, Nat.zero_le _, rfl, HP2.out, HB6.out⟩
      case round =>
        obtain ⟨I, us2, hI, rfl, hr2, hb2⟩ := hrel
        have zb2 := hb2.size
        by_cases hIn : I < n1
        case neg =>
          obtain rfl : I = n1 := by omega
          have HE2 := Lib.hid (show Elim I (A + 1) (K + 1) (cleared invF M A q K) (more p A K) ∧ (∀ l, l < I → Span I M0 (cleared invF M A q K l)) ∧ ∀ l, l < I → Span I (cleared invF M A q K) (M0 l) from
            ⟨HE.out.1.pivot invF invF_ok hq1 hqn1 hz, fun l hl => span_trans HE.out.2.1 (cleared_in invF M K hA1 hqn1 l hl), fun l hl => span_trans (in_cleared invF invF_ok M hA1 hqn1 hz) (HE.out.2.2 l hl)⟩)
          rw [mk_congr (g := cleared invF M A q K) fun i j hi _ => by rw [part_all hi]] at hr2
          have HR2 := Lib.hid hr2
          clear hr2
          go_wp2
          go_roundw
          case rel => exact ⟨A + 1, K + 1, _, _, us2, hA1, hK1, by go_num, by go_num, HR2.out, HE2.out, hb2⟩
          case measure => simp [intOf]; omega
        obtain ⟨adI, nI, capI, xI, huI, hxI, sI, oI, hcI, hfI⟩ := hr2.at_ hIn
        obtain rfl : vec n5 (part M A q K I I) = xI := Option.some.inj ((mk_get _ hIn).symm.trans hxI)
        have hnI : nI = n5 := by rw [← sI.len, vec_len]
        subst hnI
        have hle3 := hr2.out.le
        have hbg3 := hr2.out.big
        unfold maxLen at hbg3
        by_cases hIA : I = A
        · subst hIA
          have HM := Lib.hid (mk_congr (r := n1) (c := nI) (fun i j _ _ => by rw [part_same (.inl rfl)] : ∀ i j, i < n1 → j < nI → part M I q K (I + 1) i j = part M I q K I i j))
          clear hxI sI oI
          go_wp2
          go_roundw
          case rel => exact ⟨I + 1, us2, by omega, by go_num, HM.out ▸ hr2, hb2⟩
          case measure => simp [intOf]; omega
        have hIA2 : ((I : Int) != (A : Int)) = true := by simp; omega
        have hIA3 : ((I : Int) == (A : Int)) = false := by simp; omega
        obtain ⟨aI, xk2, e2, hxk2, hck2⟩ := sI.at_ (j := K) (by omega)
        obtain rfl : em (part M A q K I I K) = xk2 := Option.some.inj ((vec_get _ (by omega)).symm.trans hxk2.get)
        subst e2
        rw [part_own hIA] at *
        have hle4 := sI.le
        have hbg4 := sI.big
        unfold maxLen at hbg4
        by_cases hz3 : swapped M A q I K = 0
        · have hz4 : em (swapped M A q I K) = 0 := by rw [hz3]; rfl
          rw [hz4] at hck2
          have HM := Lib.hid (mk_congr (r := n1) (c := nI) (fun i j _ _ => by rw [part_same (.inr hz3)] : ∀ i j, i < n1 → j < nI → part M A q K (I + 1) i j = part M A q K I i j))
          clear hxI sI oI hxk2 hz3 hz4
          go_wp2
          go_roundw
          case rel => exact ⟨I + 1, us2, by omega, by go_num, HM.out ▸ hr2, hb2⟩
          case measure => simp [intOf]; omega
        have hz4 : (em (swapped M A q I K) == 0) = false := by simp; exact fun e => hz3 (em_inj e)
        obtain ⟨adP, nP, capP, xP, huP, hxP, sP, oP, hcP, hfP⟩ := hr2.at_ hA1
        obtain rfl : vec nI (part M A q K I A) = xP := Option.some.inj ((mk_get _ hA1).symm.trans hxP)
        rw [part_piv] at *
        have hS := spec_adds wr.drew (sI.drewN 1) (sP.drewN 1) (1019 - em (swapped M A q I K))
        rw [clear_row (swapped M A q I) _ hc40 hz3] at hS
        have HS := Lib.hid hS
        have hin := em_in (swapped M A q I K)
        have e19 : IntKind.i64.wrap (1019 - em (swapped M A q I K)) = 1019 - em (swapped M A q I K) := by rw [IntKind.wrap_i64]; omega
        have hrD : Rws wr.drew w.heap.size wr.heap.size 3 30 g n1 cap1 us2 (mk n1 nI (part M A q K I)) := hr2.drewN 1
        have hbD : Below w.heap.size w wr.drew := hb2.drew
        have hgp2 := hr2.gpos hn0
        have hKn : K < nI := by omega
        have HRD := Lib.hid hrD
        have HBD := Lib.hid hbD
        have c1 : wr.drew.cell? ⟨g, I, none⟩ = some (.slice (some aI) nI capI) := hcI
        have c2 : wr.drew.cell? ⟨g, A, none⟩ = some (.slice adP nP capP) := hcP
        have c3 : wr.drew.cell? (aI.add K) = some (.int .i64 (em (swapped M A q I K))) := hck2
        clear hS hrD hbD hr2 hb2 sI sP oI oP hxI hxP hxk2 HP2 HB6
        go_wp2
        refine wp_region_last (S := fun w' => w'.cell? ⟨g, I, none⟩ = some (.slice (some aI) nI capI) ∧ w'.cell? ⟨g, A, none⟩ = some (.slice adP nP capP) ∧ w'.cell? (aI.add K) = some (.int .i64 (em (swapped M A q I K)))) 20 (by kernel_rfl) (by kernel_rfl) rfl ?_
        have HH := Lib.hid (And.intro c1 (And.intro c2 c3))
        refine wpAnyH_take (i := 0) (oi := ⟨some 85, _, _, _, _, _⟩) (v := ?_) rfl (by kernel_rfl) (by kernel_rfl) (by kernel_rfl) (fun _ _ _ h => h) (Or.inl ⟨by rfl, ?_⟩) HH.out ?_
        rotate_left
        · intro wS hSw
          try dsimp only at hSw
          go_simp
          all_goals (with_reducible rfl)
        simp only [Act.put, List.setIfInBounds_toArray, List.set_cons_zero, List.set_cons_succ]
        refine wpAnyH_take (i := 1) (oi := ⟨some 86, _, _, _, _, _⟩) (v := ?_) rfl (by kernel_rfl) (by kernel_rfl) (by kernel_rfl) (fun _ _ _ h => h) (Or.inl ⟨by rfl, ?_⟩) HH.out ?_
        rotate_left
        · intro wS hSw
          try dsimp only at hSw
          go_simp
          all_goals (with_reducible rfl)
        simp only [Act.put, List.setIfInBounds_toArray, List.set_cons_zero, List.set_cons_succ]
        refine wpAnyH_take (i := 2) (oi := ⟨some 87, _, _, _, _, _⟩) (v := ?_) rfl (by kernel_rfl) (by kernel_rfl) (by kernel_rfl) (fun _ _ _ h => h) (Or.inl ⟨by rfl, ?_⟩) HH.out ?_
        rotate_left
        · intro wS hSw
          try dsimp only at hSw
          go_simp
          all_goals (with_reducible rfl)
        simp only [Act.put, List.setIfInBounds_toArray, List.set_cons_zero, List.set_cons_succ]
        refine wpAnyH_take (i := 3) (oi := ⟨some 88, _, _, _, _, _⟩) (v := ?_) rfl (by kernel_rfl) (by kernel_rfl) (by kernel_rfl) (fun _ _ _ h => h) (Or.inl ⟨by rfl, ?_⟩) HH.out ?_
        rotate_left
        · intro wS hSw
          try dsimp only at hSw
          go_simp
          all_goals (with_reducible rfl)
        simp only [Act.put, List.setIfInBounds_toArray, List.set_cons_zero, List.set_cons_succ]
        refine wpAnyH_take (i := 4) (oi := ⟨some 89, _, _, _, _, _⟩) (v := ?_) rfl (by kernel_rfl) (by kernel_rfl) (by kernel_rfl) (fun _ _ _ h => h) (Or.inl ⟨by rfl, ?_⟩) HH.out ?_
        rotate_left
        · intro wS hSw
          try dsimp only at hSw
          go_simp
          all_goals (with_reducible rfl)
        simp only [Act.put, List.setIfInBounds_toArray, List.set_cons_zero, List.set_cons_succ]
        refine wpAnyH_take (i := 5) (oi := ⟨some 90, _, _, _, _, _⟩) (v := ?_) rfl (by kernel_rfl) (by kernel_rfl) (by kernel_rfl) (fun _ _ _ h => h) (Or.inl ⟨by rfl, ?_⟩) HH.out ?_
        rotate_left
        · intro wS hSw
          try dsimp only at hSw
          go_simp
          all_goals (with_reducible rfl)
        simp only [Act.put, List.setIfInBounds_toArray, List.set_cons_zero, List.set_cons_succ]
        refine wpAnyH_take (i := 6) (oi := ⟨some 91, _, _, _, _, _⟩) (v := ?_) rfl (by kernel_rfl) (by kernel_rfl) (by kernel_rfl) (fun _ _ _ h => h) (Or.inl ⟨by rfl, ?_⟩) HH.out ?_
        rotate_left
        · intro wS hSw
          try dsimp only at hSw
          go_simp
          all_goals (with_reducible rfl)
        simp only [Act.put, List.setIfInBounds_toArray, List.set_cons_zero, List.set_cons_succ]
        refine wpAnyH_take (i := 7) (oi := ⟨some 92, _, _, _, _, _⟩) (v := ?_) rfl (by kernel_rfl) (by kernel_rfl) (by kernel_rfl) (fun _ _ _ h => h) (Or.inl ⟨by rfl, ?_⟩) HH.out ?_
        rotate_left
        · intro wS hSw
          try dsimp only at hSw
          go_simp
          all_goals (with_reducible rfl)
        simp only [Act.put, List.setIfInBounds_toArray, List.set_cons_zero, List.set_cons_succ]
        refine wpAnyH_take (i := 8) (oi := ⟨some 93, _, _, _, _, _⟩) (v := ?_) rfl (by kernel_rfl) (by kernel_rfl) (by kernel_rfl) (fun _ _ _ h => h) (Or.inl ⟨by rfl, ?_⟩) HH.out ?_
        rotate_left
        · intro wS hSw
          try dsimp only at hSw
          go_simp
          all_goals (with_reducible rfl)
        simp only [Act.put, List.setIfInBounds_toArray, List.set_cons_zero, List.set_cons_succ]
        refine wpAnyH_take (i := 9) (oi := ⟨some 94, _, _, _, _, _⟩) (v := ?_) rfl (by kernel_rfl) (by kernel_rfl) (by kernel_rfl) (fun _ _ _ h => h) (Or.inl ⟨by rfl, ?_⟩) HH.out ?_
        rotate_left
        · intro wS hSw
          try dsimp only at hSw
          go_simp
          all_goals (with_reducible rfl)
        simp only [Act.put, List.setIfInBounds_toArray, List.set_cons_zero, List.set_cons_succ]
        refine wpAnyH_take (i := 10) (oi := ⟨some 95, _, _, _, _, _⟩) (v := ?_) rfl (by kernel_rfl) (by kernel_rfl) (by kernel_rfl) (fun _ _ _ h => h) (Or.inl ⟨by rfl, ?_⟩) HH.out ?_
        rotate_left
        · intro wS hSw
          try dsimp only at hSw
          go_simp
          all_goals (with_reducible rfl)
        simp only [Act.put, List.setIfInBounds_toArray, List.set_cons_zero, List.set_cons_succ]
        refine wpAnyH_take (i := 11) (oi := ⟨some 96, _, _, _, _, _⟩) (v := ?_) rfl (by kernel_rfl) (by kernel_rfl) (by kernel_rfl) (fun _ _ _ h => h) (Or.inl ⟨by rfl, ?_⟩) HH.out ?_
        rotate_left
        · intro wS hSw
          try dsimp only at hSw
          go_simp
          all_goals (with_reducible rfl)
        simp only [Act.put, List.setIfInBounds_toArray, List.set_cons_zero, List.set_cons_succ]
        refine wpAnyH_take (i := 12) (oi := ⟨some 97, _, _, _, _, _⟩) (v := ?_) rfl (by kernel_rfl) (by kernel_rfl) (by kernel_rfl) (fun _ _ _ h => h) (Or.inl ⟨by rfl, ?_⟩) HH.out ?_
        rotate_left
        · intro wS hSw
          try dsimp only at hSw
          go_simp
          all_goals (with_reducible rfl)
        simp only [Act.put, List.setIfInBounds_toArray, List.set_cons_zero, List.set_cons_succ]
        refine wpAnyH_take (i := 13) (oi := ⟨some 98, _, _, _, _, _⟩) (v := ?_) rfl (by kernel_rfl) (by kernel_rfl) (by kernel_rfl) (fun _ _ _ h => h) (Or.inl ⟨by rfl, ?_⟩) HH.out ?_
        rotate_left
        · intro wS hSw
          try dsimp only at hSw
          go_simp
          all_goals (with_reducible rfl)
        simp only [Act.put, List.setIfInBounds_toArray, List.set_cons_zero, List.set_cons_succ]
        refine wpAnyH_take (i := 14) (oi := ⟨some 99, _, _, _, _, _⟩) (v := ?_) rfl (by kernel_rfl) (by kernel_rfl) (by kernel_rfl) (fun _ _ _ h => h) (Or.inl ⟨by rfl, ?_⟩) HH.out ?_
        rotate_left
        · intro wS hSw
          try dsimp only at hSw
          go_simp
          all_goals (with_reducible rfl)
        simp only [Act.put, List.setIfInBounds_toArray, List.set_cons_zero, List.set_cons_succ]
        refine wpAnyH_take (i := 15) (oi := ⟨some 100, _, _, _, _, _⟩) (v := ?_) rfl (by kernel_rfl) (by kernel_rfl) (by kernel_rfl) (fun _ _ _ h => h) (Or.inl ⟨by rfl, ?_⟩) HH.out ?_
        rotate_left
        · intro wS hSw
          try dsimp only at hSw
          go_simp
          all_goals (with_reducible rfl)
        simp only [Act.put, List.setIfInBounds_toArray, List.set_cons_zero, List.set_cons_succ]
        refine wpAnyH_take (i := 16) (oi := ⟨some 101, _, _, _, _, _⟩) (v := ?_) rfl (by kernel_rfl) (by kernel_rfl) (by kernel_rfl) (fun _ _ _ h => h) (Or.inl ⟨by rfl, ?_⟩) HH.out ?_
        rotate_left
        · intro wS hSw
          try dsimp only at hSw
          go_simp
          all_goals (with_reducible rfl)
        simp only [Act.put, List.setIfInBounds_toArray, List.set_cons_zero, List.set_cons_succ]
        refine wpAnyH_take (i := 17) (oi := ⟨some 102, _, _, _, _, _⟩) (v := ?_) rfl (by kernel_rfl) (by kernel_rfl) (by kernel_rfl) (fun _ _ _ h => h) (Or.inl ⟨by rfl, ?_⟩) HH.out ?_
        rotate_left
        · intro wS hSw
          try dsimp only at hSw
          go_simp
          all_goals (with_reducible rfl)
        simp only [Act.put, List.setIfInBounds_toArray, List.set_cons_zero, List.set_cons_succ]
        refine wpAnyH_ready (rs := [18]) (by kernel_rfl) (by simp) ?_
        refine AllReadyH.cons (o := ⟨some 103, _, _, _, _, _⟩) rfl (fun Kq hKq => ?_) AllReadyH.nil
        go_simp
        refine HS.out.mono ?_
        rintro e w6 ⟨ad6, n6, cap6, rfl, r6, b6⟩
        have hR6 := HRD.out.below b6 (.inr (Nat.le_refl _))
        obtain ⟨u6, _, _, hf6⟩ := hR6.out.there hIn
        have d1 := (b6.cell (World.block_lt_of_cell? _ _ c1)).trans c1
        have d2 := (b6.cell (World.block_lt_of_cell? _ _ c2)).trans c2
        have d3 := (b6.cell (World.block_lt_of_cell? _ _ c3)).trans c3
        have HH6 := Lib.hid (And.intro d1 (And.intro d2 d3))
        refine hKq.out _ _ HH6.out (fun _ => ?_)
        clear hKq Kq c1 c2 c3 d2 d3
        refine wpAnyH_take (i := 19) (oi := ⟨some 104, _, _, _, _, _⟩) (v := ?_) rfl (by kernel_rfl) (by kernel_rfl) (by kernel_rfl) (fun _ _ _ h => h) (Or.inl ⟨by rfl, ?_⟩) HH6.out ?_
        rotate_left
        · intro wS hSw
          go_simp
          all_goals (with_reducible rfl)
        simp only [Act.put, List.setIfInBounds_toArray, List.set_cons_zero, List.set_cons_succ]
        refine wpAnyH_ready (rs := [20]) (by kernel_rfl) (by simp) ?_
        refine AllReadyH.cons (o := ⟨none, .move (.const (.bool false)), _, _, _, _⟩) rfl (fun Kq hKq => ?_) AllReadyH.nil
        go_simp
        refine hKq.out _ _ HH6.out (fun _ => ?_)
        clear hKq Kq
        refine wpAnyH_done (by kernel_rfl) ?_ _
        refine ⟨_, rfl, ?_⟩
        go_simp
        have z6 : wr.heap.size ≤ w6.heap.size := b6.size
        have hl6 : n6 = nI := by rw [← r6.len, vec_len]
        subst hl6
        have hp6 := (hR6.mono z6).put hIn ((OwnInts.of r6).lo (l' := w.heap.size) zb2) (fun b hb => by have h7 : wr.heap.size ≤ b := ((OwnInts.of r6).block hb).1; omega)
        rw [mk_set _ _ hIn] at hp6
        rw [← mk_congr (f := part M A q K (I + 1)) fun i j _ _ => by rw [part_more hIA]] at hp6
        have hb6 := (HBD.out.trans (b6.mono zb2)).trans (hp6.2.below (Nat.le_refl _) (by omega))
        have HR6 := Lib.hid (hp6.1.mono hp6.2.size)
        have HB6' := Lib.hid hb6
        clear hp6 hb6 hR6 r6 b6 HBD HRD HS
        go_wp2
        go_roundw
        case rel => exact ⟨I + 1, _, by omega, by go_num, HR6.out, HB6'.out⟩
        case measure => simp [intOf]; omega
end Go.Proofs.Ytagncoaeochmnaa.RedW
namespace Go.Proofs.Ytagncoaeochmnaa.RedW
open Go.ChangeShapes Go.WideShapes Go.ChangeAt Go.RowKit
open Go.Proofs.Ytagncoaeochmnaa.Seq Go.Proofs.Ytagncoaeochmnaa.Help Go.Proofs.Ytagncoaeochmnaa.Field Go.Proofs.Ytagncoaeochmnaa.FieldW Go.Proofs.Ytagncoaeochmnaa.Vec Go.Proofs.Ytagncoaeochmnaa.VecW Go.Proofs.Ytagncoaeochmnaa.Mat Go.Proofs.Ytagncoaeochmnaa.MatW Go.Proofs.Ytagncoaeochmnaa.MatP Go.Proofs.Ytagncoaeochmnaa.Lin Go.Proofs.Ytagncoaeochmnaa.Rref

/-- What elimination over all columns leaves are the reduced rows. -/
theorem elim_rref {m : List (List Int)} {A : Nat} {M : Nat → V} {p : Nat → Nat} (hm : isMat m = true) (h : Elim m.length A (colsOf m) M p) (h1 : ∀ l, l < m.length → Span m.length (ent m) (M l)) (h2 : ∀ l, l < m.length → Span m.length M (ent m l)) : mk A (colsOf m) M = rref m :=
  (rref_is invF invF_ok hm ⟨A, M, p, rfl, h.red, h.le, fun i hi => h1 i (Nat.lt_of_lt_of_le hi h.le), fun l hl => h.span (fun l j hl hj => supp_span (fun l _ => ent_supp hm l) (h1 l hl) j hj) (h2 l hl)⟩).symm
theorem few_rref (m : List (List Int)) : (rref m).length ≤ 40 ∧ ∀ xs ∈ rref m, xs.length ≤ 40 := by
  cases hm : isMat m
  · rw [rref_no hm]; exact ⟨Nat.zero_le _, by simp⟩
  · obtain ⟨n, R, p, hr, _, hn, _, _⟩ := rref_red invF invF_ok hm
    have := (isMat_iff.1 hm).2
    rw [hr]
    refine ⟨by rw [mk_len]; omega, fun xs hx => ?_⟩
    obtain ⟨i, _, rfl⟩ := List.mem_map.1 hx
    rw [vec_len]; exact colsOf_le hm
set_option maxRecDepth 100000 in
theorem spec_rref (w : World) {l h : Nat} {ad : Option Addr} {n cap : Nat} {m : List (List Int)} (s : Sls w l h ad n cap m) :
    Calls Try.prog 39 #[.slice ad n cap] w (Reads2 (rref m) w) := by
  have K1 := spec_isMat w s
  cases hm : isMat m
  · rw [hm] at K1
    have HE := Lib.hid (rref_no hm)
    have K1 := Lib.hid K1
    clear hm
    rw [HE.out]
    go_enter Try.func39, Try.ntmps39
    go_wp2_with fail
    go_at_call 16
    refine K1.out.mono ?_
    rintro e w1 ⟨rfl, q, rfl⟩
    go_wp2
    go_ret
    exact ⟨_, _, _, rfl, (Grid.nil _ _ _ 3 30 _).sls, (below_drewN (Below.refl _ _) q).alloc (Nat.le_refl _) _⟩
  rw [hm] at K1
  have K1 := Lib.hid K1
  have K2 := Lib.hid (fun q => spec_cols (w.drewN q) (s.drewN q))
  have K3 := Lib.hid (fun q => spec_reduce (w.drewN q) (s.drewN q) hm (colsOf m) (fun _ => Nat.le_refl _))
  have HE := Lib.hid (fun (A : Nat) (M : Nat → V) (p : Nat → Nat) => elim_rref (A := A) (M := M) (p := p) hm)
  clear hm
  go_enter Try.func39, Try.ntmps39
  go_wp2_with fail
  go_at_call 16
  refine K1.out.mono ?_
  rintro e w1 ⟨rfl, q, rfl⟩
  go_wp2_with fail
  go_at_call 21
  refine (K2.out _).mono ?_
  rintro e w' ⟨rfl, rfl⟩
  go_wp2_with fail
  go_at_call 85
  refine (K3.out _).mono ?_
  rintro e w2 ⟨A, M, p, h1, h2, h3, ad2, n2, cap2, rfl, r2, b2⟩
  rw [HE.out A M p h1 h2 h3] at r2
  have HR := Lib.hid r2
  have HB := Lib.hid ((below_drewN (Below.refl w.heap.size w) q).trans b2)
  clear h1 h2 h3 r2 b2
  go_wp2
  go_ret
  exact ⟨_, _, _, rfl, HR.out, HB.out⟩
theorem spec_rank (w : World) {l h : Nat} {ad : Option Addr} {n cap : Nat} {m : List (List Int)} (s : Sls w l h ad n cap m) :
    Calls Try.prog 27 #[.slice ad n cap] w fun e w' => e = .returned (.int .i64 (rref m).length) ∧ Below w.heap.size w w' := by
  have K := Lib.hid (spec_rref w s)
  go_enter Try.func27, Try.ntmps27
  go_wp2_with fail
  go_at_call 39
  refine K.out.mono ?_
  rintro e w2 ⟨ad2, n2, cap2, rfl, r2, b2⟩
  have HL := Lib.hid r2.len
  clear r2
  go_wp2
  go_ret
  exact ⟨by rw [HL.out]; rfl, b2⟩
end Go.Proofs.Ytagncoaeochmnaa.RedW
namespace Go.Proofs.Ytagncoaeochmnaa.RedW
open Go.ChangeShapes Go.WideShapes Go.ChangeAt Go.RowKit
open Go.Proofs.Ytagncoaeochmnaa.Drawn Go.Proofs.Ytagncoaeochmnaa.Seq Go.Proofs.Ytagncoaeochmnaa.Help Go.Proofs.Ytagncoaeochmnaa.Field Go.Proofs.Ytagncoaeochmnaa.FieldW Go.Proofs.Ytagncoaeochmnaa.Vec Go.Proofs.Ytagncoaeochmnaa.VecW Go.Proofs.Ytagncoaeochmnaa.Mat Go.Proofs.Ytagncoaeochmnaa.MatW Go.Proofs.Ytagncoaeochmnaa.MatP Go.Proofs.Ytagncoaeochmnaa.Lin Go.Proofs.Ytagncoaeochmnaa.Rref Go.Proofs.Ytagncoaeochmnaa.Det Go.Proofs.Ytagncoaeochmnaa.InvP

theorem spec_sq (w : World) {l h : Nat} {ad : Option Addr} {n cap : Nat} {m : List (List Int)} (s : Sls w l h ad n cap m) :
    Calls Try.prog 90 #[.slice ad n cap] w (Quiet (.bool (isSq m)) w) := by
  have hL := Lib.hid s.len
  have K1 := spec_isMat w s
  cases hm : Mat.isMat m
  · rw [hm] at K1
    have HE := Lib.hid (show isSq m = false by unfold isSq; rw [hm]; rfl)
    have K1 := Lib.hid K1
    clear hm
    rw [HE.out]
    go_enter Try.func90, Try.ntmps90
    go_wp2_with fail
    go_at_call 16
    refine K1.out.mono ?_
    rintro e w1 ⟨rfl, q, rfl⟩
    go_wp2
    go_ret
    exact ⟨rfl, q, rfl⟩
  rw [hm] at K1
  have K1 := Lib.hid K1
  have K2 := fun q => spec_cols (w.drewN q) (s.drewN q)
  obtain ⟨c, hc⟩ : ∃ c, c = colsOf m := ⟨_, rfl⟩
  rw [← hc] at K2
  have K2 := Lib.hid K2
  by_cases hnc : n = c
  · subst hnc
    have HE := Lib.hid (show isSq m = true by unfold isSq; rw [hm, hL.out, ← hc]; simp)
    clear hm hc
    rw [HE.out]
    go_enter Try.func90, Try.ntmps90
    go_wp2_with fail
    go_at_call 16
    refine K1.out.mono ?_
    rintro e w1 ⟨rfl, q, rfl⟩
    go_wp2_with fail
    go_at_call 21
    refine (K2.out _).mono ?_
    rintro e w1 ⟨rfl, rfl⟩
    go_wp2
    go_ret
    exact ⟨rfl, q, rfl⟩
  · have HE := Lib.hid (show isSq m = false by unfold isSq; rw [hm, hL.out, ← hc]; simp [hnc])
    have hne : ((n : Int) == (c : Int)) = false := by simp; omega
    clear hm hc hnc
    rw [HE.out]
    go_enter Try.func90, Try.ntmps90
    go_wp2_with fail
    go_at_call 16
    refine K1.out.mono ?_
    rintro e w1 ⟨rfl, q, rfl⟩
    go_wp2_with fail
    go_at_call 21
    refine (K2.out _).mono ?_
    rintro e w1 ⟨rfl, rfl⟩
    go_wp2
    go_ret
    exact ⟨rfl, q, rfl⟩
/-- Valid and reduced. -/
noncomputable def isRed (m : List (List Int)) : Bool := Mat.isMat m && sameM (rref m) m
theorem spec_isRed (w : World) {l h : Nat} {ad : Option Addr} {n cap : Nat} {m : List (List Int)} (s : Sls w l h ad n cap m) :
    Calls Try.prog 44 #[.slice ad n cap] w fun e w' => e = .returned (.bool (isRed m)) ∧ Below w.heap.size w w' := by
  have K1 := spec_isMat w s
  cases hm : Mat.isMat m
  · rw [hm] at K1
    have HE := Lib.hid (show isRed m = false by unfold isRed; rw [hm]; rfl)
    have K1 := Lib.hid K1
    clear hm
    rw [HE.out]
    go_enter Try.func44, Try.ntmps44
    go_wp2_with fail
    go_at_call 16
    refine K1.out.mono ?_
    rintro e w1 ⟨rfl, q, rfl⟩
    go_wp2
    go_ret
    exact ⟨rfl, below_drewN (Below.refl _ _) q⟩
  rw [hm] at K1
  have HE := Lib.hid (show isRed m = sameM (rref m) m by unfold isRed; rw [hm]; rfl)
  have K1 := Lib.hid K1
  have K2 := Lib.hid (fun q => spec_rref (w.drewN q) (s.drewN q))
  clear hm
  rw [HE.out]
  obtain ⟨r, hr⟩ : ∃ r, r = sameM (rref m) m := ⟨_, rfl⟩
  rw [← hr]
  have HR := Lib.hid hr
  clear hr
  go_enter Try.func44, Try.ntmps44
  go_wp2_with fail
  go_at_call 16
  refine K1.out.mono ?_
  rintro e w1 ⟨rfl, q, rfl⟩
  go_wp2_with fail
  go_at_call 39
  refine (K2.out _).mono ?_
  rintro e w2 ⟨ad2, n2, cap2, rfl, r2, b2⟩
  have hb2 : Below w.heap.size w w2 := (below_drewN (Below.refl w.heap.size w) q).trans b2
  have K3 := spec_eqM w2 r2 (s.below hb2 (.inr (Nat.le_refl _))) (fun xs hx => by have := (few_rref m).2 xs hx; omega)
  rw [← HR.out] at K3
  have K3 := Lib.hid K3
  clear r2 b2
  go_wp2_with fail
  go_at_call 89
  refine K3.out.mono ?_
  rintro e w3 ⟨rfl, q3, rfl⟩
  go_wp2
  go_ret
  exact ⟨rfl, below_drewN hb2 q3⟩

/-! The determinant: rows that are triangular in the first columns. -/
structure Tri (n k : Nat) (M : Nat → V) (d D0 : F) : Prop where
  zero : ∀ i j, j < k → j < i → i < n → M i j = 0
  val : ∃ s, D0 = s * det n M ∧ d = s * diag M k
theorem Tri.start (n : Nat) (M : Nat → V) : Tri n 0 M 1 (det n M) := ⟨fun _ _ h => by omega, 1, by grind, by show (1 : F) = 1 * 1; grind⟩
theorem Tri.none {n k : Nat} {M : Nat → V} {d D0 : F} (h : Tri n k M d D0) (hk : k < n) (h0 : ∀ l, k ≤ l → l < n → M l k = 0) : D0 = 0 := by
  obtain ⟨s, h1, _⟩ := h.val
  obtain ⟨t, rfl⟩ : ∃ t, n = k + (t + 1) := ⟨n - k - 1, by omega⟩
  rw [h1, det_tri k (t + 1) M h.zero, det_col0 t _ fun i hi => h0 _ (by omega) (by omega)]; grind
theorem diag_congr {k : Nat} {M N : Nat → V} (h : ∀ i, i < k → M i i = N i i) : diag M k = diag N k := by
  induction k with
  | zero => rfl
  | succ k ih => show diag M k * M k k = diag N k * N k k; rw [ih fun i hi => h i (by omega), h k (by omega)]
theorem Tri.swap {n k q : Nat} {M : Nat → V} {d D0 : F} (h : Tri n k M d D0) (hk : k < n) (hq : k < q) (hqn : q < n) : Tri n k (swap M q k) (d * (0 - 1)) D0 := by
  obtain ⟨s, h1, h2⟩ := h.val
  refine ⟨fun i j hj hji hi => ?_, 0 - s, ?_, ?_⟩
  · unfold Det.swap upd
    split
    · exact h.zero q j hj (by omega) hqn
    · split
      · exact h.zero k j hj (by omega) hk
      · exact h.zero i j hj hji hi
  · rw [(alt_det n).swap M hqn hk (by omega), h1]; grind
  · rw [diag_congr (N := M) fun i hi => by unfold Det.swap; rw [upd_ne _ _ (by omega), upd_ne _ _ (by omega)], h2]; grind
/-- Rows while one column is cleared below the pivot: up to row t it is done. -/
def low (M : Nat → V) (k t l : Nat) : V := if k < l ∧ l < t then (fun j => M l j + M k j * (0 - M l k * invF (M k k))) else M l
theorem low_own {M : Nat → V} {k t : Nat} : low M k t t = M t := by unfold low; rw [if_neg (by omega)]
theorem low_piv {M : Nat → V} {k t : Nat} : low M k t k = M k := by unfold low; rw [if_neg (by omega)]
theorem low_start {M : Nat → V} {k : Nat} : low M k (k + 1) = M := by funext l; unfold low; rw [if_neg (by omega)]
theorem low_more {M : Nat → V} {k t : Nat} (h : k < t) (l : Nat) : low M k (t + 1) l = if l = t then (fun j => M t j + M k j * (0 - M t k * invF (M k k))) else low M k t l := by
  unfold low
  by_cases e : l = t
  · subst e; rw [if_pos (by omega), if_pos rfl]
  · rw [if_neg e]
    by_cases h1 : k < l ∧ l < t
    · rw [if_pos (by omega), if_pos h1]
    · rw [if_neg (by omega), if_neg h1]
theorem det_low {n k : Nat} (M : Nat → V) (hk : k < n) : ∀ t, k < t → t ≤ n → det n (low M k t) = det n M
  | 0, h, _ => by omega
  | t + 1, h, ht => by
    rcases Nat.lt_or_eq_of_le (Nat.le_of_lt_succ h) with h1 | rfl
    · have e : low M k (t + 1) = upd (low M k t) t (fun j => low M k t t j + (0 - M t k * invF (M k k)) * low M k t k j) := by
        funext l
        rw [low_more h1, low_own, low_piv]
        unfold upd
        split
        · funext j; grind
        · rfl
      rw [e, (alt_det n).addrow _ (by omega) hk (by omega), det_low M hk t h1 (by omega)]
    · rw [low_start]
theorem Tri.low {n k : Nat} {M : Nat → V} {d D0 : F} (h : Tri n k M d D0) (hk : k < n) (hne : M k k ≠ 0) : Tri n (k + 1) (low M k n) (d * M k k) D0 := by
  obtain ⟨s, h1, h2⟩ := h.val
  refine ⟨fun i j hj hji hi => ?_, s, ?_, ?_⟩
  · unfold RedW.low
    rcases Nat.lt_or_eq_of_le (Nat.le_of_lt_succ hj) with h3 | rfl
    · split
      · show M i j + M k j * (0 - M i k * invF (M k k)) = 0
        rw [h.zero i j h3 hji hi, h.zero k j h3 h3 hk]; grind
      · exact h.zero i j h3 hji hi
    · rw [if_pos (by omega)]
      have := invF_ok _ hne
      show M i j + M j j * (0 - M i j * invF (M j j)) = 0
      grind
  · rw [h1]
    rcases Nat.lt_or_eq_of_le hk with h3 | h3
    · rw [det_low M hk n (by omega) (Nat.le_refl _)]
    · rw [det_low M hk n (by omega) (Nat.le_refl _)]
  · show d * M k k = s * (diag _ k * RedW.low M k n k k)
    rw [low_piv, diag_congr (N := M) fun i hi => by unfold RedW.low; rw [if_neg (by omega)], h2]; grind
theorem Tri.done {n : Nat} {M : Nat → V} {d D0 : F} (h : Tri n n M d D0) : D0 = d := by
  obtain ⟨s, h1, h2⟩ := h.val
  have := det_tri n 0 M fun i j h3 h4 h5 => h.zero i j h3 h4 h5
  rw [Nat.add_zero] at this
  rw [h1, h2, this]
  show s * (diag M n * 1) = _
  grind
theorem sub_em (x : F) : sub 0 (em x) = em (0 - x) := by
  have := em_sub 0 x
  rw [em_0] at this
  rw [this, show sub 0 (em x) = _ from sub_el (by decide) (em_el x)]
theorem em_m1 : em (0 - 1) = 1018 := by decide
set_option maxRecDepth 100000 in
set_option maxHeartbeats 1600000 in
theorem spec_det (w : World) {l h : Nat} {ad : Option Addr} {n cap : Nat} {m : List (List Int)} (s : Sls w l h ad n cap m) :
    Calls Try.prog 45 #[.slice ad n cap] w fun e w' => e = .returned (.int .i64 (detM m)) ∧ Below w.heap.size w w' := by
  have hL := s.len
  have KS := spec_sq w s
  cases hsq : isSq m
  · rw [hsq] at KS
    have KS := Lib.hid KS
    have HE := Lib.hid (detM_no hsq)
    clear hsq
    rw [HE.out]
    go_enter Try.func45, Try.ntmps45
    go_wp2_with fail
    go_at_call 90
    refine KS.out.mono ?_
    rintro e w1 ⟨rfl, q, rfl⟩
    go_wp2
    go_ret
    exact ⟨rfl, below_drewN (Below.refl _ _) q⟩
  rw [hsq] at KS
  have KS := Lib.hid KS
  obtain ⟨hm, hsc⟩ := isSq_iff.1 hsq
  have hn40 := (isMat_iff.1 hm).2
  have hsh : ∀ xs ∈ m, xs.length ≤ 17592186044416 := fun xs hx => by have := (isVec_iff.1 ((isMat_iff.1 hm).1 xs hx).1).2; omega
  rw [hL] at hn40
  have HC := Lib.hid (fun q => spec_copy (w.drewN q) (s.drewN q) (by omega) hsh)
  have HM := Lib.hid (mk_ent hm)
  have hD := detM_ok hsq
  clear hsh
  rw [← hsc, hL] at HM
  rw [hL] at hD
  rw [hD]
  generalize hM0 : ent m = M0 at *
  obtain ⟨D0, hD0⟩ : ∃ D0, D0 = det n M0 := ⟨_, rfl⟩
  rw [← hD0]
  have HT0 := Lib.hid (hD0 ▸ Tri.start n M0)
  clear hsc hM0 hm s hL hsq hD hD0
  go_enter Try.func45, Try.ntmps45
  go_wp2_with fail
  go_at_call 90
  refine KS.out.mono ?_
  rintro e w0 ⟨rfl, q0, rfl⟩
  go_wp2_with fail
  go_at_call 91
  refine (HC.out _).mono ?_
  rintro e w1 ⟨ad1, n1, cap1, us, rfl, r1, b1⟩
  have hr := HM.out ▸ r1
  replace b1 : Below w.heap.size w w1 := (below_drewN (Below.refl w.heap.size w) q0).trans b1
  obtain rfl : n1 = n := by rw [← hr.len, mk_len]
  have z1 := b1.size
  clear HC r1 KS
  rcases Nat.eq_zero_or_pos n1 with hn0 | hn0
  · subst hn0
    have HF := Lib.hid HT0.out.done
    clear HM hr HT0
    go_wp2
    go_loopw [4, 5] (fun d k wr => d = .int .i64 1 ∧ k = .int .i64 (0 : Nat) ∧ wr = w1) (fun _ _ _ => 0)
    case atStart => exact ⟨rfl, rfl, rfl⟩
    case round =>
      obtain ⟨rfl, rfl, rfl⟩ := hrel
      go_wp2
      go_ret
      exact ⟨by rw [HF.out]; rfl, b1⟩
  obtain ⟨g, rfl, hr1⟩ := Rws.of hr hn0
  replace hr1 : Rws w1 w.heap.size w1.heap.size 3 30 g n1 cap1 us (mk n1 n1 M0) := ⟨hr1.out.lo (show w.heap.size ≤ w.heap.size from Nat.le_refl _), hr1.len, hr1.rows, hr1.away⟩
  clear HM hr
  go_wp2
  go_loopw [4, 5] (fun d k wr => ∃ (K : Nat) (x : F) (M : Nat → V) (vs : List Value), K ≤ n1 ∧ d = .int .i64 (em x) ∧ k = .int .i64 K ∧ Rws wr w.heap.size wr.heap.size 3 30 g n1 cap1 vs (mk n1 n1 M) ∧
    Hid (Tri n1 K M x D0) ∧ Below w.heap.size w wr) (fun _ k _ => n1 - (intOf k).toNat)
  case atStart => exact ⟨0, 1, M0, us, Nat.zero_le _, rfl, rfl, hr1, HT0.out, b1⟩
  case round =>
    obtain ⟨K, x, M, vs, hK', rfl, rfl, hr, HE, hb⟩ := hrel
    have zb := hb.size
    by_cases hKn : K = n1
    · subst hKn
      have HF := Lib.hid HE.out.done
      clear hr HE
      go_wp2
      go_ret
      exact ⟨by rw [HF.out]; rfl, hb⟩
    have hK1 : K < n1 := by omega
    go_wp2
    go_loop [6] (fun i => ∃ q : Nat, K ≤ q ∧ q ≤ n1 ∧ i = .int .i64 q ∧ Hid (∀ l, K ≤ l → l < q → M l K = 0)) (fun i => n1 - (intOf i).toNat)
    case atStart => exact ⟨K, Nat.le_refl _, hK', rfl, fun l h1 h2 => by omega⟩
    case round =>
      obtain ⟨q, hq1, hq2, rfl, HZ⟩ := hrel
      by_cases hqn : q = n1
      · subst hqn
        have HN := Lib.hid (HE.out.none hK1 (fun l h1 h2 => HZ.out l h1 h2))
        clear HZ HE hr
        go_wp2
        go_ret
        exact ⟨by rw [HN.out]; rfl, hb⟩
      have hqn1 : q < n1 := by omega
      obtain ⟨adq, nq, capq, xq, huq, hxq, sq, oq, hcq, hfq⟩ := hr.at_ hqn1
      obtain rfl : vec n1 (M q) = xq := Option.some.inj ((mk_get M hqn1).symm.trans hxq)
      obtain rfl : n1 = nq := by rw [← sq.len, vec_len]
      obtain ⟨aq, xk, e1, hxk, hck⟩ := sq.at_ (j := K) (by omega)
      obtain rfl : em (M q K) = xk := Option.some.inj ((vec_get (M q) (by omega)).symm.trans hxk.get)
      subst e1
      have hle := sq.le
      have hbg := sq.big
      unfold maxLen at hbg
      have hle2 := hr.out.le
      have hbg2 := hr.out.big
      unfold maxLen at hbg2
      by_cases hz : M q K = 0
      · have hz2 : em (M q K) = 0 := by rw [hz]; rfl
        rw [hz2] at hck
        have HZ2 := Lib.hid (show ∀ l, K ≤ l → l < q + 1 → M l K = 0 from fun l h1 h2 => by
          rcases Nat.lt_or_eq_of_le (Nat.le_of_lt_succ h2) with h3 | rfl
          · exact HZ.out l h1 h3
          · exact hz)
        clear hxk hz HZ
        go_wp2
        go_round
        case rel => exact ⟨q + 1, by omega, by omega, by go_num, HZ2.out⟩
        case measure => simp [intOf]; omega
      have hz2 : (em (M q K) == 0) = false := by simp; exact fun e => hz (em_inj e)
      have hqn2 : ((q : Int) == (n1 : Int)) = false := by simp; omega
      by_cases hqK : q = K
      case' pos =>
        subst hqK
        obtain ⟨W, rfl⟩ : ∃ W, W = wr := ⟨wr, rfl⟩
        obtain ⟨M1, rfl⟩ : ∃ M1, M1 = M := ⟨M, rfl⟩
        obtain ⟨x1, rfl⟩ : ∃ x1, x1 = x := ⟨x, rfl⟩
        obtain ⟨K, rfl⟩ : ∃ K, K = q := ⟨q, rfl⟩
        have HT1 := HE
        have hne1 : M1 K K ≠ 0 := hz
        have hKK : ((K : Int) != (K : Int)) = false := by simp
        have hz2' : (em (M1 K K) == 0) = false := hz2
        have hR1 := hr
        have hB1 := hb
        have hZ1 := zb
        clear hxk hz HZ HE sq oq hxq huq hr hb hcq hfq
        obtain ⟨adk, nk, capk, xk2, huk, hxk2, sk, ok, hck2, hfk2⟩ := hR1.at_ hK1
        obtain rfl : vec n1 (M1 K) = xk2 := Option.some.inj ((mk_get M1 hK1).symm.trans hxk2)
        obtain rfl : n1 = nk := by rw [← sk.len, vec_len]
        obtain ⟨ak, yk, e2, hyk, hck3⟩ := sk.at_ (j := K) (by omega)
        obtain rfl : em (M1 K K) = yk := Option.some.inj ((vec_get (M1 K) (by omega)).symm.trans hyk.get)
        subst e2
        have hlek := sk.le
        have hbgk := sk.big
        unfold maxLen at hbgk
        have hle9 := hR1.out.le
        have hbg9 := hR1.out.big
        unfold maxLen at hbg9
        have HR1 := Lib.hid hR1
        have HB1 := Lib.hid hB1
        clear hyk hxk2 sk ok hR1 hB1
        go_wp2_with fail
        go_at_call 30
        refine (spec_mul _ _ _).mono ?_
        rintro e w' ⟨rfl, rfl⟩
        rw [mul_em]
      case' neg =>
        have hqK2 : ((q : Int) != (K : Int)) = true := by simp; omega
        have hqK3 : ((q : Int) == (K : Int)) = false := by simp; omega
        obtain ⟨adA, nA, capA, xA, huA, hxA, sA, oA, hcA, hfA⟩ := hr.at_ hK1
        obtain rfl : vec n1 (M K) = xA := Option.some.inj ((mk_get M hK1).symm.trans hxA)
        have hgp := hr.gpos hn0
        have hp1 := hr.put hqn1 oA (fun b hb => hr.away K _ b huA hb)
        have oq1 := OwnInts.keep (g := g) (j := q) oq (fun b hb => hr.away q _ b huq hb) (.slice adA nA capA)
        rw [mk_set M (M K) hqn1] at hp1
        have hz1 := hp1.2.size
        obtain ⟨u0, _, hc0, hf0⟩ := hp1.1.out.there hK1
        have hp2 := hp1.1.put hK1 oq1 (fun b hb => hr.away q _ b huq hb)
        rw [mk_set _ (M q) hK1] at hp2
        have hR1 := hp2.1
        have hb1 := hb.trans (hp1.2.below (Nat.le_refl _) zb)
        have hB1 := hb1.trans (hp2.2.below (Nat.le_refl _) hb1.size)
        have hZ1 := hB1.size
        obtain ⟨M1, hM1⟩ : ∃ M1, M1 = swap M q K := ⟨_, rfl⟩
        rw [show (fun l => if l = K then M q else (fun l => if l = q then M K else M l) l) = M1 by rw [hM1]; funext l; unfold Det.swap upd; rfl] at hR1
        have HT1 := Lib.hid (hM1 ▸ HE.out.swap hK1 (by omega) hqn1)
        have hne1 : M1 K K ≠ 0 := by rw [hM1]; unfold Det.swap; rw [upd_same]; exact hz
        replace hR1 := hR1.mono (h' := ((wr.setCell ⟨g, q, none⟩ (.slice adA nA capA)).setCell ⟨g, K, none⟩ (.slice (some aq) n1 capq)).heap.size) (by have := hp2.2.size; omega)
        obtain ⟨W, hW⟩ : ∃ W, W = (wr.setCell ⟨g, q, none⟩ (.slice adA nA capA)).setCell ⟨g, K, none⟩ (.slice (some aq) n1 capq) := ⟨_, rfl⟩
        rw [← hW] at hR1 hB1 hZ1
        have HW := Lib.hid hW
        obtain ⟨x1, hx1⟩ : ∃ x1, x1 = x * (0 - 1) := ⟨_, rfl⟩
        rw [← hx1] at HT1
        have HX := Lib.hid hx1
        clear hxk hz HZ HE sq oq hxq huq hr hb hp1 hp2 oq1 oA sA hxA hM1 hW hx1 hb1
        obtain ⟨adk, nk, capk, xk2, huk, hxk2, sk, ok, hck2, hfk2⟩ := hR1.at_ hK1
        obtain rfl : vec n1 (M1 K) = xk2 := Option.some.inj ((mk_get M1 hK1).symm.trans hxk2)
        obtain rfl : n1 = nk := by rw [← sk.len, vec_len]
        obtain ⟨ak, yk, e2, hyk, hck3⟩ := sk.at_ (j := K) (by omega)
        obtain rfl : em (M1 K K) = yk := Option.some.inj ((vec_get (M1 K) (by omega)).symm.trans hyk.get)
        subst e2
        have hlek := sk.le
        have hbgk := sk.big
        unfold maxLen at hbgk
        have hle9 := hR1.out.le
        have hbg9 := hR1.out.big
        unfold maxLen at hbg9
        have HR1 := Lib.hid hR1
        have HB1 := Lib.hid hB1
        clear hyk hxk2 sk ok hR1 hB1
        go_wp2_with fail
        go_at_call 30
        refine (spec_mul _ _ _).mono ?_
        rintro e w' ⟨rfl, rfl⟩
        rw [show (1018 : Int) = em (0 - 1) from em_m1.symm, mul_em, ← HX.out, ← HW.out]
        go_wp2_with fail
        go_at_call 30
        refine (spec_mul _ _ _).mono ?_
        rintro e w' ⟨rfl, rfl⟩
        rw [mul_em]
      all_goals
        have HT2 := Lib.hid (HT1.out.low hK1 hne1)
        have HNE := Lib.hid hne1
        clear HT1 hne1
        go_wp2_with fail
        go_at_call 92
        refine (spec_inv _ _).mono ?_
        rintro e w' ⟨rfl, rfl⟩
        rw [← em_invF _ HNE.out]
        go_wp2
        go_loopw [9] (fun i w2 => ∃ (I : Nat) (us2 : List Value), K < I ∧ I ≤ n1 ∧ i = .int .i64 I ∧ Rws w2 w.heap.size w2.heap.size 3 30 g n1 cap1 us2 (mk n1 n1 (low M1 K I)) ∧ Below w.heap.size w w2) (fun i _ => n1 - (intOf i).toNat)
        case atStart => exact ⟨K + 1, _, by omega, by omega, by go_num, by rw [low_start]; exact HR1.out, HB1.out⟩
        case round =>
          obtain ⟨I, us2, hKI, hI, rfl, hr2, hb2⟩ := hrel
          have zb2 := hb2.size
          by_cases hIn : I < n1
          case neg =>
            obtain rfl : I = n1 := by omega
            have HR2 := Lib.hid hr2
            clear hr2
            go_wp2
            go_roundw
            case rel => exact ⟨K + 1, x1 * M1 K K, low M1 K I, us2, hK1, rfl, by go_num, HR2.out, HT2.out, hb2⟩
            case measure => simp [intOf]; omega
          obtain ⟨adI, nI, capI, xI, huI, hxI, sI, oI, hcI, hfI⟩ := hr2.at_ hIn
          obtain rfl : vec n1 (low M1 K I I) = xI := Option.some.inj ((mk_get _ hIn).symm.trans hxI)
          obtain rfl : n1 = nI := by rw [← sI.len, vec_len]
          obtain ⟨adP, nP, capP, xP, huP, hxP, sP, oP, hcP, hfP⟩ := hr2.at_ hK1
          obtain rfl : vec n1 (low M1 K I K) = xP := Option.some.inj ((mk_get _ hK1).symm.trans hxP)
          rw [low_own] at sI
          rw [low_piv] at sP
          obtain ⟨aI, xk3, e3, hxk3, hck4⟩ := sI.at_ (j := K) (by omega)
          obtain rfl : em (M1 I K) = xk3 := Option.some.inj ((vec_get _ (by omega)).symm.trans hxk3.get)
          subst e3
          have hle4 := sI.le
          have hbg4 := sI.big
          unfold maxLen at hbg4
          have hS := spec_adds wr.drew (sI.drewN 1) (sP.drewN 1) (em (0 - M1 I K * invF (M1 K K)))
          rw [adds_vec _ _ _ (by omega)] at hS
          have HS := Lib.hid hS
          have HRD : Hid (Rws wr.drew w.heap.size wr.heap.size 3 30 g n1 cap1 us2 (mk n1 n1 (low M1 K I))) := Lib.hid (hr2.drewN 1)
          have HBD : Hid (Below w.heap.size w wr.drew) := Lib.hid hb2.drew
          have hgp2 := hr2.gpos hn0
          have c1 : wr.drew.cell? ⟨g, I, none⟩ = some (.slice (some aI) n1 capI) := hcI
          have c2 : wr.drew.cell? ⟨g, K, none⟩ = some (.slice adP nP capP) := hcP
          have c3 : wr.drew.cell? (aI.add K) = some (.int .i64 (em (M1 I K))) := hck4
          clear hS hr2 hb2 sI sP oI oP hxI hxP hxk3
          go_wp2
          refine wp_region_last (S := (fun w' => w'.cell? ⟨g, I, none⟩ = some (.slice (some aI) n1 capI) ∧ w'.cell? ⟨g, K, none⟩ = some (.slice adP nP capP) ∧ w'.cell? (aI.add K) = some (.int .i64 (em (M1 I K))))) 22 (by kernel_rfl) (by kernel_rfl) rfl ?_
          have HH := Lib.hid (And.intro c1 (And.intro c2 c3))
          refine wpAnyH_take (i := 0) (oi := ⟨some 87, _, _, _, _, _⟩) (v := ?_) rfl (by kernel_rfl) (by kernel_rfl) (by kernel_rfl) (fun _ _ _ h => h) (Or.inl ⟨by rfl, ?_⟩) HH.out ?_
          rotate_left
          · intro wS hSw
            try dsimp only at hSw
            go_simp
            all_goals (with_reducible rfl)
          simp only [Act.put, List.setIfInBounds_toArray, List.set_cons_zero, List.set_cons_succ]
          refine wpAnyH_take (i := 1) (oi := ⟨some 88, _, _, _, _, _⟩) (v := ?_) rfl (by kernel_rfl) (by kernel_rfl) (by kernel_rfl) (fun _ _ _ h => h) (Or.inl ⟨by rfl, ?_⟩) HH.out ?_
          rotate_left
          · intro wS hSw
            try dsimp only at hSw
            go_simp
            all_goals (with_reducible rfl)
          simp only [Act.put, List.setIfInBounds_toArray, List.set_cons_zero, List.set_cons_succ]
          refine wpAnyH_take (i := 2) (oi := ⟨some 89, _, _, _, _, _⟩) (v := ?_) rfl (by kernel_rfl) (by kernel_rfl) (by kernel_rfl) (fun _ _ _ h => h) (Or.inl ⟨by rfl, ?_⟩) HH.out ?_
          rotate_left
          · intro wS hSw
            try dsimp only at hSw
            go_simp
            all_goals (with_reducible rfl)
          simp only [Act.put, List.setIfInBounds_toArray, List.set_cons_zero, List.set_cons_succ]
          refine wpAnyH_take (i := 3) (oi := ⟨some 90, _, _, _, _, _⟩) (v := ?_) rfl (by kernel_rfl) (by kernel_rfl) (by kernel_rfl) (fun _ _ _ h => h) (Or.inl ⟨by rfl, ?_⟩) HH.out ?_
          rotate_left
          · intro wS hSw
            try dsimp only at hSw
            go_simp
            all_goals (with_reducible rfl)
          simp only [Act.put, List.setIfInBounds_toArray, List.set_cons_zero, List.set_cons_succ]
          refine wpAnyH_take (i := 4) (oi := ⟨some 91, _, _, _, _, _⟩) (v := ?_) rfl (by kernel_rfl) (by kernel_rfl) (by kernel_rfl) (fun _ _ _ h => h) (Or.inl ⟨by rfl, ?_⟩) HH.out ?_
          rotate_left
          · intro wS hSw
            try dsimp only at hSw
            go_simp
            all_goals (with_reducible rfl)
          simp only [Act.put, List.setIfInBounds_toArray, List.set_cons_zero, List.set_cons_succ]
          refine wpAnyH_take (i := 5) (oi := ⟨some 92, _, _, _, _, _⟩) (v := ?_) rfl (by kernel_rfl) (by kernel_rfl) (by kernel_rfl) (fun _ _ _ h => h) (Or.inl ⟨by rfl, ?_⟩) HH.out ?_
          rotate_left
          · intro wS hSw
            try dsimp only at hSw
            go_simp
            all_goals (with_reducible rfl)
          simp only [Act.put, List.setIfInBounds_toArray, List.set_cons_zero, List.set_cons_succ]
          refine wpAnyH_take (i := 6) (oi := ⟨some 93, _, _, _, _, _⟩) (v := ?_) rfl (by kernel_rfl) (by kernel_rfl) (by kernel_rfl) (fun _ _ _ h => h) (Or.inl ⟨by rfl, ?_⟩) HH.out ?_
          rotate_left
          · intro wS hSw
            try dsimp only at hSw
            go_simp
            all_goals (with_reducible rfl)
          simp only [Act.put, List.setIfInBounds_toArray, List.set_cons_zero, List.set_cons_succ]
          refine wpAnyH_take (i := 7) (oi := ⟨some 94, _, _, _, _, _⟩) (v := ?_) rfl (by kernel_rfl) (by kernel_rfl) (by kernel_rfl) (fun _ _ _ h => h) (Or.inl ⟨by rfl, ?_⟩) HH.out ?_
          rotate_left
          · intro wS hSw
            try dsimp only at hSw
            go_simp
            all_goals (with_reducible rfl)
          simp only [Act.put, List.setIfInBounds_toArray, List.set_cons_zero, List.set_cons_succ]
          refine wpAnyH_take (i := 8) (oi := ⟨some 95, _, _, _, _, _⟩) (v := ?_) rfl (by kernel_rfl) (by kernel_rfl) (by kernel_rfl) (fun _ _ _ h => h) (Or.inl ⟨by rfl, ?_⟩) HH.out ?_
          rotate_left
          · intro wS hSw
            try dsimp only at hSw
            go_simp
            all_goals (with_reducible rfl)
          simp only [Act.put, List.setIfInBounds_toArray, List.set_cons_zero, List.set_cons_succ]
          refine wpAnyH_take (i := 9) (oi := ⟨some 96, _, _, _, _, _⟩) (v := ?_) rfl (by kernel_rfl) (by kernel_rfl) (by kernel_rfl) (fun _ _ _ h => h) (Or.inl ⟨by rfl, ?_⟩) HH.out ?_
          rotate_left
          · intro wS hSw
            try dsimp only at hSw
            go_simp
            all_goals (with_reducible rfl)
          simp only [Act.put, List.setIfInBounds_toArray, List.set_cons_zero, List.set_cons_succ]
          refine wpAnyH_take (i := 10) (oi := ⟨some 97, _, _, _, _, _⟩) (v := ?_) rfl (by kernel_rfl) (by kernel_rfl) (by kernel_rfl) (fun _ _ _ h => h) (Or.inl ⟨by rfl, ?_⟩) HH.out ?_
          rotate_left
          · intro wS hSw
            try dsimp only at hSw
            go_simp
            all_goals (with_reducible rfl)
          simp only [Act.put, List.setIfInBounds_toArray, List.set_cons_zero, List.set_cons_succ]
          refine wpAnyH_take (i := 11) (oi := ⟨some 98, _, _, _, _, _⟩) (v := ?_) rfl (by kernel_rfl) (by kernel_rfl) (by kernel_rfl) (fun _ _ _ h => h) (Or.inl ⟨by rfl, ?_⟩) HH.out ?_
          rotate_left
          · intro wS hSw
            try dsimp only at hSw
            go_simp
            all_goals (with_reducible rfl)
          simp only [Act.put, List.setIfInBounds_toArray, List.set_cons_zero, List.set_cons_succ]
          refine wpAnyH_take (i := 12) (oi := ⟨some 99, _, _, _, _, _⟩) (v := ?_) rfl (by kernel_rfl) (by kernel_rfl) (by kernel_rfl) (fun _ _ _ h => h) (Or.inl ⟨by rfl, ?_⟩) HH.out ?_
          rotate_left
          · intro wS hSw
            try dsimp only at hSw
            go_simp
            all_goals (with_reducible rfl)
          simp only [Act.put, List.setIfInBounds_toArray, List.set_cons_zero, List.set_cons_succ]
          refine wpAnyH_take (i := 13) (oi := ⟨some 100, _, _, _, _, _⟩) (v := ?_) rfl (by kernel_rfl) (by kernel_rfl) (by kernel_rfl) (fun _ _ _ h => h) (Or.inl ⟨by rfl, ?_⟩) HH.out ?_
          rotate_left
          · intro wS hSw
            try dsimp only at hSw
            go_simp
            all_goals (with_reducible rfl)
          simp only [Act.put, List.setIfInBounds_toArray, List.set_cons_zero, List.set_cons_succ]
          refine wpAnyH_take (i := 14) (oi := ⟨some 101, _, _, _, _, _⟩) (v := ?_) rfl (by kernel_rfl) (by kernel_rfl) (by kernel_rfl) (fun _ _ _ h => h) (Or.inl ⟨by rfl, ?_⟩) HH.out ?_
          rotate_left
          · intro wS hSw
            try dsimp only at hSw
            go_simp
            all_goals (with_reducible rfl)
          simp only [Act.put, List.setIfInBounds_toArray, List.set_cons_zero, List.set_cons_succ]
          refine wpAnyH_take (i := 15) (oi := ⟨some 102, _, _, _, _, _⟩) (v := ?_) rfl (by kernel_rfl) (by kernel_rfl) (by kernel_rfl) (fun _ _ _ h => h) (Or.inl ⟨by rfl, ?_⟩) HH.out ?_
          rotate_left
          · intro wS hSw
            try dsimp only at hSw
            go_simp
            all_goals (with_reducible rfl)
          simp only [Act.put, List.setIfInBounds_toArray, List.set_cons_zero, List.set_cons_succ]
          refine wpAnyH_take (i := 16) (oi := ⟨some 103, _, _, _, _, _⟩) (v := ?_) rfl (by kernel_rfl) (by kernel_rfl) (by kernel_rfl) (fun _ _ _ h => h) (Or.inl ⟨by rfl, ?_⟩) HH.out ?_
          rotate_left
          · intro wS hSw
            try dsimp only at hSw
            go_simp
            all_goals (with_reducible rfl)
          simp only [Act.put, List.setIfInBounds_toArray, List.set_cons_zero, List.set_cons_succ]
          refine wpAnyH_take (i := 17) (oi := ⟨some 104, _, _, _, _, _⟩) (v := ?_) rfl (by kernel_rfl) (by kernel_rfl) (by kernel_rfl) (fun _ _ _ h => h) (Or.inl ⟨by rfl, ?_⟩) HH.out ?_
          rotate_left
          · intro wS hSw
            try dsimp only at hSw
            go_simp
            all_goals (with_reducible rfl)
          simp only [Act.put, List.setIfInBounds_toArray, List.set_cons_zero, List.set_cons_succ]
          refine wpAnyH_ready (rs := [18]) (by kernel_rfl) (by simp) ?_
          refine AllReadyH.cons (o := ⟨some 105, _, _, _, _, _⟩) rfl (fun Kq hKq => ?_) AllReadyH.nil
          go_simp
          refine (spec_mul _ _ _).mono ?_
          rintro e w' ⟨rfl, rfl⟩
          refine hKq.out _ _ HH.out (fun _ => ?_)
          clear hKq Kq
          try simp only [Act.put, List.setIfInBounds_toArray, List.set_cons_zero, List.set_cons_succ]
          rw [mul_em]
          refine wpAnyH_ready (rs := [19]) (by kernel_rfl) (by simp) ?_
          refine AllReadyH.cons (o := ⟨some 106, _, _, _, _, _⟩) rfl (fun Kq hKq => ?_) AllReadyH.nil
          go_simp
          refine (spec_sub _ _ _).mono ?_
          rintro e w' ⟨rfl, rfl⟩
          refine hKq.out _ _ HH.out (fun _ => ?_)
          clear hKq Kq
          try simp only [Act.put, List.setIfInBounds_toArray, List.set_cons_zero, List.set_cons_succ]
          rw [sub_em]
          refine wpAnyH_ready (rs := [20]) (by kernel_rfl) (by simp) ?_
          refine AllReadyH.cons (o := ⟨some 107, _, _, _, _, _⟩) rfl (fun Kq hKq => ?_) AllReadyH.nil
          go_simp
          refine (HS.out).mono ?_
          rintro e w6 ⟨ad6, n6, cap6, rfl, r6, b6⟩
          have hR6 := HRD.out.below b6 (.inr (Nat.le_refl _))
          obtain ⟨u6, _, _, hf6⟩ := hR6.out.there hIn
          have d1 := (b6.cell (World.block_lt_of_cell? _ _ c1)).trans c1
          have d2 := (b6.cell (World.block_lt_of_cell? _ _ c2)).trans c2
          have d3 := (b6.cell (World.block_lt_of_cell? _ _ c3)).trans c3
          have HH6 := Lib.hid (And.intro d1 (And.intro d2 d3))
          refine hKq.out _ _ HH6.out (fun _ => ?_)
          clear hKq Kq
          try simp only [Act.put, List.setIfInBounds_toArray, List.set_cons_zero, List.set_cons_succ]
          clear c1 c2 c3 d2 d3
          refine wpAnyH_take (i := 21) (oi := ⟨some 108, _, _, _, _, _⟩) (v := ?_) rfl (by kernel_rfl) (by kernel_rfl) (by kernel_rfl) (fun _ _ _ h => h) (Or.inl ⟨by rfl, ?_⟩) HH6.out ?_
          rotate_left
          · intro wS hSw
            try dsimp only at hSw
            go_simp
            all_goals (with_reducible rfl)
          simp only [Act.put, List.setIfInBounds_toArray, List.set_cons_zero, List.set_cons_succ]
          refine wpAnyH_ready (rs := [22]) (by kernel_rfl) (by simp) ?_
          refine AllReadyH.cons (o := ⟨none, .move (.const (.bool false)), _, _, _, _⟩) rfl (fun Kq hKq => ?_) AllReadyH.nil
          go_simp
          refine hKq.out _ _ HH6.out (fun _ => ?_)
          clear hKq Kq
          refine wpAnyH_done (by kernel_rfl) ?_ _
          refine ⟨_, rfl, ?_⟩
          go_simp
          have z6 : wr.heap.size ≤ w6.heap.size := b6.size
          obtain rfl : n6 = n1 := by rw [← r6.len, vec_len]
          have hp6 := (hR6.mono z6).put hIn ((OwnInts.of r6).lo (l' := w.heap.size) zb2) (fun b hb => by have h7 : wr.heap.size ≤ b := ((OwnInts.of r6).block hb).1; omega)
          rw [mk_set _ _ hIn] at hp6
          rw [← mk_congr (f := low M1 K (I + 1)) fun i j _ _ => by rw [low_more hKI]] at hp6
          have hb6 := (HBD.out.trans (b6.mono zb2)).trans (hp6.2.below (Nat.le_refl _) (by omega))
          have HR6 := Lib.hid (hp6.1.mono hp6.2.size)
          have HB6' := Lib.hid hb6
          clear hp6 hb6 hR6 r6 b6 HBD HRD HS
          go_wp2
          go_roundw
          case rel => exact ⟨I + 1, _, by omega, by omega, by go_num, HR6.out, HB6'.out⟩
          case measure => simp [intOf]; omega
end Go.Proofs.Ytagncoaeochmnaa.RedW
namespace Go.Proofs.Ytagncoaeochmnaa.RedW
open Go.ChangeShapes Go.WideShapes Go.ChangeAt Go.RowKit
open Go.Proofs.Ytagncoaeochmnaa.Drawn Go.Proofs.Ytagncoaeochmnaa.Seq Go.Proofs.Ytagncoaeochmnaa.Help Go.Proofs.Ytagncoaeochmnaa.Field Go.Proofs.Ytagncoaeochmnaa.FieldW Go.Proofs.Ytagncoaeochmnaa.Vec Go.Proofs.Ytagncoaeochmnaa.VecW Go.Proofs.Ytagncoaeochmnaa.Mat Go.Proofs.Ytagncoaeochmnaa.MatW Go.Proofs.Ytagncoaeochmnaa.MatP Go.Proofs.Ytagncoaeochmnaa.Lin Go.Proofs.Ytagncoaeochmnaa.Rref Go.Proofs.Ytagncoaeochmnaa.SolP

/-- A new slice and a truth value. -/
def GivesB (xs : List Int) (b : Bool) (w : World) (e : Ending) (w' : World) : Prop :=
  ∃ ad n cap, e = .returned (.tuple #[.slice ad n cap, .bool b]) ∧ Row w' w.heap.size w'.heap.size .i64 3 ad n cap xs ∧ Below w.heap.size w w'
theorem sysOk_no {m : List (List Int)} {b : List Int} (h : ¬ (Mat.isMat m = true ∧ Vec.isVec b = true ∧ b.length = m.length ∧ colsOf m < 40)) : solveM m b = ([], false) :=
  solveM_no (by cases e : sysOk m b; rfl; exact absurd (sysOk_iff.1 e) h)
theorem span_congr {n : Nat} {S T : Nat → V} {v : V} (h : ∀ i, i < n → S i = T i) (hv : Span n S v) : Span n T v := by
  obtain ⟨c, rfl⟩ := hv
  exact ⟨c, lin_congr (fun _ _ => rfl) h⟩
/-- The vector that is filled in, row by row. -/
def filled (p : Nat → Nat) (M : Nat → V) (c t : Nat) : V := lin t (fun k => ind (p k)) fun k => M k c
theorem filled_set {p : Nat → Nat} {M : Nat → V} {c t A w : Nat} (h : Red A w M p) (ht : t < A) : (vec c (filled p M c t)).set (p t) (em (M t c)) = vec c (filled p M c (t + 1)) := by
  apply List.ext_getElem?
  intro j
  rw [List.getElem?_set]
  unfold vec filled
  by_cases hj : j < c
  · rw [List.getElem?_map, List.getElem?_map, List.getElem?_range hj]
    show _ = some (em (sum t (fun k => M k c * ind (p k) j) + M t c * ind (p t) j))
    by_cases e : p t = j
    · subst e
      have h0 : sum t (fun k => M k c * ind (p k) (p t)) = 0 := sum_zero fun k hk => by
        have := h.up k t hk ht
        rw [ind_ne (show p t ≠ p k by omega)]; grind
      rw [if_pos rfl, if_pos (by simp; exact hj), h0, ind_same]
      congr 2; grind
    · rw [if_neg e, ind_ne (fun e' => e e'.symm)]
      show some (em (sum t _)) = _
      congr 2
      rw [show M t c * 0 = 0 by grind, show ∀ x : F, x + 0 = x by intro x; grind]
  · rw [List.getElem?_eq_none (by simp; omega), List.getElem?_eq_none (by simp; omega)]
    by_cases e : p t = j
    · subst e; rw [if_pos rfl, if_neg (by simp; omega)]
    · rw [if_neg e]
theorem filled_0 (p : Nat → Nat) (M : Nat → V) (c : Nat) : List.replicate c (0 : Int) = vec c (filled p M c 0) := by
  unfold vec
  rw [show (fun i => em (filled p M c 0 i)) = fun _ => (0 : Int) from rfl]
  simp [List.map_const']
/-- The rows of the matrix with the right side behind them. -/
def wideB (m : List (List Int)) (b : List Int) (k : Nat) : List (List Int) := ((List.range m.length).take k).map fun i => (m[i]?.getD []) ++ [b[i]?.getD 0]
theorem wideB_more {m : List (List Int)} {b xs : List Int} {y : Int} {k : Nat} (hx : m[k]? = some xs) (hy : b[k]? = some y) : wideB m b (k + 1) = wideB m b k ++ [xs ++ [y]] := by
  unfold wideB
  rw [range_map_more (by exact (List.getElem?_eq_some_iff.1 hx).1), hx, hy]; rfl
theorem wideB_mk {m : List (List Int)} {b : List Int} (hm : Mat.isMat m = true) (hb : Vec.isVec b = true) (hl : b.length = m.length) : wideB m b m.length = mk m.length (colsOf m + 1) (wide m b) := by
  unfold wideB mk
  rw [range_map_full]
  refine List.map_congr_left fun i hi => ?_
  have hi := List.mem_range.1 hi
  have h1 : m[i]?.getD [] = vec (colsOf m) (ent m i) := by
    have := mk_get (n := m.length) (c := colsOf m) (ent m) hi
    rw [mk_ent hm] at this
    rw [this]; rfl
  have h2 : b[i]?.getD 0 = em (rhs b i) := by
    unfold rhs
    rw [List.getElem?_eq_getElem (by omega), Option.getD_some, em_toF ((isVec_iff.1 hb).1 _ (List.getElem_mem _))]
  rw [h1, h2]
  unfold vec
  rw [List.range_succ, List.map_append]
  congr 1
  · exact List.map_congr_left fun j hj => by
      have := List.mem_range.1 hj
      unfold wide; rw [if_neg (by omega)]
  · show [em (rhs b i)] = [em (wide m b i (colsOf m))]
    unfold wide; rw [if_pos rfl]
theorem sz1 (D : World) (o : Obj) : D.heap.size ≤ (D.alloc o).heap.size := by rw [World.size_alloc]; exact Nat.le_succ _
theorem sz2 (D : World) (o o' : Obj) : D.heap.size ≤ ((D.alloc o).alloc o').heap.size := Nat.le_trans (sz1 D o) (sz1 _ o')
set_option maxRecDepth 100000 in
set_option maxHeartbeats 1600000 in
theorem spec_solve (w : World) {l h l2 h2 : Nat} {ad ad2 : Option Addr} {n cap n2 cap2 : Nat} {m : List (List Int)} {b : List Int} (s : Sls w l h ad n cap m) (s2 : Sl w l2 h2 .i64 ad2 n2 cap2 b) :
    Calls Try.prog 34 #[.slice ad n cap, .slice ad2 n2 cap2] w (GivesB (solveM m b).1 (solveM m b).2 w) := by
  have hL := Lib.hid s.len
  have hL2 := Lib.hid s2.len
  obtain ⟨c, hcc⟩ : ∃ c, c = colsOf m := ⟨_, rfl⟩
  have KC := spec_cols w s
  rw [← hcc] at KC
  have KC := Lib.hid KC
  have K1 := spec_isMat w s
  have K2 := fun q => spec_isVec (w.drewN q) (s2.drewN q)
  cases hm : Mat.isMat m
  · rw [hm] at K1
    have HE := Lib.hid (sysOk_no (b := b) (fun e => by rw [hm] at e; cases e.1))
    have K1 := Lib.hid K1
    clear hm hcc
    rw [HE.out]
    go_enter Try.func34, Try.ntmps34
    go_wp2_with fail
    go_at_call 21
    refine KC.out.mono ?_
    rintro e w' ⟨rfl, rfl⟩
    go_wp2_with fail
    go_at_call 16
    refine K1.out.mono ?_
    rintro e w1 ⟨rfl, q, rfl⟩
    go_wp2
    go_ret2
    exact ⟨_, _, _, rfl, Row.nil _ _ _ _ _ _, (below_drewN (Below.refl _ _) q).alloc (Nat.le_refl _) _⟩
  rw [hm] at K1
  have K1 := Lib.hid K1
  cases hv : Vec.isVec b
  · have K2 := fun q => K2 q
    rw [hv] at K2
    have HE := Lib.hid (sysOk_no (m := m) (b := b) (fun e => by rw [hv] at e; cases e.2.1))
    have K2 := Lib.hid K2
    clear hm hv hcc
    rw [HE.out]
    go_enter Try.func34, Try.ntmps34
    go_wp2_with fail
    go_at_call 21
    refine KC.out.mono ?_
    rintro e w' ⟨rfl, rfl⟩
    go_wp2_with fail
    go_at_call 16
    refine K1.out.mono ?_
    rintro e w1 ⟨rfl, q, rfl⟩
    go_wp2_with fail
    go_at_call 55
    refine (K2.out _).mono ?_
    rintro e w1 ⟨rfl, rfl⟩
    go_wp2
    go_ret2
    exact ⟨_, _, _, rfl, Row.nil _ _ _ _ _ _, (below_drewN (Below.refl _ _) q).alloc (Nat.le_refl _) _⟩
  rw [hv] at K2
  have K2 := Lib.hid K2
  have hn40 : n ≤ 40 := by rw [← hL.out]; exact (isMat_iff.1 hm).2
  have hc40 := colsOf_le hm
  rw [← hcc] at hc40
  by_cases hnn : n2 = n
  case neg =>
    have HE := Lib.hid (sysOk_no (m := m) (b := b) (fun e => hnn (by rw [← hL.out, ← hL2.out]; exact e.2.2.1)))
    have h1 : ((n2 : Int) == n) = false := by simp; omega
    have h3 : ((n2 : Int) != n) = true := by simp; omega
    clear hm hv hcc hnn
    rw [HE.out]
    go_enter Try.func34, Try.ntmps34
    go_wp2_with fail
    go_at_call 21
    refine KC.out.mono ?_
    rintro e w' ⟨rfl, rfl⟩
    go_wp2_with fail
    go_at_call 16
    refine K1.out.mono ?_
    rintro e w1 ⟨rfl, q, rfl⟩
    go_wp2_with fail
    go_at_call 55
    refine (K2.out _).mono ?_
    rintro e w1 ⟨rfl, rfl⟩
    go_wp2
    go_ret2
    exact ⟨_, _, _, rfl, Row.nil _ _ _ _ _ _, (below_drewN (Below.refl _ _) q).alloc (Nat.le_refl _) _⟩
  subst hnn
  by_cases hc4 : c < 40
  case neg =>
    have HE := Lib.hid (sysOk_no (m := m) (b := b) (fun e => hc4 (by rw [hcc]; exact e.2.2.2)))
    have h1 : (40 : Int) ≤ c := by omega
    clear hm hv hcc
    rw [HE.out]
    go_enter Try.func34, Try.ntmps34
    go_wp2_with fail
    go_at_call 21
    refine KC.out.mono ?_
    rintro e w' ⟨rfl, rfl⟩
    go_wp2_with fail
    go_at_call 16
    refine K1.out.mono ?_
    rintro e w1 ⟨rfl, q, rfl⟩
    go_wp2_with fail
    go_at_call 55
    refine (K2.out _).mono ?_
    rintro e w1 ⟨rfl, rfl⟩
    go_wp2
    go_ret2
    exact ⟨_, _, _, rfl, Row.nil _ _ _ _ _ _, (below_drewN (Below.refl _ _) q).alloc (Nat.le_refl _) _⟩
  have h4 : (c : Int) < 40 := by omega
  have HSys := Lib.hid (sysOk_iff.2 ⟨hm, hv, by rw [hL.out, hL2.out], by rw [← hcc]; exact hc4⟩)
  have HW := Lib.hid (wideB_mk hm hv (by rw [hL.out, hL2.out]))
  have HM := Lib.hid hm
  have HV := Lib.hid hv
  have HCC := Lib.hid hcc
  clear hm hv hcc
  go_enter Try.func34, Try.ntmps34
  go_wp2_with fail
  go_at_call 21
  refine KC.out.mono ?_
  rintro e w' ⟨rfl, rfl⟩
  go_wp2_with fail
  go_at_call 16
  refine K1.out.mono ?_
  rintro e w1 ⟨rfl, q, rfl⟩
  go_wp2_with fail
  go_at_call 55
  refine (K2.out _).mono ?_
  rintro e w1 ⟨rfl, rfl⟩
  have hb0 : Below w.heap.size w ((w.drewN q).alloc (.cells #[] 30)) := (below_drewN (Below.refl _ _) q).alloc (Nat.le_refl _) _
  have hz0 : w.heap.size < ((w.drewN q).alloc (.cells #[] 30)).heap.size := by rw [World.size_alloc]; exact Nat.lt_succ_self _
  go_wp2
  go_loopw [7, 8] (fun o i wr => ∃ (j : Nat) (ad' : Option Addr) (cap' : Nat) (us : List Value), j ≤ n2 ∧ i = .int .i64 j ∧ o = .slice ad' j cap' ∧ (∀ g, ad' = some ⟨g, 0, none⟩ → g < wr.heap.size) ∧
    Grid wr w.heap.size wr.heap.size 3 30 ad' j cap' us (wideB m b j) ∧ Below w.heap.size w wr) (fun _ i _ => n2 - (intOf i).toNat)
  case atStart => exact ⟨0, _, 0, [], Nat.zero_le _, rfl, rfl, (fun g hg => by obtain rfl := (Addr.mk.inj (Option.some.inj hg)).1; exact hz0), Grid.nil _ _ _ _ _ _, hb0⟩
  case round =>
    obtain ⟨j, ad', cap', us, hj, rfl, rfl, had, hr, hb⟩ := hrel
    have zb := hb.size
    by_cases hlt : j < n2
    · obtain ⟨a1, ad3, n3, cap3, xs, e1, hx, hclw⟩ := s.at_ hlt
      obtain ⟨a2, y, e2, hy, hcyw⟩ := s2.at_ hlt
      subst e1 e2
      have HK := Lib.hid (show ∀ w', Below w.heap.size w w' → w'.cell? (a1.add j) = some (.slice ad3 n3 cap3) ∧ w'.cell? (a2.add j) = some (.int .i64 y) from fun w' B => ⟨(B.cell (World.block_lt_of_cell? _ _ hclw)).trans hclw, (B.cell (World.block_lt_of_cell? _ _ hcyw)).trans hcyw⟩)
      have HW2 := Lib.hid (wideB_more hx.get hy.get)
      have hsx := hx.sl.below hb (.inr (Nat.le_refl _))
      have hle2 := s.le
      have hbg2 := s.big
      have hle4 := s2.le
      have hbg4 := s2.big
      unfold maxLen at hbg2 hbg4
      have hn3 : n3 = c := by rw [← hx.sl.len, (isMat_at HM.out hx.get).2, HCC.out]
      have hn4 : n3 ≤ 40 := by omega
      clear hn3
      have hyf : Fits .i64 y := hy.fits
      have hsD : Sl wr.drew l h .i64 ad3 n3 cap3 xs := hsx.drewN 1
      have hrD : Grid wr.drew w.heap.size wr.drew.heap.size 3 30 ad' j cap' us (wideB m b j) := hr.drewN 1
      have hbD : Below w.heap.size w wr.drew := hb.drew
      replace zb : w.heap.size ≤ wr.drew.heap.size := zb
      replace had : ∀ g, ad' = some ⟨g, 0, none⟩ → g < wr.drew.heap.size := had
      clear hx hy hsx hr hb hclw hcyw
      go_wp2
      refine wp_region_held (S := fun w' => w'.cell? (a1.add j) = some (.slice ad3 n3 cap3) ∧ w'.cell? (a2.add j) = some (.int .i64 y)) (by kernel_rfl) ?_
      change wpAnyH _ _ _ _ _ _ _ _ wr.drew
      generalize wr.drew = D at *
      have B0 : Below D.heap.size D D := Below.refl _ _
      have BW : ∀ {w'}, Below D.heap.size D w' → Below w.heap.size w w' := fun B => hbD.trans (B.mono zb)
      refine wpAnyH_take (i := 0) (oi := ⟨some 42, _, _, _, _, _⟩) (v := ?_) rfl (by kernel_rfl) (by kernel_rfl) (by kernel_rfl) (fun _ _ _ h => h) (Or.inl ⟨by rfl, ?_⟩) (HK.out _ (BW B0)) ?_
      rotate_left
      · intro wS hSw
        try dsimp only at hSw
        go_simp
        all_goals (with_reducible rfl)
      simp only [Act.put, List.setIfInBounds_toArray, List.set_cons_zero, List.set_cons_succ]
      refine wpAnyH_take (i := 2) (oi := ⟨some 44, _, _, _, _, _⟩) (v := ?_) rfl (by kernel_rfl) (by kernel_rfl) (by kernel_rfl) (fun _ _ _ h => h) (Or.inl ⟨by rfl, ?_⟩) (HK.out _ (BW B0)) ?_
      rotate_left
      · intro wS hSw
        try dsimp only at hSw
        go_simp
        all_goals (with_reducible rfl)
      simp only [Act.put, List.setIfInBounds_toArray, List.set_cons_zero, List.set_cons_succ]
      refine wpAnyH_take (i := 3) (oi := ⟨some 45, _, _, _, _, _⟩) (v := ?_) rfl (by kernel_rfl) (by kernel_rfl) (by kernel_rfl) (fun _ _ _ h => h) (Or.inl ⟨by rfl, ?_⟩) (HK.out _ (BW B0)) ?_
      rotate_left
      · intro wS hSw
        try dsimp only at hSw
        go_simp
        all_goals (with_reducible rfl)
      simp only [Act.put, List.setIfInBounds_toArray, List.set_cons_zero, List.set_cons_succ]
      refine wpAnyH_take (i := 4) (oi := ⟨some 46, _, _, _, _, _⟩) (v := ?_) rfl (by kernel_rfl) (by kernel_rfl) (by kernel_rfl) (fun _ _ _ h => h) (Or.inl ⟨by rfl, ?_⟩) (HK.out _ (BW B0)) ?_
      rotate_left
      · intro wS hSw
        try dsimp only at hSw
        go_simp
        all_goals (with_reducible rfl)
      simp only [Act.put, List.setIfInBounds_toArray, List.set_cons_zero, List.set_cons_succ]
      refine wpAnyH_take (i := 5) (oi := ⟨some 47, _, _, _, _, _⟩) (v := ?_) rfl (by kernel_rfl) (by kernel_rfl) (by kernel_rfl) (fun _ _ _ h => h) (Or.inl ⟨by rfl, ?_⟩) (HK.out _ (BW B0)) ?_
      rotate_left
      · intro wS hSw
        try dsimp only at hSw
        go_simp
        all_goals (with_reducible rfl)
      simp only [Act.put, List.setIfInBounds_toArray, List.set_cons_zero, List.set_cons_succ]
      refine wpAnyH_take (i := 7) (oi := ⟨some 49, _, _, _, _, _⟩) (v := ?_) rfl (by kernel_rfl) (by kernel_rfl) (by kernel_rfl) (fun _ _ _ h => h) (Or.inl ⟨by rfl, ?_⟩) (HK.out _ (BW B0)) ?_
      rotate_left
      · intro wS hSw
        try dsimp only at hSw
        go_simp
        all_goals (with_reducible rfl)
      simp only [Act.put, List.setIfInBounds_toArray, List.set_cons_zero, List.set_cons_succ]
      refine wpAnyH_take (i := 8) (oi := ⟨some 50, _, _, _, _, _⟩) (v := ?_) rfl (by kernel_rfl) (by kernel_rfl) (by kernel_rfl) (fun _ _ _ h => h) (Or.inl ⟨by rfl, ?_⟩) (HK.out _ (BW B0)) ?_
      rotate_left
      · intro wS hSw
        try dsimp only at hSw
        go_simp
        all_goals (with_reducible rfl)
      simp only [Act.put, List.setIfInBounds_toArray, List.set_cons_zero, List.set_cons_succ]
      refine wpAnyH_take (i := 9) (oi := ⟨some 51, _, _, _, _, _⟩) (v := ?_) rfl (by kernel_rfl) (by kernel_rfl) (by kernel_rfl) (fun _ _ _ h => h) (Or.inl ⟨by rfl, ?_⟩) (HK.out _ (BW B0)) ?_
      rotate_left
      · intro wS hSw
        try dsimp only at hSw
        go_simp
        all_goals (with_reducible rfl)
      simp only [Act.put, List.setIfInBounds_toArray, List.set_cons_zero, List.set_cons_succ]
      refine wpAnyH_take (i := 10) (oi := ⟨some 52, _, _, _, _, _⟩) (v := ?_) rfl (by kernel_rfl) (by kernel_rfl) (by kernel_rfl) (fun _ _ _ h => h) (Or.inl ⟨by rfl, ?_⟩) (HK.out _ (BW B0)) ?_
      rotate_left
      · intro wS hSw
        try dsimp only at hSw
        go_simp
        all_goals (with_reducible rfl)
      simp only [Act.put, List.setIfInBounds_toArray, List.set_cons_zero, List.set_cons_succ]
      refine wpAnyH_ready (rs := [1, 11]) (by kernel_rfl) (by simp) ?_
      refine AllReadyH.cons (o := ⟨some 43, _, _, _, _, _⟩) rfl (fun Kq hKq => ?_) (AllReadyH.cons (o := ⟨some 53, _, _, _, _, _⟩) rfl (fun Kq hKq => ?_) (AllReadyH.nil))
      · go_simp
        refine hKq.out _ _ (HK.out _ (BW (B0.alloc (Nat.le_refl _) _))) (fun _ => ?_)
        clear hKq Kq
        try simp only [Act.put, List.setIfInBounds_toArray, List.set_cons_zero, List.set_cons_succ]
        refine wpAnyH_ready (rs := [6, 11]) (by kernel_rfl) (by simp) ?_
        refine AllReadyH.cons (o := ⟨some 48, _, _, _, _, _⟩) rfl (fun Kq hKq => ?_) (AllReadyH.cons (o := ⟨some 53, _, _, _, _, _⟩) rfl (fun Kq hKq => ?_) (AllReadyH.nil))
        · refine step_app (Row.nil (D.alloc (.cells #[] 3)) D.heap.size D.heap.size .i64 3 _) (hsD.alloc _) Try.underlying30 info_int (by unfold maxLen; omega) (by omega) (sz1 D _) rfl _ _ rfl rfl rfl ?_
          intro ad4 cap4 w4 r4 m4
          rw [List.nil_append, Nat.zero_add] at r4
          simp only [Nat.zero_add]
          have B4 : Below D.heap.size D w4 := (B0.alloc (Nat.le_refl _) _).trans (m4.below (Nat.le_refl _) (sz1 D _))
          have y4 : D.heap.size ≤ w4.heap.size := B4.size
          refine hKq.out _ _ (HK.out _ (BW B4)) (fun _ => ?_)
          clear hKq Kq
          try simp only [Act.put, List.setIfInBounds_toArray, List.set_cons_zero, List.set_cons_succ]
          refine wpAnyH_ready (rs := [11]) (by kernel_rfl) (by simp) ?_
          refine AllReadyH.cons (o := ⟨some 53, _, _, _, _, _⟩) rfl (fun Kq hKq => ?_) (AllReadyH.nil)
          go_simp
          refine hKq.out _ _ (HK.out _ (BW (B4.alloc y4 _))) (fun _ => ?_)
          clear hKq Kq
          try simp only [Act.put, List.setIfInBounds_toArray, List.set_cons_zero, List.set_cons_succ]
          refine wpAnyH_ready (rs := [12]) (by kernel_rfl) (by simp) ?_
          refine AllReadyH.cons (o := ⟨some 54, _, _, _, _, _⟩) rfl (fun Kq hKq => ?_) (AllReadyH.nil)
          refine step_app (r4.alloc _) (one w4 .i64 3 y hyf) Try.underlying30 info_int (by unfold maxLen; omega) (by omega) (Nat.le_trans y4 (sz1 w4 _)) rfl _ _ rfl rfl rfl ?_
          intro ad5 cap5 w5 r5 m5
          have B5 : Below D.heap.size D w5 := (B4.alloc y4 _).trans (m5.below (Nat.le_refl _) (Nat.le_trans y4 (sz1 w4 _)))
          have y5 : D.heap.size ≤ w5.heap.size := B5.size
          refine hKq.out _ _ (HK.out _ (BW B5)) (fun _ => ?_)
          clear hKq Kq
          try simp only [Act.put, List.setIfInBounds_toArray, List.set_cons_zero, List.set_cons_succ]
          clear r4 m4 B4 y4
          refine wpAnyH_ready (rs := [13]) (by kernel_rfl) (by simp) ?_
          refine AllReadyH.cons (o := ⟨some 55, _, _, _, _, _⟩) rfl (fun Kq hKq => ?_) (AllReadyH.nil)
          go_simp
          refine hKq.out _ _ (HK.out _ (BW (B5.alloc y5 _))) (fun _ => ?_)
          clear hKq Kq
          try simp only [Act.put, List.setIfInBounds_toArray, List.set_cons_zero, List.set_cons_succ]
          have hr6 := (hrD.below B5 (.inr (Nat.le_refl _))).alloc (.cells #[.slice ad5 (n3 + 1) cap5] 30)
          have ho6 := (OwnInts.of r5).below ((Below.refl _ w5).alloc (Nat.le_refl _) (.cells #[.slice ad5 (n3 + 1) cap5] 30)) (.inl (Nat.le_refl _))
          refine wpAnyH_ready (rs := [14]) (by kernel_rfl) (by simp) ?_
          refine AllReadyH.cons (o := ⟨some 56, _, _, _, _, _⟩) rfl (fun Kq hKq => ?_) (AllReadyH.nil)
          refine step_snoc hr6.out (u := .slice ad5 (n3 + 1) cap5) (by rw [World.cell?_alloc_new]; rfl) rfl Try.underlying24 info_ints rfl (by unfold maxLen; omega) (by omega) rfl _ _ rfl rfl rfl ?_
          intro g6 cap6 w6 o6 p6
          have B6 : Below w.heap.size w w6 := ((hbD.trans (B5.mono zb)).alloc (Nat.le_trans zb y5) _).trans (p6.below (Nat.le_refl _) (Nat.le_trans (Nat.le_trans zb y5) (sz1 w5 _)))
          refine hKq.out _ _ (HK.out _ B6) (fun _ => ?_)
          clear hKq Kq
          try simp only [Act.put, List.setIfInBounds_toArray, List.set_cons_zero, List.set_cons_succ]
          refine wpAnyH_take (i := 15) (oi := ⟨some 7, _, _, _, _, _⟩) (v := ?_) rfl (by kernel_rfl) (by kernel_rfl) (by kernel_rfl) (fun _ _ _ h => h) (Or.inl ⟨by rfl, ?_⟩) (HK.out _ B6) ?_
          rotate_left
          · intro wS hSw
            try dsimp only at hSw
            go_simp
            all_goals (with_reducible rfl)
          simp only [Act.put, List.setIfInBounds_toArray, List.set_cons_zero, List.set_cons_succ]
          refine wpAnyH_done (by kernel_rfl) ?_ _
          have hA := hr6.add ho6 had o6 p6 (Nat.le_trans (Nat.le_trans zb y5) (sz1 w5 _)) zb
          have HA := Lib.hid hA.1
          have HA2 := hA.2
          clear hA hr6 ho6 o6 p6 hrD hsD r5 m5 B5 B0
          go_wp2
          go_roundw
          case rel => exact ⟨j + 1, _, _, _, by omega, by go_num, rfl, HA2, HW2.out ▸ HA.out, B6⟩
          case measure => simp [intOf]; omega
        · go_simp
          refine hKq.out _ _ (HK.out _ (BW ((B0.alloc (Nat.le_refl _) _).alloc (sz1 D _) _))) (fun _ => ?_)
          clear hKq Kq
          try simp only [Act.put, List.setIfInBounds_toArray, List.set_cons_zero, List.set_cons_succ]
          refine wpAnyH_ready (rs := [6]) (by kernel_rfl) (by simp) ?_
          refine AllReadyH.cons (o := ⟨some 48, _, _, _, _, _⟩) rfl (fun Kq hKq => ?_) (AllReadyH.nil)
          refine step_app (Row.nil ((D.alloc (.cells #[] 3)).alloc (.cells #[.int .i64 y] 3)) D.heap.size D.heap.size .i64 3 _) ((hsD.alloc _).alloc _) Try.underlying30 info_int (by unfold maxLen; omega) (by omega) (sz2 D _ _) rfl _ _ rfl rfl rfl ?_
          intro ad4 cap4 w4 r4 m4
          rw [List.nil_append, Nat.zero_add] at r4
          simp only [Nat.zero_add]
          have B4 : Below D.heap.size D w4 := ((B0.alloc (Nat.le_refl _) _).alloc (sz1 D _) _).trans (m4.below (Nat.le_refl _) (sz2 D _ _))
          have y4 : D.heap.size ≤ w4.heap.size := B4.size
          refine hKq.out _ _ (HK.out _ (BW B4)) (fun _ => ?_)
          clear hKq Kq
          try simp only [Act.put, List.setIfInBounds_toArray, List.set_cons_zero, List.set_cons_succ]
          have sY := one (D.alloc (.cells #[] 3)) .i64 3 y hyf
          rw [World.size_alloc] at sY
          refine wpAnyH_ready (rs := [12]) (by kernel_rfl) (by simp) ?_
          refine AllReadyH.cons (o := ⟨some 54, _, _, _, _, _⟩) rfl (fun Kq hKq => ?_) (AllReadyH.nil)
          refine step_app (r4) (sY.mv m4 (.inr (Nat.le_succ _))) Try.underlying30 info_int (by unfold maxLen; omega) (by omega) (y4) rfl _ _ rfl rfl rfl ?_
          intro ad5 cap5 w5 r5 m5
          have B5 : Below D.heap.size D w5 := B4.trans (m5.below (Nat.le_refl _) y4)
          have y5 : D.heap.size ≤ w5.heap.size := B5.size
          refine hKq.out _ _ (HK.out _ (BW B5)) (fun _ => ?_)
          clear hKq Kq
          try simp only [Act.put, List.setIfInBounds_toArray, List.set_cons_zero, List.set_cons_succ]
          clear r4 m4 B4 y4
          refine wpAnyH_ready (rs := [13]) (by kernel_rfl) (by simp) ?_
          refine AllReadyH.cons (o := ⟨some 55, _, _, _, _, _⟩) rfl (fun Kq hKq => ?_) (AllReadyH.nil)
          go_simp
          refine hKq.out _ _ (HK.out _ (BW (B5.alloc y5 _))) (fun _ => ?_)
          clear hKq Kq
          try simp only [Act.put, List.setIfInBounds_toArray, List.set_cons_zero, List.set_cons_succ]
          have hr6 := (hrD.below B5 (.inr (Nat.le_refl _))).alloc (.cells #[.slice ad5 (n3 + 1) cap5] 30)
          have ho6 := (OwnInts.of r5).below ((Below.refl _ w5).alloc (Nat.le_refl _) (.cells #[.slice ad5 (n3 + 1) cap5] 30)) (.inl (Nat.le_refl _))
          refine wpAnyH_ready (rs := [14]) (by kernel_rfl) (by simp) ?_
          refine AllReadyH.cons (o := ⟨some 56, _, _, _, _, _⟩) rfl (fun Kq hKq => ?_) (AllReadyH.nil)
          refine step_snoc hr6.out (u := .slice ad5 (n3 + 1) cap5) (by rw [World.cell?_alloc_new]; rfl) rfl Try.underlying24 info_ints rfl (by unfold maxLen; omega) (by omega) rfl _ _ rfl rfl rfl ?_
          intro g6 cap6 w6 o6 p6
          have B6 : Below w.heap.size w w6 := ((hbD.trans (B5.mono zb)).alloc (Nat.le_trans zb y5) _).trans (p6.below (Nat.le_refl _) (Nat.le_trans (Nat.le_trans zb y5) (sz1 w5 _)))
          refine hKq.out _ _ (HK.out _ B6) (fun _ => ?_)
          clear hKq Kq
          try simp only [Act.put, List.setIfInBounds_toArray, List.set_cons_zero, List.set_cons_succ]
          refine wpAnyH_take (i := 15) (oi := ⟨some 7, _, _, _, _, _⟩) (v := ?_) rfl (by kernel_rfl) (by kernel_rfl) (by kernel_rfl) (fun _ _ _ h => h) (Or.inl ⟨by rfl, ?_⟩) (HK.out _ B6) ?_
          rotate_left
          · intro wS hSw
            try dsimp only at hSw
            go_simp
            all_goals (with_reducible rfl)
          simp only [Act.put, List.setIfInBounds_toArray, List.set_cons_zero, List.set_cons_succ]
          refine wpAnyH_done (by kernel_rfl) ?_ _
          have hA := hr6.add ho6 had o6 p6 (Nat.le_trans (Nat.le_trans zb y5) (sz1 w5 _)) zb
          have HA := Lib.hid hA.1
          have HA2 := hA.2
          clear hA hr6 ho6 o6 p6 hrD hsD r5 m5 B5 B0
          go_wp2
          go_roundw
          case rel => exact ⟨j + 1, _, _, _, by omega, by go_num, rfl, HA2, HW2.out ▸ HA.out, B6⟩
          case measure => simp [intOf]; omega
      · go_simp
        refine hKq.out _ _ (HK.out _ (BW (B0.alloc (Nat.le_refl _) _))) (fun _ => ?_)
        clear hKq Kq
        try simp only [Act.put, List.setIfInBounds_toArray, List.set_cons_zero, List.set_cons_succ]
        refine wpAnyH_ready (rs := [1]) (by kernel_rfl) (by simp) ?_
        refine AllReadyH.cons (o := ⟨some 43, _, _, _, _, _⟩) rfl (fun Kq hKq => ?_) (AllReadyH.nil)
        go_simp
        refine hKq.out _ _ (HK.out _ (BW ((B0.alloc (Nat.le_refl _) _).alloc (sz1 D _) _))) (fun _ => ?_)
        clear hKq Kq
        try simp only [Act.put, List.setIfInBounds_toArray, List.set_cons_zero, List.set_cons_succ]
        refine wpAnyH_ready (rs := [6]) (by kernel_rfl) (by simp) ?_
        refine AllReadyH.cons (o := ⟨some 48, _, _, _, _, _⟩) rfl (fun Kq hKq => ?_) (AllReadyH.nil)
        refine step_app (Row.nil ((D.alloc (.cells #[.int .i64 y] 3)).alloc (.cells #[] 3)) D.heap.size D.heap.size .i64 3 _) ((hsD.alloc _).alloc _) Try.underlying30 info_int (by unfold maxLen; omega) (by omega) (sz2 D _ _) rfl _ _ rfl rfl rfl ?_
        intro ad4 cap4 w4 r4 m4
        rw [List.nil_append, Nat.zero_add] at r4
        simp only [Nat.zero_add]
        have B4 : Below D.heap.size D w4 := ((B0.alloc (Nat.le_refl _) _).alloc (sz1 D _) _).trans (m4.below (Nat.le_refl _) (sz2 D _ _))
        have y4 : D.heap.size ≤ w4.heap.size := B4.size
        refine hKq.out _ _ (HK.out _ (BW B4)) (fun _ => ?_)
        clear hKq Kq
        try simp only [Act.put, List.setIfInBounds_toArray, List.set_cons_zero, List.set_cons_succ]
        refine wpAnyH_ready (rs := [12]) (by kernel_rfl) (by simp) ?_
        refine AllReadyH.cons (o := ⟨some 54, _, _, _, _, _⟩) rfl (fun Kq hKq => ?_) (AllReadyH.nil)
        refine step_app (r4) (((one D .i64 3 y hyf).alloc (.cells #[] 3)).mv m4 (.inr (Nat.le_refl _))) Try.underlying30 info_int (by unfold maxLen; omega) (by omega) (y4) rfl _ _ rfl rfl rfl ?_
        intro ad5 cap5 w5 r5 m5
        have B5 : Below D.heap.size D w5 := B4.trans (m5.below (Nat.le_refl _) y4)
        have y5 : D.heap.size ≤ w5.heap.size := B5.size
        refine hKq.out _ _ (HK.out _ (BW B5)) (fun _ => ?_)
        clear hKq Kq
        try simp only [Act.put, List.setIfInBounds_toArray, List.set_cons_zero, List.set_cons_succ]
        clear r4 m4 B4 y4
        refine wpAnyH_ready (rs := [13]) (by kernel_rfl) (by simp) ?_
        refine AllReadyH.cons (o := ⟨some 55, _, _, _, _, _⟩) rfl (fun Kq hKq => ?_) (AllReadyH.nil)
        go_simp
        refine hKq.out _ _ (HK.out _ (BW (B5.alloc y5 _))) (fun _ => ?_)
        clear hKq Kq
        try simp only [Act.put, List.setIfInBounds_toArray, List.set_cons_zero, List.set_cons_succ]
        have hr6 := (hrD.below B5 (.inr (Nat.le_refl _))).alloc (.cells #[.slice ad5 (n3 + 1) cap5] 30)
        have ho6 := (OwnInts.of r5).below ((Below.refl _ w5).alloc (Nat.le_refl _) (.cells #[.slice ad5 (n3 + 1) cap5] 30)) (.inl (Nat.le_refl _))
        refine wpAnyH_ready (rs := [14]) (by kernel_rfl) (by simp) ?_
        refine AllReadyH.cons (o := ⟨some 56, _, _, _, _, _⟩) rfl (fun Kq hKq => ?_) (AllReadyH.nil)
        refine step_snoc hr6.out (u := .slice ad5 (n3 + 1) cap5) (by rw [World.cell?_alloc_new]; rfl) rfl Try.underlying24 info_ints rfl (by unfold maxLen; omega) (by omega) rfl _ _ rfl rfl rfl ?_
        intro g6 cap6 w6 o6 p6
        have B6 : Below w.heap.size w w6 := ((hbD.trans (B5.mono zb)).alloc (Nat.le_trans zb y5) _).trans (p6.below (Nat.le_refl _) (Nat.le_trans (Nat.le_trans zb y5) (sz1 w5 _)))
        refine hKq.out _ _ (HK.out _ B6) (fun _ => ?_)
        clear hKq Kq
        try simp only [Act.put, List.setIfInBounds_toArray, List.set_cons_zero, List.set_cons_succ]
        refine wpAnyH_take (i := 15) (oi := ⟨some 7, _, _, _, _, _⟩) (v := ?_) rfl (by kernel_rfl) (by kernel_rfl) (by kernel_rfl) (fun _ _ _ h => h) (Or.inl ⟨by rfl, ?_⟩) (HK.out _ B6) ?_
        rotate_left
        · intro wS hSw
          try dsimp only at hSw
          go_simp
          all_goals (with_reducible rfl)
        simp only [Act.put, List.setIfInBounds_toArray, List.set_cons_zero, List.set_cons_succ]
        refine wpAnyH_done (by kernel_rfl) ?_ _
        have hA := hr6.add ho6 had o6 p6 (Nat.le_trans (Nat.le_trans zb y5) (sz1 w5 _)) zb
        have HA := Lib.hid hA.1
        have HA2 := hA.2
        clear hA hr6 ho6 o6 p6 hrD hsD r5 m5 B5 B0
        go_wp2
        go_roundw
        case rel => exact ⟨j + 1, _, _, _, by omega, by go_num, rfl, HA2, HW2.out ▸ HA.out, B6⟩
        case measure => simp [intOf]; omega
    · obtain rfl : j = n2 := by omega
      rw [show wideB m b j = mk m.length (colsOf m + 1) (wide m b) by rw [← hL.out]; exact HW.out] at hr
      have hmw : Mat.isMat (mk m.length (colsOf m + 1) (wide m b)) = true := isMat_mk _ (by rw [hL.out]; omega) (by rw [← HCC.out]; omega)
      have hcw : 0 < (mk m.length (colsOf m + 1) (wide m b)).length → c + 1 ≤ colsOf (mk m.length (colsOf m + 1) (wide m b)) := fun h0 => by
        rw [mk_len] at h0
        rw [mk_cols _ h0, HCC.out]; exact Nat.le_refl _
      have KR := spec_reduce wr hr.sls hmw (c + 1) hcw
      have KR := Lib.hid KR
      have he : ((c + 1 : Nat) : Int) = (c : Int) + 1 := by omega
      rw [he] at KR
      clear he hmw hcw hr
      go_wp2_with fail
      go_at_call 85
      refine KR.out.mono ?_
      rintro e w5 ⟨A, M, p, hA0, h10, h20, ad5, n5, cap5, rfl, rX, b5⟩
      have ent_w : ∀ l, l < m.length → ent (mk m.length (colsOf m + 1) (wide m b)) l = wide m b l := fun l hl => ent_red hl (wide_supp HM.out l)
      rw [mk_len] at hA0 h10 h20
      have hA : Elim m.length A (c + 1) M p := hA0
      have hA5 := hA.le
      have h1 : ∀ l, l < m.length → Span m.length (wide m b) (M l) := fun l hl => span_congr ent_w (h10 l hl)
      have h2 : ∀ l, l < m.length → Span m.length M (wide m b l) := fun l hl => by rw [← ent_w l hl]; exact h20 l hl
      have rX2 : Sls w5 wr.heap.size w5.heap.size ad5 n5 cap5 (mk A (c + 1) M) := by
        rcases Nat.eq_zero_or_pos m.length with h0 | h0
        · have : A = 0 := by omega
          subst this; exact rX
        · rw [mk_cols _ h0, ← HCC.out] at rX; exact rX
      obtain rfl : n5 = A := by rw [← rX2.len, mk_len]
      have z5 := b5.size
      have hb5 := hb.trans (b5.mono zb)
      have hRed := hA.red
      have H1 := Lib.hid (And.intro hA (And.intro h1 h2))
      have HRed := Lib.hid hRed
      have HX := Lib.hid rX2
      have hn5 : n5 ≤ 40 := by rw [hL.out] at hA5; omega
      clear hA0 h10 h20 ent_w hA h1 h2 rX rX2 b5 hRed hb hA5 KR
      go_wp2_with (at_make; refine wpList_mk (n := c) Try.underlying30 info_int (fits_i64.2 (by omega)) (by unfold maxLen; omega) (by omega) rfl _ _ rfl rfl rfl ?_; intro w6 hr6 hb6)
      rw [filled_0 p M c] at hr6
      have z6 := hb6.size
      have hb60 := hb5.trans (hb6.mono hb5.size)
      go_loopw [11] (fun i w7 => ∃ t : Nat, t ≤ n5 ∧ i = .int .i64 t ∧ Row w7 w5.heap.size w7.heap.size .i64 3 (some ⟨w5.heap.size, 0, none⟩) c c (vec c (filled p M c t)) ∧ Hid (∀ k, k < t → p k < c) ∧ Below w5.heap.size w5 w7) (fun i _ => n5 - (intOf i).toNat)
      case atStart => exact ⟨0, Nat.zero_le _, rfl, hr6, fun k hk => by omega, hb6⟩
      case round =>
        obtain ⟨t, ht, rfl, r7, HP, hb7⟩ := hrel
        have z7 := hb7.size
        have hb70 := hb5.trans (hb7.mono hb5.size)
        by_cases htn : t < n5
        · obtain ⟨ax, ad8, n8, cap8, x8, e8, hx8, hc8⟩ := (HX.out.below hb7 (.inr (Nat.le_refl _))).at_ htn
          subst e8
          have e9 : vec (c + 1) (M t) = x8 := Option.some.inj ((mk_get M htn).symm.trans hx8.get)
          subst e9
          obtain rfl : n8 = c + 1 := by rw [← hx8.sl.len, vec_len]
          have hs8 := hx8.sl
          have KL := spec_lead _ hs8
          rw [lead_red HRed.out htn] at KL
          have KL := Lib.hid KL
          have hpt := HRed.out.lt t htn
          have hle8 := hs8.le
          have hbg8 := hs8.big
          have hleX := HX.out.le
          have hbgX := HX.out.big
          unfold maxLen at hbg8 hbgX
          by_cases hpc : p t = c
          · have HN := Lib.hid (solveM_none (wide_none (by rw [← HCC.out]; exact H1.out.1) H1.out.2.1 htn (by rw [← HCC.out]; exact hpc)))
            have hq1 : ((p t : Int) == (c : Int)) = true := by simp; omega
            clear hx8 hs8 r7 hpc
            go_wp2_with fail
            go_at_call 86
            refine KL.out.mono ?_
            rintro e w' ⟨rfl, rfl⟩
            go_wp2
            go_ret2
            rw [HN.out]
            exact ⟨_, _, _, rfl, Row.nil _ _ _ _ _ _, hb70.alloc hb70.size _⟩
          · have hq1 : ((p t : Int) == (c : Int)) = false := by simp; omega
            have hq2 : p t < c := by omega
            obtain ⟨q, hq⟩ : ∃ q, q = p t := ⟨_, rfl⟩
            have HF := Lib.hid (filled_set (c := c) HRed.out htn)
            rw [← hq] at HF KL hq1 hq2
            have HP2 := Lib.hid (show ∀ k, k < t + 1 → p k < c from fun k hk => by
              rcases Nat.lt_or_eq_of_le (Nat.le_of_lt_succ hk) with h | rfl
              · exact HP.out k h
              · omega)
            obtain ⟨a9, y9, e9, hy9, hc9⟩ := hs8.at_ (j := c) (by omega)
            have e10 : em (M t c) = y9 := Option.some.inj ((vec_get (M t) (by omega)).symm.trans hy9.get)
            subst e9 e10
            obtain ⟨u9, _, _, hcu, hfu⟩ := r7.there (j := q) hq2
            have hem := em_in (M t c)
            have hput := r7.set (x := em (M t c)) hq2 (fits_i64.2 (by omega))
            rw [HF.out] at hput
            have HPut := Lib.hid hput
            clear hx8 hs8 r7 hpc hy9 hput hq HP
            go_wp2_with fail
            go_at_call 86
            refine KL.out.mono ?_
            rintro e w' ⟨rfl, rfl⟩
            go_wp2
            go_roundw
            case rel => exact ⟨t + 1, by omega, by go_num, HPut.out.1.lt, HP2.out, hb7.trans (HPut.out.2.below (Nat.le_refl _) z7)⟩
            case measure => simp [intOf]; omega
        · obtain rfl : t = n5 := by omega
          have HS := Lib.hid (solveM_is HSys.out (wide_some HM.out (by rw [← HCC.out]; exact H1.out.1) H1.out.2.1 H1.out.2.2 (fun i hi => by rw [← HCC.out]; exact HP.out i hi)))
          have HR7 := Lib.hid (r7.lo (l' := w.heap.size) (Nat.le_trans zb z5))
          clear r7
          go_wp2
          go_ret2
          rw [HS.out]
          exact ⟨_, _, _, rfl, by rw [← HCC.out]; exact HR7.out, hb70⟩
end Go.Proofs.Ytagncoaeochmnaa.RedW
namespace Go.Proofs.Ytagncoaeochmnaa.RedW
open Go.ChangeShapes Go.WideShapes Go.ChangeAt Go.RowKit
open Go.Proofs.Ytagncoaeochmnaa.Drawn Go.Proofs.Ytagncoaeochmnaa.Seq Go.Proofs.Ytagncoaeochmnaa.Help Go.Proofs.Ytagncoaeochmnaa.Field Go.Proofs.Ytagncoaeochmnaa.FieldW Go.Proofs.Ytagncoaeochmnaa.Vec Go.Proofs.Ytagncoaeochmnaa.VecW Go.Proofs.Ytagncoaeochmnaa.Mat Go.Proofs.Ytagncoaeochmnaa.MatW Go.Proofs.Ytagncoaeochmnaa.MatP Go.Proofs.Ytagncoaeochmnaa.Lin Go.Proofs.Ytagncoaeochmnaa.Rref Go.Proofs.Ytagncoaeochmnaa.SolP Go.Proofs.Ytagncoaeochmnaa.Det Go.Proofs.Ytagncoaeochmnaa.InvP

/-- New rows and a truth value. -/
def Gives2B (xss : List (List Int)) (b : Bool) (w : World) (e : Ending) (w' : World) : Prop :=
  ∃ ad n cap us, e = .returned (.tuple #[.slice ad n cap, .bool b]) ∧ Grid w' w.heap.size w'.heap.size 3 30 ad n cap us xss ∧ Below w.heap.size w w'
/-- The rows of a matrix with the identity's behind them. -/
def wideI (m : List (List Int)) (k : Nat) : List (List Int) := ((List.range m.length).take k).map fun (i : Nat) => (m[i]?.getD []) ++ unit (m.length : Int) (i : Int)
theorem wideI_more {m : List (List Int)} {xs : List Int} {k : Nat} (hx : m[k]? = some xs) : wideI m (k + 1) = wideI m k ++ [xs ++ unit (m.length : Int) (k : Int)] := by
  unfold wideI
  rw [range_map_more (by exact (List.getElem?_eq_some_iff.1 hx).1), hx]; rfl
def wI (m : List (List Int)) : Nat → V := fun i j => if j < m.length then ent m i j else one i (j - m.length)
theorem unit_vec {n i : Nat} (hn : n ≤ 40) (hi : i < n) : unit (n : Int) (i : Int) = vec n (one i) := by
  have h := identity_mk hn
  obtain ⟨k, hk, he, hh⟩ := identity_is n
  obtain rfl : k = n := by omega
  rw [he] at h
  have h2 : ((List.range k).map fun (i : Nat) => unit (k : Int) i)[i]? = some (unit (k : Int) i) := by simp [hi]
  rw [h, mk_get _ hi] at h2
  exact (Option.some.inj h2).symm
theorem wideI_mk {m : List (List Int)} (hs : isSq m = true) : wideI m m.length = mk m.length (m.length + m.length) (wI m) := by
  obtain ⟨hm, hsq⟩ := isSq_iff.1 hs
  unfold wideI mk
  rw [range_map_full]
  refine List.map_congr_left fun i hi => ?_
  have hi := List.mem_range.1 hi
  have h1 : m[i]?.getD [] = vec m.length (ent m i) := by
    have := mk_get (n := m.length) (c := colsOf m) (ent m) hi
    rw [mk_ent hm] at this
    rw [this, ← hsq]; rfl
  rw [h1, unit_vec (isMat_iff.1 hm).2 hi]
  unfold vec
  rw [List.range_add, List.map_append, List.map_map]
  congr 1
  · exact List.map_congr_left fun j hj => by
      have := List.mem_range.1 hj
      unfold wI; rw [if_pos this]
  · exact List.map_congr_left fun j hj => by
      show em (one i j) = em (wI m i (m.length + j))
      unfold wI; rw [if_neg (by omega), Nat.add_sub_cancel_left]
/-- Elimination over the first half: fewer pivots than rows, no inverse. -/
theorem wideI_none {m : List (List Int)} (hs : isSq m = true) {A : Nat} {M : Nat → V} {p : Nat → Nat} (hA : Elim m.length A m.length M p) (h2 : ∀ l, l < m.length → Span m.length M (wI m l)) (hlt : A < m.length) : isFull m = false := by
  cases hf : isFull m
  · rfl
  · exfalso
    obtain ⟨_, _, hr⟩ := isFull_iff.1 hf
    refine (full_iff hs).1 hr ?_
    obtain ⟨C, hC⟩ := choose_c h2
    have e : det m.length (ent m) = det m.length (mulR m.length C M) := det_congr _ fun i j hi hj => by
      have := congrFun (hC i hi) j
      unfold wI at this
      rw [if_pos hj] at this
      exact this
    have hz : det m.length M = 0 := by
      have e : det m.length M = det m.length (upd M A (fun _ => 0)) := det_congr _ fun i j hi hj => by
        unfold upd; split
        · rename_i e; subst e; exact hA.rest i j (Nat.le_refl _) hi hj
        · rfl
      rw [e, (alt_det _).zero _ hlt fun j => by rw [upd_same]]
    rw [e, det_mul invF invF_ok, hz]; grind
/-- All pivots: the second half is the inverse. -/
theorem wideI_full {m : List (List Int)} (hs : isSq m = true) (h20 : m.length ≤ 20) {M : Nat → V} {p : Nat → Nat} (hA : Elim m.length m.length m.length M p) (h1 : ∀ l, l < m.length → Span m.length (wI m) (M l)) : isFull m = true ∧ invM m = mk m.length m.length (fun i j => M i (m.length + j)) := by
  obtain ⟨C, hC⟩ := choose_c h1
  have hl : Like m.length (mulR m.length C (ent m)) one := fun i j hi hj => by
    have h := full_one hA.red i j hi hj
    rw [hC i hi] at h
    rw [← h]
    exact sum_congr fun k _ => by
      show C i k * ent m k j = C i k * wI m k j
      unfold wI; rw [if_pos hj]
  have hr : ∀ i j, i < m.length → j < m.length → M i (m.length + j) = C i j := fun i j hi hj => by
    rw [hC i hi]
    have : lin m.length (wI m) (C i) (m.length + j) = lin m.length one (C i) j := sum_congr fun k _ => by
      unfold wI; rw [if_neg (by omega), Nat.add_sub_cancel_left]
    rw [this]
    exact mulR_one m.length C i j hi hj
  have hf : isFull m = true := isFull_iff.2 ⟨hs, h20, (full_iff hs).2 fun e => by
    have := left_det hl
    rw [e] at this
    have h0 : (0 : F) = 1 := by grind
    exact absurd h0 (by decide)⟩
  exact ⟨hf, by rw [invM_is hf hl]; exact mk_congr fun i j hi hj => (hr i j hi hj).symm⟩
theorem vec_drop {n : Nat} (f : V) : (vec (n + n) f).drop n = vec n fun j => f (n + j) := by
  unfold vec
  rw [List.range_add, List.map_append, List.drop_left' (by simp), List.map_map]; rfl
theorem wI_supp {m : List (List Int)} (l : Nat) (hl : l < m.length) : Supp (m.length + m.length) (wI m l) := fun j hj => by
  unfold wI; rw [if_neg (by omega), one_at, if_neg (by omega)]
theorem isFull_no {m : List (List Int)} (h : ¬ (isSq m = true ∧ m.length ≤ 20)) : isFull m = false := by
  cases e : isFull m
  · rfl
  · obtain ⟨h1, h2, _⟩ := isFull_iff.1 e; exact absurd ⟨h1, h2⟩ h
set_option maxRecDepth 100000 in
set_option maxHeartbeats 1600000 in
theorem spec_invM (w : World) {l h : Nat} {ad : Option Addr} {n cap : Nat} {m : List (List Int)} (s : Sls w l h ad n cap m) :
    Calls Try.prog 46 #[.slice ad n cap] w (Gives2B (invM m) (isFull m) w) := by
  have hL := Lib.hid s.len
  have K1 := spec_sq w s
  cases hsq : isSq m
  · rw [hsq] at K1
    have hf := isFull_no (m := m) (fun e => by rw [hsq] at e; cases e.1)
    have HF := Lib.hid hf
    have HE := Lib.hid (invM_no hf)
    have K1 := Lib.hid K1
    clear hsq hf
    rw [HE.out, HF.out]
    go_enter Try.func46, Try.ntmps46
    go_wp2_with fail
    go_at_call 90
    refine K1.out.mono ?_
    rintro e w1 ⟨rfl, q, rfl⟩
    go_wp2
    go_ret2
    exact ⟨_, _, _, _, rfl, Grid.nil _ _ _ _ _ _, (below_drewN (Below.refl _ _) q).alloc (Nat.le_refl _) _⟩
  rw [hsq] at K1
  have K1 := Lib.hid K1
  by_cases h20 : n ≤ 20
  case neg =>
    have hf := isFull_no (m := m) (fun e => h20 (by rw [← hL.out]; exact e.2))
    have HF := Lib.hid hf
    have HE := Lib.hid (invM_no hf)
    have h1 : (20 : Int) < n := by omega
    clear hsq hf
    rw [HE.out, HF.out]
    go_enter Try.func46, Try.ntmps46
    go_wp2_with fail
    go_at_call 90
    refine K1.out.mono ?_
    rintro e w1 ⟨rfl, q, rfl⟩
    go_wp2
    go_ret2
    exact ⟨_, _, _, _, rfl, Grid.nil _ _ _ _ _ _, (below_drewN (Below.refl _ _) q).alloc (Nat.le_refl _) _⟩
  have HSq := Lib.hid hsq
  have HW := Lib.hid (wideI_mk hsq)
  clear hsq
  go_enter Try.func46, Try.ntmps46
  go_wp2_with fail
  go_at_call 90
  refine K1.out.mono ?_
  rintro e w1 ⟨rfl, q, rfl⟩
  have hb0 : Below w.heap.size w ((w.drewN q).alloc (.cells #[] 30)) := (below_drewN (Below.refl _ _) q).alloc (Nat.le_refl _) _
  have hz0 : w.heap.size < ((w.drewN q).alloc (.cells #[] 30)).heap.size := by rw [World.size_alloc]; exact Nat.lt_succ_self _
  go_wp2
  go_loopw [5, 6] (fun o i wr => ∃ (j : Nat) (ad' : Option Addr) (cap' : Nat) (us : List Value), j ≤ n ∧ i = .int .i64 j ∧ o = .slice ad' j cap' ∧ (∀ g, ad' = some ⟨g, 0, none⟩ → g < wr.heap.size) ∧
    Grid wr w.heap.size wr.heap.size 3 30 ad' j cap' us (wideI m j) ∧ Below w.heap.size w wr) (fun _ i _ => n - (intOf i).toNat)
  case atStart => exact ⟨0, _, 0, [], Nat.zero_le _, rfl, rfl, (fun g hg => by obtain rfl := (Addr.mk.inj (Option.some.inj hg)).1; exact hz0), Grid.nil _ _ _ _ _ _, hb0⟩
  case round =>
    obtain ⟨j, ad', cap', us, hj, rfl, rfl, had, hr, hb⟩ := hrel
    have zb := hb.size
    by_cases hlt : j < n
    · obtain ⟨a1, ad3, n3, cap3, xs, e1, hx, hcl⟩ := (s.below hb (.inr (Nat.le_refl _))).at_ hlt
      subst e1
      have hn3 : n3 ≤ 40 := by rw [← hx.sl.len]; exact (isVec_iff.1 (isMat_at (isSq_iff.1 HSq.out).1 hx.get).1).2
      have HW2 := Lib.hid (wideI_more hx.get)
      rw [hL.out] at HW2
      have hsx := (hx.sl.alloc (.cells #[] 3))
      have hcl2 := (((Below.refl wr.heap.size wr).alloc (Nat.le_refl _) (.cells #[] 3)).cell (World.block_lt_of_cell? _ _ hcl)).trans hcl
      have hul := units_le (n : Int) (j : Int)
      clear hx
      go_wp2_with (at_builtin; refine wpList_app (Row.nil (wr.alloc (.cells #[] 3)) wr.heap.size wr.heap.size .i64 3 (some ⟨wr.heap.size, 0, none⟩)) hsx Try.underlying30 info_int (by unfold maxLen; omega) (by omega) (by simp) rfl _ _ rfl rfl rfl ?_; intro ad4 cap4 w4 r4 m4; have b4 : Below wr.heap.size wr w4 := ((Below.refl _ wr).alloc (Nat.le_refl _) (.cells #[] 3)).trans (m4.below (Nat.le_refl _) (by simp)); rw [List.nil_append, Nat.zero_add] at r4)
      go_at_call 74
      refine (spec_unit w4 n j (by omega) (by omega) (by omega) (by omega)).mono ?_
      rintro e w5 ⟨ad5, n5, cap5, rfl, r5, b5⟩
      have hl5 := r5.len
      have y4 := b4.size
      have y5 := b5.size
      have r4' := r4.below b5 (.inr (Nat.le_refl _))
      have b45 := b4.trans (b5.mono y4)
      clear r4 m4 b4 b5 hcl2 hsx
      go_wp2_with (first
        | (at_builtin; refine wpList_app r4' r5.sl Try.underlying30 info_int (by unfold maxLen; omega) (by omega) (Nat.le_trans y4 y5) rfl _ _ rfl rfl rfl ?_; intro ad6 cap6 w6 r6 m6
           have b6 : Below wr.heap.size wr w6 := b45.trans (m6.below (Nat.le_refl _) (Nat.le_trans y4 y5))
           have y6 := b6.size
           have hr6 := (hr.below b6 (.inr (Nat.le_refl _))).alloc (.cells #[.slice ad6 (n3 + n5) cap6] 30)
           have ho6 := (OwnInts.of r6).below ((Below.refl _ w6).alloc (Nat.le_refl _) (.cells #[.slice ad6 (n3 + n5) cap6] 30)) (.inl (Nat.le_refl _)))
        | (at_builtin; refine wpList_snoc hr6.out (u := .slice ad6 (n3 + n5) cap6) (by rw [World.cell?_alloc_new]; rfl) rfl Try.underlying24 info_ints rfl (by unfold maxLen; omega) (by omega) rfl _ _ rfl rfl rfl ?_; intro g7 cap7 w7 o7 p7))
      have hA := hr6.add ho6 had o7 p7 (by simp; omega) zb
      have hb7 := ((hb.trans (b6.mono zb)).alloc (by omega) (.cells #[.slice ad6 (n3 + n5) cap6] 30)).trans (p7.below (Nat.le_refl _) (by simp; omega))
      go_roundw
      case rel => exact ⟨j + 1, _, _, _, by omega, by go_num, rfl, hA.2, HW2.out ▸ hA.1, hb7⟩
      case measure => simp [intOf]; omega
    · obtain rfl : j = n := by omega
      rw [show wideI m j = mk m.length (m.length + m.length) (wI m) by rw [← HW.out, hL.out]] at hr
      have hmw : Mat.isMat (mk m.length (m.length + m.length) (wI m)) = true := isMat_mk _ (by rw [hL.out]; omega) (by rw [hL.out]; omega)
      have hcw : 0 < (mk m.length (m.length + m.length) (wI m)).length → j ≤ colsOf (mk m.length (m.length + m.length) (wI m)) := fun h0 => by
        rw [mk_len] at h0
        rw [mk_cols _ h0, hL.out]; omega
      have KR := Lib.hid (spec_reduce wr hr.sls hmw j hcw)
      clear hmw hcw hr
      go_wp2_with fail
      go_at_call 85
      refine KR.out.mono ?_
      rintro e w5 ⟨A, M, p, hA0, h10, h20, ad5, n5, cap5, rfl, rX, b5⟩
      have ent_w : ∀ l, l < m.length → ent (mk m.length (m.length + m.length) (wI m)) l = wI m l := fun l hl => ent_red hl (wI_supp l hl)
      rw [mk_len] at hA0 h10 h20
      have hA : Elim m.length A m.length M p := by have := hA0; rw [← hL.out] at this; exact this
      have hA5 := hA.le
      have h1 : ∀ l, l < m.length → Span m.length (wI m) (M l) := fun l hl => span_congr ent_w (h10 l hl)
      have h2 : ∀ l, l < m.length → Span m.length M (wI m l) := fun l hl => by rw [← ent_w l hl]; exact h20 l hl
      have rX2 : Sls w5 wr.heap.size w5.heap.size ad5 n5 cap5 (mk A (j + j) M) := by
        rcases Nat.eq_zero_or_pos m.length with h0 | h0
        · have : A = 0 := by omega
          subst this; exact rX
        · rw [mk_cols _ h0, hL.out] at rX; exact rX
      obtain rfl : n5 = A := by rw [← rX2.len, mk_len]
      have z5 := b5.size
      have hb5 := hb.trans (b5.mono zb)
      rw [hL.out] at hA5
      have HX := Lib.hid rX2
      by_cases hlt5 : n5 < j
      · have hf := wideI_none HSq.out hA h2 (by rw [hL.out]; exact hlt5)
        have HF := Lib.hid hf
        have HE := Lib.hid (invM_no hf)
        clear hA0 h10 h20 ent_w hA h1 h2 rX rX2 b5 hb KR hf
        go_wp2
        go_ret2
        rw [HE.out, HF.out]
        exact ⟨_, _, _, _, rfl, Grid.nil _ _ _ _ _ _, hb5.alloc hb5.size _⟩
      · obtain rfl : n5 = j := by omega
        have hf := wideI_full HSq.out (by rw [hL.out]; omega) (by have := hA; rw [show n5 = m.length from hL.out.symm] at this; exact this) h1
        have HF := Lib.hid hf.1
        have HE := Lib.hid hf.2
        clear hA0 h10 h20 ent_w hA h1 h2 rX rX2 b5 hb KR hf
        go_wp2
        have hb6 : Below w5.heap.size w5 (w5.alloc (.cells #[] 30)) := (Below.refl _ _).alloc (Nat.le_refl _) _
        go_loopw [8, 9] (fun o i wr => ∃ (t : Nat) (ad' : Option Addr) (cap' : Nat) (us : List Value), t ≤ n5 ∧ i = .int .i64 t ∧ o = .slice ad' t cap' ∧ (∀ g, ad' = some ⟨g, 0, none⟩ → g < wr.heap.size) ∧
          Grid wr w5.heap.size wr.heap.size 3 30 ad' t cap' us (mk t n5 (fun i j => M i (n5 + j))) ∧ Below w5.heap.size w5 wr) (fun _ i _ => n5 - (intOf i).toNat)
        case atStart => exact ⟨0, _, 0, [], Nat.zero_le _, rfl, rfl, (fun g hg => by obtain rfl := (Addr.mk.inj (Option.some.inj hg)).1; simp), Grid.nil _ _ _ _ _ _, hb6⟩
        case round =>
          obtain ⟨t, ad', cap', us, ht, rfl, rfl, had, hr, hb7⟩ := hrel
          have z7 := hb7.size
          by_cases htn : t < n5
          · obtain ⟨ax, ad8, n8, cap8, x8, e8, hx8, hc8⟩ := (HX.out.below hb7 (.inr (Nat.le_refl _))).at_ htn
            subst e8
            have e9 : vec (n5 + n5) (M t) = x8 := Option.some.inj ((mk_get M htn).symm.trans hx8.get)
            subst e9
            obtain rfl : n8 = n5 + n5 := by rw [← hx8.sl.len, vec_len]
            have hs8 := hx8.sl
            obtain ⟨a8, y8, e8, _, _⟩ := hs8.at_ (j := 0) (by omega)
            subst e8
            have hle8 := hs8.le
            have hbg8 := hs8.big
            have hleX := HX.out.le
            have hbgX := HX.out.big
            unfold maxLen at hbg8 hbgX
            have hne8 : ¬ cap8 = n5 := by omega
            have hcut := (hs8.cut (i := n5) (m := n5) (c := cap8 - n5) (by omega) (by omega) (by omega)).alloc (.cells #[] 3)
            rw [if_neg hne8, vec_drop, List.take_of_length_le (by rw [vec_len]; exact Nat.le_refl _)] at hcut
            have hc82 := (((Below.refl wr.heap.size wr).alloc (Nat.le_refl _) (.cells #[] 3)).cell (World.block_lt_of_cell? _ _ hc8)).trans hc8
            have hm1 : mk (t + 1) n5 (fun i j => M i (n5 + j)) = mk t n5 (fun i j => M i (n5 + j)) ++ [vec n5 (fun j => M t (n5 + j))] := by unfold mk; rw [List.range_succ, List.map_append]; rfl
            have HM1 := Lib.hid hm1
            have HCut := Lib.hid hcut
            clear hx8 hs8 hcut hm1
            go_wp2_with (first
              | (at_builtin; refine wpList_app (Row.nil (wr.alloc (.cells #[] 3)) wr.heap.size wr.heap.size .i64 3 (some ⟨wr.heap.size, 0, none⟩)) HCut.out Try.underlying30 info_int (by unfold maxLen; omega) (by omega) (by simp) rfl _ _ rfl rfl rfl ?_; intro ad9 cap9 w9 r9 m9
                 rw [List.nil_append, Nat.zero_add] at r9
                 simp only [Nat.zero_add]
                 have b9 : Below wr.heap.size wr w9 := ((Below.refl _ wr).alloc (Nat.le_refl _) (.cells #[] 3)).trans (m9.below (Nat.le_refl _) (by simp))
                 have y9 := b9.size
                 have hr9 := (hr.below b9 (.inr (Nat.le_refl _))).alloc (.cells #[.slice ad9 n5 cap9] 30)
                 have ho9 := (OwnInts.of r9).below ((Below.refl _ w9).alloc (Nat.le_refl _) (.cells #[.slice ad9 n5 cap9] 30)) (.inl (Nat.le_refl _)))
              | (at_builtin; refine wpList_snoc hr9.out (u := .slice ad9 n5 cap9) (by rw [World.cell?_alloc_new]; rfl) rfl Try.underlying24 info_ints rfl (by unfold maxLen; omega) (by omega) rfl _ _ rfl rfl rfl ?_; intro g0 cap0 w0 o0 p0))
            have zw := hb5.size
            have hA := hr9.add ho9 had o0 p0 (by simp; omega) (by omega)
            have hb0' := ((hb7.trans (b9.mono z7)).alloc (by omega) (.cells #[.slice ad9 n5 cap9] 30)).trans (p0.below (by omega) (by simp; omega))
            have HA := Lib.hid (HM1.out ▸ hA.1)
            have HA2 := hA.2
            clear hA hr9 ho9 o0 p0
            go_roundw
            case rel => exact ⟨t + 1, _, _, _, by omega, by go_num, rfl, HA2, HA.out, hb0'⟩
            case measure => simp [intOf]; omega
          · obtain rfl : t = n5 := by omega
            have HG := Lib.hid hr
            clear hr
            go_wp2
            go_ret2
            rw [HE.out, HF.out]
            exact ⟨_, _, _, _, rfl, by rw [hL.out]; exact HG.out.lo hb5.size, hb5.trans (hb7.mono hb5.size)⟩
end Go.Proofs.Ytagncoaeochmnaa.RedW
namespace Go.Proofs.Ytagncoaeochmnaa.RedW
open Go.ChangeShapes Go.WideShapes Go.ChangeAt Go.RowKit
open Go.Proofs.Ytagncoaeochmnaa.Seq Go.Proofs.Ytagncoaeochmnaa.Help Go.Proofs.Ytagncoaeochmnaa.Field Go.Proofs.Ytagncoaeochmnaa.FieldW Go.Proofs.Ytagncoaeochmnaa.Vec Go.Proofs.Ytagncoaeochmnaa.VecW Go.Proofs.Ytagncoaeochmnaa.Mat Go.Proofs.Ytagncoaeochmnaa.MatW Go.Proofs.Ytagncoaeochmnaa.MatP Go.Proofs.Ytagncoaeochmnaa.Lin Go.Proofs.Ytagncoaeochmnaa.Rref Go.Proofs.Ytagncoaeochmnaa.SolP

/-- The row with its pivot at a column, among the first t; else -1. -/
def pvt (p : Nat → Nat) : Nat → Nat → Int
  | 0, _ => -1
  | t + 1, j => if p t = j then (t : Int) else pvt p t j
def pvl (p : Nat → Nat) (t c : Nat) : List Int := (List.range c).map fun j => pvt p t j
theorem pvl_len (p : Nat → Nat) (t c : Nat) : (pvl p t c).length = c := by simp [pvl]
theorem pvl_get {p : Nat → Nat} {t c j : Nat} (h : j < c) : (pvl p t c)[j]? = some (pvt p t j) := by simp [pvl, h]
theorem pvl_0 (p : Nat → Nat) (c : Nat) : List.replicate c (-1 : Int) = pvl p 0 c := by
  unfold pvl
  rw [show (fun j => pvt p 0 j) = fun _ => (-1 : Int) from rfl]
  simp [List.map_const']
theorem pvl_set {p : Nat → Nat} {t c : Nat} (ht : p t < c) : (pvl p t c).set (p t) (t : Int) = pvl p (t + 1) c := by
  apply List.ext_getElem?
  intro j
  rw [List.getElem?_set]
  by_cases hj : j < c
  · rw [pvl_get hj, pvl_get hj]
    show _ = some (if p t = j then (t : Int) else pvt p t j)
    by_cases e : p t = j
    · rw [if_pos e, if_pos (by rw [pvl_len]; exact ht), if_pos e]
    · rw [if_neg e, if_neg e]
  · rw [List.getElem?_eq_none (by rw [pvl_len]; omega), List.getElem?_eq_none (by rw [pvl_len]; omega), if_neg (by omega)]
theorem pvt_no {p : Nat → Nat} {t j : Nat} (h : isPiv t p j = false) : pvt p t j = -1 := by
  induction t with
  | zero => rfl
  | succ t ih =>
    show (if p t = j then (t : Int) else pvt p t j) = -1
    rw [if_neg (isPiv_no h (Nat.lt_succ_self t))]
    refine ih ?_
    cases e : isPiv t p j
    · rfl
    · obtain ⟨i, hi, he⟩ := isPiv_iff.1 e
      exact absurd he (isPiv_no h (by omega))
theorem pvt_yes {A w : Nat} {R : Nat → V} {p : Nat → Nat} (h : Red A w R p) {i : Nat} (hi : i < A) : ∀ t, i < t → t ≤ A → pvt p t (p i) = i
  | 0, h0, _ => by omega
  | t + 1, h0, ht => by
    show (if p t = p i then (t : Int) else pvt p t (p i)) = i
    rcases Nat.lt_or_eq_of_le (Nat.le_of_lt_succ h0) with h1 | rfl
    · have := h.up i t h1 (by omega)
      rw [if_neg (by omega)]
      exact pvt_yes h hi t h1 (by omega)
    · rw [if_pos rfl]
theorem pvt_fits (p : Nat → Nat) : ∀ (t j : Nat), -1 ≤ pvt p t j ∧ pvt p t j ≤ t
  | 0, _ => by show -1 ≤ (-1 : Int) ∧ (-1 : Int) ≤ ((0 : Nat) : Int); omega
  | t + 1, j => by
    have := pvt_fits p t j
    show -1 ≤ (if p t = j then (t : Int) else pvt p t j) ∧ (if p t = j then (t : Int) else pvt p t j) ≤ _
    split <;> omega
def nullsTo (A : Nat) (R : Nat → V) (p : Nat → Nat) (c k : Nat) : List (List Int) := ((List.range k).filter fun j => !isPiv A p j).map fun f => vec c (nul A R p f)
theorem nullsTo_piv {A : Nat} {R : Nat → V} {p : Nat → Nat} {c k : Nat} (h : isPiv A p k = true) : nullsTo A R p c (k + 1) = nullsTo A R p c k := by
  unfold nullsTo; rw [List.range_succ, List.filter_append]; simp [h]
theorem nullsTo_free {A : Nat} {R : Nat → V} {p : Nat → Nat} {c k : Nat} (h : isPiv A p k = false) : nullsTo A R p c (k + 1) = nullsTo A R p c k ++ [vec c (nul A R p k)] := by
  unfold nullsTo; rw [List.range_succ, List.filter_append, List.map_append]; simp [h]
theorem nullsTo_le (A : Nat) (R : Nat → V) (p : Nat → Nat) (c k : Nat) : (nullsTo A R p c k).length ≤ k := by
  unfold nullsTo
  rw [List.length_map]
  exact Nat.le_trans (List.length_filter_le _ _) (by simp)
/-- A null vector that is filled in up to a column. -/
def mixN (A : Nat) (R : Nat → V) (p : Nat → Nat) (k j : Nat) : V := fun l => if l < j then nul A R p k l else ind k l
theorem mixN_0 (A : Nat) (R : Nat → V) (p : Nat → Nat) (k c : Nat) : vec c (Det.one k) = vec c (mixN A R p k 0) := vec_congr fun l _ => by unfold mixN; rw [if_neg (by omega)]; rfl
theorem mixN_all (A : Nat) (R : Nat → V) (p : Nat → Nat) (k c : Nat) : vec c (mixN A R p k c) = vec c (nul A R p k) := vec_congr fun l hl => by unfold mixN; rw [if_pos hl]
theorem mixN_free {A : Nat} {R : Nat → V} {p : Nat → Nat} {k j c : Nat} (h : isPiv A p j = false) : vec c (mixN A R p k (j + 1)) = vec c (mixN A R p k j) := vec_congr fun l _ => by
  unfold mixN
  by_cases h1 : l < j
  · rw [if_pos (by omega), if_pos h1]
  · by_cases h2 : l = j
    · subst h2; rw [if_pos (by omega), if_neg h1, nul_free h]
    · rw [if_neg (by omega), if_neg h1]
theorem mixN_set {A w : Nat} {R : Nat → V} {p : Nat → Nat} (h : Red A w R p) {k i c : Nat} (hk : isPiv A p k = false) (hi : i < A) (hc : p i < c) : (vec c (mixN A R p k (p i))).set (p i) (em (0 - R i k)) = vec c (mixN A R p k (p i + 1)) := by
  apply List.ext_getElem?
  intro j
  rw [List.getElem?_set]
  by_cases hj : j < c
  · rw [vec_get _ hj, vec_get _ hj]
    by_cases e : p i = j
    · subst e
      rw [if_pos rfl, if_pos (by rw [vec_len]; exact hc)]
      unfold mixN
      rw [if_pos (by omega), nul_piv h hk hi]
    · rw [if_neg e]
      unfold mixN
      by_cases h1 : j < p i
      · rw [if_pos h1, if_pos (by omega)]
      · rw [if_neg h1, if_neg (by omega)]
  · rw [List.getElem?_eq_none (by rw [vec_len]; omega), List.getElem?_eq_none (by rw [vec_len]; omega), if_neg (by omega)]
theorem over_n {xs ms : List Int} {n j : Nat} {x : Int} (hl : xs.length = n) (hm : ms.length = n) (hj : j < n) (hx : ms[j]? = some x) : (ms.take j ++ xs.drop j).set j x = ms.take (j + 1) ++ xs.drop (j + 1) := over2 hl hm hj hx
set_option maxRecDepth 100000 in
set_option maxHeartbeats 1600000 in
theorem spec_null (w : World) {l h : Nat} {ad : Option Addr} {n cap : Nat} {m : List (List Int)} (s : Sls w l h ad n cap m) :
    Calls Try.prog 51 #[.slice ad n cap] w (Gives2 (nullOf m) w) := by
  have s1 := s.alloc (.cells #[] 30)
  have K1 := spec_isMat _ s1
  have hb0 : Below w.heap.size w (w.alloc (.cells #[] 30)) := (Below.refl _ _).alloc (Nat.le_refl _) _
  have hz0 : (w.alloc (.cells #[] 30)).heap.size = w.heap.size + 1 := by simp
  cases hm : Mat.isMat m
  · rw [hm] at K1
    have HE := Lib.hid (nullOf_no hm)
    have K1 := Lib.hid K1
    clear hm s1
    rw [HE.out]
    go_enter Try.func51, Try.ntmps51
    go_wp2_with fail
    go_at_call 16
    refine K1.out.mono ?_
    rintro e w1 ⟨rfl, q, rfl⟩
    go_wp2
    go_ret
    exact ⟨_, _, _, _, rfl, Grid.nil _ _ _ _ _ _, below_drewN hb0 q⟩
  rw [hm] at K1
  have K1 := Lib.hid K1
  obtain ⟨A, R, p, hd⟩ := dec_exists hm
  obtain ⟨c, hcc⟩ : ∃ c, c = colsOf m := ⟨_, rfl⟩
  have K2 := fun q => spec_cols ((w.alloc (.cells #[] 30)).drewN q) (s1.drewN q)
  have K3 := fun q => spec_rref ((w.alloc (.cells #[] 30)).drewN q) (s1.drewN q)
  rw [hd.rref hm] at K3
  have hE := nullOf_is hm hd
  have hRed := hd.red
  have hA40 : A ≤ 40 := by have := hd.le; have := (isMat_iff.1 hm).2; omega
  have hc40 := colsOf_le hm
  rw [hE]
  rw [← hcc] at K2 K3 hE hRed hc40 ⊢
  rw [show nulls A R p c = nullsTo A R p c c from rfl]
  have K2 := Lib.hid K2
  have K3 := Lib.hid K3
  have HRed := Lib.hid hRed
  clear hm hd hcc hE hRed s1
  go_enter Try.func51, Try.ntmps51
  go_wp2_with fail
  go_at_call 16
  refine K1.out.mono ?_
  rintro e w1 ⟨rfl, q, rfl⟩
  go_wp2_with fail
  go_at_call 21
  refine (K2.out _).mono ?_
  rintro e w' ⟨rfl, rfl⟩
  go_wp2_with fail
  go_at_call 39
  refine (K3.out _).mono ?_
  rintro e w2 ⟨ad5, n5, cap5, rfl, rX, b2⟩
  obtain rfl : n5 = A := by rw [← rX.len, mk_len]
  have f2 : Below w.heap.size w w2 := (below_drewN hb0 q).trans (b2.mono (by show w.heap.size ≤ (w.alloc _).heap.size; omega))
  have z2 : w.heap.size + 1 ≤ w2.heap.size := by have h9 := b2.size; have h8 : ((w.alloc (.cells #[] 30)).drewN q).heap.size = (w.alloc (.cells #[] 30)).heap.size := rfl; omega
  have HX := Lib.hid (rX.lt (Nat.le_refl w2.heap.size))
  clear rX b2 hb0 hz0 K1 K2 K3
  go_wp2_with (at_make; refine wpList_mk (n := c) Try.underlying30 info_int (fits_i64.2 (by omega)) (by unfold maxLen; omega) (by omega) rfl _ _ rfl rfl rfl ?_; intro w3 hr3 hb3)
  rw [show List.replicate c (0 : Int) = (List.replicate c (-1 : Int)).take 0 ++ (List.replicate c 0).drop 0 by simp] at hr3
  go_loopw [7] (fun i wr => ∃ j : Nat, j ≤ c ∧ i = .int .i64 j ∧ Row wr w2.heap.size wr.heap.size .i64 3 (some ⟨w2.heap.size, 0, none⟩) c c ((List.replicate c (-1 : Int)).take j ++ (List.replicate c 0).drop j) ∧ Below w2.heap.size w2 wr) (fun i _ => c - (intOf i).toNat)
  case atStart => exact ⟨0, Nat.zero_le _, rfl, hr3, hb3⟩
  case round =>
    obtain ⟨j, hj, rfl, hr, hb⟩ := hrel
    by_cases hlt : j < c
    · obtain ⟨u0, _, _, hc0, hf0⟩ := hr.there hlt
      have hput := hr.set (x := -1) hlt (fits_i64.2 (by omega))
      rw [over_n (n := c) (by simp) (by simp) hlt (by simp [hlt])] at hput
      have HP := Lib.hid hput
      clear hput hr
      go_wp2
      go_roundw
      case rel => exact ⟨j + 1, by omega, by go_num, HP.out.1.lt, hb.trans (HP.out.2.below (Nat.le_refl _) hb.size)⟩
      case measure => simp [intOf]; omega
    obtain rfl : j = c := by omega
    rw [List.take_of_length_le (by simp), List.drop_eq_nil_of_le (by simp), List.append_nil, pvl_0 p j] at hr
    go_wp2
    go_loopw [8] (fun i w4 => ∃ t : Nat, t ≤ n5 ∧ i = .int .i64 t ∧ Row w4 w2.heap.size w4.heap.size .i64 3 (some ⟨w2.heap.size, 0, none⟩) j j (pvl p t j) ∧ Below w2.heap.size w2 w4) (fun i _ => n5 - (intOf i).toNat)
    case atStart => exact ⟨0, Nat.zero_le _, rfl, hr, hb⟩
    case round =>
      obtain ⟨t, ht, rfl, r4, hb4⟩ := hrel
      by_cases htn : t < n5
      · obtain ⟨ax, ad8, n8, cap8, x8, e8, hx8, hc8⟩ := (HX.out.below hb4 (.inr (Nat.le_refl _))).at_ htn
        subst e8
        have e9 : vec j (R t) = x8 := Option.some.inj ((mk_get R htn).symm.trans hx8.get)
        subst e9
        have KL := spec_lead _ hx8.sl
        rw [lead_red HRed.out htn] at KL
        have hpt := HRed.out.lt t htn
        have hS := pvl_set (t := t) hpt
        obtain ⟨u0, _, _, hc0, hf0⟩ := r4.there hpt
        have hput := r4.set (j := p t) (x := (t : Int)) hpt (fits_i64.2 (by omega))
        rw [hS] at hput
        obtain ⟨q4, hq4⟩ : ∃ q4, q4 = p t := ⟨_, rfl⟩
        rw [← hq4] at hput KL hpt hc0 hf0
        have HP := Lib.hid hput
        have KL := Lib.hid KL
        have hleX := HX.out.le
        have hbgX := HX.out.big
        unfold maxLen at hbgX
        clear hput r4 hS hq4 hx8
        go_wp2_with fail
        go_at_call 86
        refine KL.out.mono ?_
        rintro e w' ⟨rfl, rfl⟩
        go_wp2
        go_roundw
        case rel => exact ⟨t + 1, by omega, by go_num, HP.out.1.lt, hb4.trans (HP.out.2.below (Nat.le_refl _) hb4.size)⟩
        case measure => simp [intOf]; omega
      obtain rfl : t = n5 := by omega
      generalize wr = W at *
      have hX4 := HX.out.below hb4 (.inr (Nat.le_refl _))
      have f4 := f2.trans (hb4.mono (by omega))
      have z4 := hb4.size
      have HX4 := Lib.hid (hX4.lt (Nat.le_refl W.heap.size))
      have HP4 := Lib.hid r4
      clear hX4 r4 HX hb hr hb3 hb4 f2
      go_wp2
      go_loopw [3, 9] (fun o k w5 => ∃ (K N : Nat) (ad' : Option Addr) (cap' : Nat) (us : List Value), K ≤ j ∧ k = .int .i64 K ∧ o = .slice ad' N cap' ∧ (∀ g, ad' = some ⟨g, 0, none⟩ → g < w5.heap.size) ∧
        Grid w5 W.heap.size w5.heap.size 3 30 ad' N cap' us (nullsTo t R p j K) ∧ Below W.heap.size W w5) (fun _ k _ => j - (intOf k).toNat)
      case atStart => exact ⟨0, 0, _, 0, [], Nat.zero_le _, rfl, rfl, (fun g hg => by obtain rfl := (Addr.mk.inj (Option.some.inj hg)).1; omega), Grid.nil _ _ _ _ _ _, Below.refl _ _⟩
      case round =>
        obtain ⟨K, N, ad', cap', us, hK, rfl, rfl, had, hr, hb⟩ := hrel
        have zb := hb.size
        by_cases hlt2 : K < j
        case neg =>
          obtain rfl : K = j := by omega
          have HG := Lib.hid (hr.lo (l' := w.heap.size) (by omega))
          have HB := Lib.hid (f4.trans (hb.mono (by omega)))
          clear hr hb
          go_wp2
          go_ret
          exact ⟨_, _, _, _, rfl, HG.out, HB.out⟩
        have hN : N ≤ 40 := by rw [← hr.len]; have := nullsTo_le t R p j K; omega
        obtain ⟨yp, hyp, _, hcp, _⟩ := (HP4.out.below hb (.inr (Nat.le_refl _))).there hlt2
        have ep2 : pvt p t K = yp := Option.some.inj ((pvl_get hlt2).symm.trans hyp)
        subst ep2
        clear hyp
        cases hpv : isPiv t p K
        case true =>
          obtain ⟨i, hi, hpi⟩ := isPiv_iff.1 hpv
          have hy := pvt_yes HRed.out hi t hi (Nat.le_refl _)
          rw [hpi] at hy
          rw [hy] at hcp
          have HN := Lib.hid (nullsTo_piv (R := R) (c := j) hpv)
          clear hpv hy hpi
          go_wp2
          go_roundw
          case rel => exact ⟨K + 1, N, _, _, us, by omega, by go_num, rfl, had, HN.out ▸ hr, hb⟩
          case measure => simp [intOf]; omega
        have hy := pvt_no hpv
        rw [hy] at hcp
        have HN := Lib.hid (nullsTo_free (R := R) (c := j) hpv)
        have HFree := Lib.hid hpv
        have KU := spec_unit wr j K (by omega) (by omega) (by omega) (by omega)
        rw [unit_vec hc40 hlt2, mixN_0 t R p K j] at KU
        have KU := Lib.hid KU
        clear hy hpv
        go_wp2_with fail
        go_at_call 74
        refine KU.out.mono ?_
        rintro e w6 ⟨ad6, n6, cap6, rfl, r6, b6⟩
        obtain rfl : n6 = j := by rw [← r6.len, vec_len]
        obtain ⟨g6, rfl, hg6, _⟩ := r6.pos (by omega)
        have hleX := HX4.out.le
        have hbgX := HX4.out.big
        unfold maxLen at hbgX
        have hle6 := r6.le
        have hbg6 := r6.big
        unfold maxLen at hbg6
        go_wp2
        go_loopw [11] (fun i w7 => ∃ J : Nat, J ≤ n6 ∧ i = .int .i64 J ∧ Row w7 wr.heap.size w7.heap.size .i64 3 (some ⟨g6, 0, none⟩) n6 cap6 (vec n6 (mixN t R p K J)) ∧ Below wr.heap.size wr w7) (fun i _ => n6 - (intOf i).toNat)
        case atStart => exact ⟨0, Nat.zero_le _, rfl, r6, b6⟩
        case round =>
          obtain ⟨J, hJ, rfl, r7, hb7⟩ := hrel
          have z7 := hb7.size
          have hb70 := hb.trans (hb7.mono zb)
          by_cases hJn : J < n6
          case neg =>
            obtain rfl : J = n6 := by omega
            rw [mixN_all] at r7
            have hr8 := (hr.below hb7 (.inr (Nat.le_refl _))).alloc (.cells #[.slice (some ⟨g6, 0, none⟩) J cap6] 30)
            have ho8 := (OwnInts.of r7).below ((Below.refl _ _).alloc (Nat.le_refl _) (.cells #[.slice (some ⟨g6, 0, none⟩) J cap6] 30)) (.inl (Nat.le_refl _))
            clear r7 r6 b6 hr hcp HX4 HP4
            go_wp2_with (at_builtin; refine wpList_snoc hr8.out (u := .slice (some ⟨g6, 0, none⟩) J cap6) (by rw [World.cell?_alloc_new]; rfl) rfl Try.underlying24 info_ints rfl (by unfold maxLen; omega) (by omega) rfl _ _ rfl rfl rfl ?_; intro g9 cap9 w9 o9 p9)
            have hA := hr8.add ho8 had o9 p9 (by simp; omega) zb
            have hb9 := (hb70.alloc hb70.size (.cells #[.slice (some ⟨g6, 0, none⟩) J cap6] 30)).trans (p9.below (Nat.le_refl _) (by simp; omega))
            have HA := Lib.hid (HN.out ▸ hA.1)
            have HA2 := hA.2
            clear hA hr8 ho8 o9 p9
            go_roundw
            case rel => exact ⟨K + 1, N + 1, _, _, _, by omega, by go_num, rfl, HA2, HA.out, hb9⟩
            case measure => simp [intOf]; omega
          obtain ⟨yq, hyq, _, hcq, _⟩ := (HP4.out.below hb70 (.inr (Nat.le_refl _))).there hJn
          have eq2 : pvt p t J = yq := Option.some.inj ((pvl_get hJn).symm.trans hyq)
          subst eq2
          clear hyq
          cases hpj : isPiv t p J
          case false =>
            have hy := pvt_no hpj
            rw [hy] at hcq
            have HM := Lib.hid (mixN_free (R := R) (k := K) (c := n6) hpj)
            clear hy hpj
            go_wp2
            go_roundw
            case rel => exact ⟨J + 1, by omega, by go_num, HM.out ▸ r7, hb7⟩
            case measure => simp [intOf]; omega
          obtain ⟨i, hi, hpi⟩ := isPiv_iff.1 hpj
          have hy := pvt_yes HRed.out hi t hi (Nat.le_refl _)
          rw [hpi] at hy
          rw [hy] at hcq
          have HM := Lib.hid (hpi ▸ mixN_set (c := n6) HRed.out HFree.out hi (by rw [hpi]; exact hJn))
          obtain ⟨ax, ad8, n8, cap8, x8, e8, hx8, hc8⟩ := (HX4.out.below hb70 (.inr (Nat.le_refl _))).at_ hi
          subst e8
          have e9 : vec n6 (R i) = x8 := Option.some.inj ((mk_get R hi).symm.trans hx8.get)
          subst e9
          obtain rfl : n8 = n6 := by rw [← hx8.sl.len, vec_len]
          obtain ⟨a9, y9, e9, hy9, hc9⟩ := hx8.sl.at_ (j := K) hlt2
          have e10 : em (R i K) = y9 := Option.some.inj ((vec_get (R i) hlt2).symm.trans hy9.get)
          subst e9 e10
          obtain ⟨u9, _, _, hcu, hfu⟩ := r7.there hJn
          have hem := em_in (0 - R i K)
          have hput := r7.set (x := em (0 - R i K)) hJn (fits_i64.2 (by omega))
          rw [HM.out] at hput
          have HPut := Lib.hid hput
          have hle8 := hx8.sl.le
          have hbg8 := hx8.sl.big
          unfold maxLen at hbg8
          clear hx8 hy9 hput r7 hy hpj hpi
          go_wp2_with fail
          go_at_call 94
          refine (spec_sub _ _ _).mono ?_
          rintro e w' ⟨rfl, rfl⟩
          rw [sub_em]
          go_wp2
          go_roundw
          case rel => exact ⟨J + 1, by omega, by go_num, HPut.out.1.lt, hb7.trans (HPut.out.2.below (Nat.le_refl _) z7)⟩
          case measure => simp [intOf]; omega
end Go.Proofs.Ytagncoaeochmnaa.RedW
