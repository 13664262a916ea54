/-
  What a round of a range over a function keeps of cells: what is said of slices by their cells goes through. No program.
  slices.Chunk of a slice of integers: the pieces, by a function that yields them.
-/
import Derived.RangeFuncBox
import Derived.RangeFuncNested
import Derived.RangeFuncLeaves
import Derived.Test.YtlgmiojlpnoiaaaGE
import Derived.Shelf.Abstract
import Derived.WalkKit
import Derived.OwnWalkIn
import Derived.TacticsInMore
import Derived.LoopNIn
import Derived.LoopIn
import Derived.BigRegionIn
namespace Go.Proofs.Ytlgmiojlpnoiaaa.Seq
open Go.ChangeShapes Go.WideShapes Go.ChangeAt Go.RowKit

/-- Whatever is cells lies as it lay. -/
structure Kc (X Y : World) : Prop where
  size : X.heap.size ≤ Y.heap.size
  cells : ∀ (k : Nat) (o : Obj), X.heap[k]? = some o → o.isCells = true → Y.heap[k]? = X.heap[k]?
theorem kc_of {W W' : World} {row : Option Nat} (hg : W.grownBy W' row) (hr : ∀ r, row = some r → ∃ o : Obj, W.heap[r]? = some o ∧ o.isCells = false) : Kc W W' :=
  ⟨hg.size, fun _ _ hk hc => grownBy_keeps_cells hg hr hk hc⟩
theorem own_kc {β : Type} {I : β → World → Prop} (h : ∀ s X Y, Kc X Y → I s X → I s Y) : Own I := fun s W W' _ hs hg hr => h s W W' (kc_of hg hr) hs
section
variable {w w' : World} {l h : Nat} {k : IntKind} {e e1 : TypeId} {ad : Option Addr} {n cap K : Nat} {xs : List Int} {us : List Value} {xss : List (List Int)} {u : Value}
theorem Kc.cell {p : Addr} {v : Value} (m : Kc w w') (hc : w.cell? p = some v) : w'.cell? p = some v := by
  obtain ⟨o, ho, h2⟩ := cells_of_cell hc
  exact (World.cell?_of_block (m.cells _ o ho h2)).trans hc
theorem owns_kc {base size : Nat} {v : Value} {us : List Value} (o : w.ownsRow base e size v n us) (m : Kc w w') : w'.ownsRow base e size v n us := by
  refine owns_keep o fun g hg => ?_
  rcases o.2 with ⟨rfl, _⟩ | ⟨g', c, cur, rfl, h1, h2, r⟩
  · simp [Value.ownBlock] at hg
  · obtain rfl : g' = g := by simpa [Value.ownBlock] using hg
    exact m.cells g' _ h2 rfl
theorem Sl.kc (s : Sl w l h k ad n cap xs) (m : Kc w w') : Sl w' l h k ad n cap xs := s.keep fun _ _ _ _ hc => m.cell hc
theorem SlV.kc (s : SlV w l h ad n cap us) (m : Kc w w') : SlV w' l h ad n cap us := s.keep fun _ _ _ _ hc => m.cell hc
theorem Sls.kc (s : Sls w l h ad n cap xss) (m : Kc w w') : Sls w' l h ad n cap xss := s.keep fun _ _ _ _ hc => m.cell hc
theorem Row.kc (r : Row w l h k e ad n cap xs) (m : Kc w w') : Row w' l h k e ad n cap xs := ⟨r.len, r.le, r.big, r.fits, r.own.imp id fun ⟨g, a, b, c, d⟩ => ⟨g, a, b, c, owns_kc d m⟩⟩
theorem RowV.kc (r : RowV w l h e ad n cap us) (m : Kc w w') : RowV w' l h e ad n cap us := ⟨r.len, r.le, r.big, r.one, r.own.imp id fun ⟨g, a, b, c, d⟩ => ⟨g, a, b, c, owns_kc d m⟩⟩
theorem RowK.kc (r : RowK K w l h e ad n cap us) (m : Kc w w') : RowK K w' l h e ad n cap us := ⟨r.len, r.le, r.big, r.one, r.own.imp id fun ⟨g, a, b, c, d⟩ => ⟨g, a, b, c, owns_kc d m⟩⟩
theorem OwnInts.kc (s : OwnInts w l h e u xs) (m : Kc w w') : OwnInts w' l h e u xs := s.imp fun _ _ _ _ _ r => r.kc m
theorem OwnTail.kc (s : OwnTail w l h e u xs) (m : Kc w w') : OwnTail w' l h e u xs := s.imp fun _ _ _ _ _ b1 b2 r => ⟨b1, b2, r.kc m⟩
theorem Grid.kc (r : Grid w l h e e1 ad n cap us xss) (m : Kc w w') : Grid w' l h e e1 ad n cap us xss := ⟨r.out.kc m, r.len, fun j u xs hu hx => (r.rows j u xs hu hx).kc m, r.apart, r.away⟩
theorem Net.kc (r : Net w l h e ad n cap us xss) (m : Kc w w') : Net w' l h e ad n cap us xss := ⟨r.out.kc m, r.len, fun j u xs hu hx => (r.rows j u xs hu hx).kc m, r.apart, r.away⟩
theorem box_kc {B : Nat} {t : TypeId} {v : Value} (b : Boxed w B t v) (m : Kc w w') : Boxed w' B t v := (m.cells B _ b rfl).trans b
/-- The block that a slice's address names holds cells. -/
def Solid (w : World) (ad : Option Addr) : Prop := ∀ g, ad = some ⟨g, 0, none⟩ → ∃ o : Obj, w.heap[g]? = some o ∧ o.isCells = true
theorem Solid.kc (s : Solid w ad) (m : Kc w w') : Solid w' ad := fun g e => by
  obtain ⟨o, h1, h2⟩ := s g e
  exact ⟨o, (m.cells g o h1 h2).trans h1, h2⟩
theorem owns_solid {base size : Nat} {us : List Value} {g c : Nat} (o : w.ownsRow base e size (.slice (some ⟨g, 0, none⟩) n c) n us) : ∃ o : Obj, w.heap[g]? = some o ∧ o.isCells = true := by
  rcases o.2 with ⟨hn, _⟩ | ⟨g', c', cur, hv, h1, h2, r⟩
  · simp at hn
  · simp only [Value.slice.injEq, Option.some.injEq, Addr.mk.injEq, and_true, true_and] at hv
    obtain ⟨rfl, rfl⟩ := hv
    exact ⟨_, h2, rfl⟩
theorem RowK.solid {g : Nat} (r : RowK K w l h e (some ⟨g, 0, none⟩) n cap us) (hn : 0 < n) : Solid w (some ⟨g, 0, none⟩) := fun g' e' => by
  obtain rfl := (Addr.mk.inj (Option.some.inj e')).1
  rcases r.own with ⟨h0, _⟩ | ⟨g2, h1, _, _, h4⟩
  · omega
  · exact owns_solid h4
theorem RowV.solid {g : Nat} (r : RowV w l h e (some ⟨g, 0, none⟩) n cap us) (hn : 0 < n) : Solid w (some ⟨g, 0, none⟩) := fun g' e' => by
  obtain rfl := (Addr.mk.inj (Option.some.inj e')).1
  rcases r.own with ⟨h0, _⟩ | ⟨g2, h1, _, _, h4⟩
  · omega
  · exact owns_solid h4
theorem Solid.below {B : Nat} (s : Solid w ad) (b : Below B w w') (hB : w.heap.size ≤ B) : Solid w' ad := fun g e => by
  obtain ⟨o, h1, h2⟩ := s g e
  have := (Array.getElem?_eq_some_iff.1 h1).1
  exact ⟨o, (b.block g (by omega)).trans h1, h2⟩
theorem others_below (b : Below w.heap.size w w') : KeepsOthers w w' := ⟨b.size, fun k _ hk _ => (b.block k (Array.getElem?_eq_some_iff.1 hk).1).trans hk⟩
/-- An append touches nothing but cells. -/
theorem Put.others {g : Nat} (p : Put w w' l h ad g) (s : Solid w ad) : KeepsOthers w w' := by
  rcases p with ⟨e, _, _, _, m⟩ | ⟨_, b⟩
  · refine ⟨m.size, fun k _ hk ho => ?_⟩
    obtain ⟨o2, h1, h2⟩ := s g e
    have hkg : k ≠ g := fun e => by subst e; rw [hk] at h1; cases h1; rw [ho] at h2; cases h2
    exact (m.block k (Array.getElem?_eq_some_iff.1 hk).1 (by omega)).trans hk
  · exact others_below b
/-- A box apart from where an append writes. -/
theorem Put.box {g B : Nat} {t : TypeId} {v : Value} (p : Put w w' l h ad g) (b : Boxed w B t v) (hB : B < l ∨ (h ≤ B)) : Boxed w' B t v := by
  have hBw := (Array.getElem?_eq_some_iff.1 b).1
  rcases p with ⟨e, h1, h2, _, m⟩ | ⟨_, m⟩
  · exact (m.block B hBw (by omega)).trans b
  · exact (m.block B hBw).trans b
theorem box_below {B n : Nat} {t : TypeId} {v : Value} (b : Boxed w B t v) (m : Below n w w') (hB : B < n) : Boxed w' B t v := (m.block B hB).trans b
theorem box_mv {B l' h' : Nat} {t : TypeId} {v : Value} (b : Boxed w B t v) (m : Mv w w' l' h') (hB : B < l' ∨ h' ≤ B) : Boxed w' B t v := (m.block B (Array.getElem?_eq_some_iff.1 b).1 (by omega)).trans b
theorem box_set {B : Nat} {t : TypeId} {v : Value} (b : Boxed w B t v) (u : Value) : Boxed (w.setCell ⟨B, 0, none⟩ u) B t u ∧ Mv w (w.setCell ⟨B, 0, none⟩ u) B (B + 1) :=
  ⟨Boxed.set u b, (Mv.refl _ _ _).setCell (Nat.le_refl _) (Nat.lt_succ_self _) _⟩
end
end Go.Proofs.Ytlgmiojlpnoiaaa.Seq
namespace Go.Proofs.Ytlgmiojlpnoiaaa.Chunk
open Go.RowKit Go.Shelf
open Go.Proofs.Ytlgmiojlpnoiaaa.Seq Go.Proofs.Ytlgmiojlpnoiaaa.Help Go.Proofs.Ytlgmiojlpnoiaaa.Field Go.Proofs.Ytlgmiojlpnoiaaa.FieldW Go.Proofs.Ytlgmiojlpnoiaaa.Vec Go.Proofs.Ytlgmiojlpnoiaaa.Gen
attribute [local go_sem] Oper.semAt_some

/-- What the iterator asks of a round: its two boxes. -/
def KeepB (b1 b2 : Nat) (W W' : World) : Prop := W'.heap[b1]? = W.heap[b1]? ∧ W'.heap[b2]? = W.heap[b2]?
theorem KeepB.trans {b1 b2 : Nat} {A B C : World} (h : KeepB b1 b2 A B) (k : KeepB b1 b2 B C) : KeepB b1 b2 A C := ⟨k.1.trans h.1, k.2.trans h.2⟩
theorem keepB_put {b1 b2 : Nat} {w : World} (h1 : b1 < w.heap.size) (h2 : b2 < w.heap.size) (W : World) (l : Nat) (o o' : Obj) (hl : w.heap.size ≤ l) (_ : W.heap[l]? = some o) (_ : o.isCells = false) (_ : o.isWalk = false) : KeepB b1 b2 W (W.putObj l o') :=
  ⟨World.putObj_heap_other (by omega), World.putObj_heap_other (by omega)⟩
/-- Piece x of a slice of m elements, cut into pieces of k. -/
def piece (ad : Option Addr) (m k x : Nat) : Value := .slice (ad.map (·.add (x * k))) (min k (m - x * k)) (min k (m - x * k))
theorem grown_of {w w' : World} (h : Below w.heap.size w w') : w.grownBy w' none := ⟨h.os, h.tape, h.output, h.size, fun k hk _ => h.block k hk⟩
theorem fin_more {C j : Nat} (h : j < C) : (List.finRange C).take (j + 1) = (List.finRange C).take j ++ [⟨j, h⟩] := by
  refine take_more ?_
  rw [List.getElem?_eq_getElem (by simpa using h)]
  simp

theorem cut_end {m s : Nat} (hs : 0 < s) {j : Nat} (h : ¬ j * s < m) (hj : j ≤ cuts s m) : j = cuts s m := by
  have : ¬ j < cuts s m := fun h' => h ((cuts_lt hs).1 h')
  omega

set_option maxRecDepth 100000 in
set_option maxHeartbeats 2000000 in
theorem chunk1Int (n : Nat) (hn : 1 ≤ n) (l b1 b2 : Nat) {ad : Option Addr} {m cap k : Nat} (hm : m ≤ cap) (hcap : cap ≤ maxLen) (hnil : ad = none → cap = 0) (hk0 : 0 < k) (hk : k ≤ 1048576) (hms : m ≤ 1099511627776)
    (B0 : Nat) (J Jx : List (Fin (cuts k m)) → World → Prop) (hJ : AbidesFrom B0 J) (W : World)
    (hY : ∀ pre (x : Fin (cuts k m)) W, J pre W → pre.length < cuts k m → YieldAt Fence.wide (n - 1) Try.prog l #[piece ad m k x] W fun e W' =>
      (e = .returned (.bool true) ∧ J (pre ++ [x]) W' ∧ KeepB b1 b2 W W') ∨ (e = .returned (.bool false) ∧ Jx (pre ++ [x]) W'))
    (hB1 : Boxed W b1 24 (.slice ad m cap)) (hB2 : Boxed W b2 3 (.int .i64 k)) (h0 : J [] W) :
    CallsIn Fence.wide n Try.prog 79 #[.func (.yield l) #[] #[], .pointer (some ⟨b1, 0, none⟩), .pointer (some ⟨b2, 0, none⟩)] W fun e W' => (∃ v, e = .returned v) ∧
      ((∃ zs, zs = List.finRange (cuts k m) ∧ J zs W') ∨ (∃ pre, pre <+: List.finRange (cuts k m) ∧ Jx pre W')) := by
  have hcap' := hcap
  unfold maxLen at hcap'
  refine callsIn_of_wp Try.func79 rfl trivial ?_ rfl
  simp only [Try.ntmps79, List.size_toArray, List.length_cons, List.length_nil, Nat.reduceAdd, Nat.reduceSub, Array.replicate_succ, Array.replicate_zero, List.push_toArray, List.append_toArray, List.nil_append, List.cons_append]
  gi_wp2
  gi_loopw [4] (fun i wr => ∃ j : Nat, j ≤ cuts k m ∧ i = .int .i64 ((j * k : Nat) : Int) ∧ J ((List.finRange (cuts k m)).take j) wr ∧ KeepB b1 b2 W wr) (fun i _ => m + k - (intOf i).toNat)
  case atStart => exact ⟨0, Nat.zero_le _, by simp, by simpa using h0, rfl, rfl⟩
  case round =>
    obtain ⟨j, hj, rfl, hJs, hkb⟩ := hrel
    have hB1' : Boxed wr b1 24 (.slice ad m cap) := hkb.1.trans hB1
    have hB2' : Boxed wr b2 3 (.int .i64 k) := hkb.2.trans hB2
    have c1 := hB1'.cell
    have c2 := hB2'.cell
    obtain ⟨q, hq⟩ : ∃ q, q = j * k := ⟨_, rfl⟩
    by_cases hlt : q < m
    · have hjc : j < cuts k m := (cuts_lt hk0).2 (by omega)
      obtain ⟨A, rfl⟩ : ∃ A, ad = some A := by cases ad with | none => (have := hnil rfl; omega) | some A => exact ⟨A, rfl⟩
      have c1D : wr.drew.cell? ⟨b1, 0, none⟩ = some (.slice (some A) m cap) := c1
      have c2D : wr.drew.cell? ⟨b2, 0, none⟩ = some (.int .i64 k) := c2
      have hJ2 : J ((List.finRange (cuts k m)).take j) wr.drew := hJ _ _ _ none hJs (grown_of ((Below.refl _ _).drew)) (fun r e => by cases e)
      obtain ⟨fn, tmps, assign, body, hyl, hR⟩ := hY _ ⟨j, hjc⟩ wr.drew hJ2 (by rw [List.length_take, List.length_finRange]; omega)
      have HM := Lib.hid (fin_more hjc)
      have hmul : (j + 1) * k = j * k + k := Nat.succ_mul j k
      unfold piece at hyl
      dsimp only [Option.map_some] at hyl
      rw [← hq] at hmul hyl ⊢
      have HQ := Lib.hid hq
      have HR := Lib.hid hR
      have HKB := Lib.hid hkb
      clear hJs hJ2 hY hR hq hkb
      have hite : (if m - q < k then ((m - q : Nat) : Int) else (k : Int)) = ((min k (m - q) : Nat) : Int) := by split <;> omega
      have hE : 0 < min k (m - q) ∧ q + min k (m - q) ≤ m ∧ min k (m - q) ≤ k := by omega
      gi_wp2
      gi_region
      clear hite
      generalize min k (m - q) = E at *
      obtain ⟨hE0, hE1, hE2⟩ := hE
      gi_wp2
      refine HR.out.mono ?_
      rintro e W3 (⟨rfl, hJ3, hk3⟩ | ⟨rfl, hJx3⟩)
      · have c23 : W3.cell? ⟨b2, 0, none⟩ = some (.int .i64 k) := (show Boxed W3 b2 3 (.int .i64 k) from hk3.2.trans hB2').cell
        gi_wp2
        go_roundw
        case rel => exact ⟨j + 1, by omega, by rw [hmul]; simp, by rw [HM.out]; exact hJ3, HKB.out.trans hk3⟩
        case measure => simp [intOf]; omega
      · gi_wp2
        refine bodyPost_ret (results_none rfl _ _ _) rfl ?_
        exact ⟨⟨_, rfl⟩, .inr ⟨_, by rw [← HM.out]; exact List.take_prefix _ _, hJx3⟩⟩
    · have HE := Lib.hid (cut_end hk0 (show ¬ j * k < m by omega) hj)
      rw [HE.out, List.take_of_length_le (by simp)] at hJs
      have HJ := Lib.hid hJs
      clear hJs
      rw [← hq]
      gi_wp2
      go_end0
      exact ⟨⟨_, rfl⟩, .inl ⟨_, rfl, HJ.out⟩⟩
/-- The two boxes that the iterator reads. -/
def boxesInt (w : World) (a b : Value) : World := (w.alloc (.cells #[a] 24)).alloc (.cells #[b] 3)
theorem chunkFnInt (w : World) (ad : Option Addr) (n cap k : Nat) (hk0 : 0 < k) (hk : k ≤ 1048576) :
    Calls Try.prog 74 #[.slice ad n cap, .int .i64 k] w fun e w' => e = .returned (.func (.func 79) #[] #[.pointer (some ⟨w.heap.size, 0, none⟩), .pointer (some ⟨w.heap.size + 1, 0, none⟩)]) ∧ w' = boxesInt w (.slice ad n cap) (.int .i64 k) := by
  have h1 : ¬ ((k : Int) < 1) := by omega
  go_enter Try.func74, Try.ntmps74
  go_wp2
  go_ret
  exact ⟨rfl, rfl⟩
end Go.Proofs.Ytlgmiojlpnoiaaa.Chunk
