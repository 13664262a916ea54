/-
  Slices of integers in memory: one that reads as a list (Sl), one that the call itself has made (Row), what a step leaves alone (Mv), and what append, make and a store do to them. No program.
-/
import Derived.WalkKit
import Derived.ProofKit
import Derived.OpenShut
import Derived.Below
import Derived.OwnWalk
import Derived.ArgAppend
import Derived.Laws.OwnMore
import Derived.Lib.Hide
import Derived.Deep.Draws
import Derived.Test.YthhnfbhpdcemfaaKit
namespace Go.Proofs.Ythhnfbhpdcemfaa.Seq
open Go.RowKit

/-- A number of a kind. -/
def Fits (k : IntKind) (x : Int) : Prop := (Lit.int k x).wf = true
theorem fits_u8 {x : Int} : Fits .u8 x ↔ 0 ≤ x ∧ x ≤ 255 := by simp [Fits, Lit.wf, IntKind.min, IntKind.max, IntKind.signed, IntKind.bits]
theorem fits_i64 {x : Int} : Fits .i64 x ↔ -9223372036854775808 ≤ x ∧ x ≤ 9223372036854775807 := by simp [Fits, Lit.wf, IntKind.min, IntKind.max, IntKind.signed, IntKind.bits]

/-- All memory but the blocks from l up to (not with) h is as it was; there may be new blocks, and draws. -/
structure Mv (w w' : World) (l h : Nat) : Prop where
  os : w'.os = w.os
  tape : w'.tape = w.tape
  output : w'.output = w.output
  size : w.heap.size ≤ w'.heap.size
  block : ∀ k, k < w.heap.size → (k < l ∨ h ≤ k) → w'.heap[k]? = w.heap[k]?

section
variable {a w w' : World} {l h l' h' B : Nat}
theorem Mv.refl (w : World) (l h : Nat) : Mv w w l h := ⟨rfl, rfl, rfl, Nat.le_refl _, fun _ _ _ => rfl⟩
theorem Mv.trans (x : Mv a w l h) (y : Mv w w' l h) : Mv a w' l h :=
  ⟨y.os.trans x.os, y.tape.trans x.tape, y.output.trans x.output, Nat.le_trans x.size y.size, fun k hk ho => (y.block k (Nat.lt_of_lt_of_le hk x.size) ho).trans (x.block k hk ho)⟩
theorem Mv.mono (x : Mv w w' l h) (h1 : l' ≤ l) (h2 : h ≤ h') : Mv w w' l' h' := ⟨x.os, x.tape, x.output, x.size, fun k hk ho => x.block k hk (by omega)⟩
theorem Mv.of_below (x : Below B w w') (hB : w.heap.size ≤ B) : Mv w w' l h := ⟨x.os, x.tape, x.output, x.size, fun k hk _ => x.block k (by omega)⟩
theorem Mv.below (x : Mv w w' l h) (hB : B ≤ l) (hs : B ≤ w.heap.size) : Below B w w' := ⟨x.os, x.tape, x.output, x.size, fun k hk => x.block k (by omega) (by omega)⟩
theorem Mv.drew (x : Mv a w l h) : Mv a w.drew l h := ⟨x.os, x.tape, x.output, x.size, x.block⟩
theorem Mv.drewN (x : Mv a w l h) (n : Nat) : Mv a (w.drewN n) l h := ⟨x.os, x.tape, x.output, x.size, x.block⟩
theorem Mv.alloc (x : Mv a w l h) (o : Obj) : Mv a (w.alloc o) l h := x.trans ⟨rfl, rfl, rfl, by simp, fun k hk _ => Below.heap_alloc _ _ _ hk⟩
theorem Mv.setCell (x : Mv a w l h) {p : Addr} (h1 : l ≤ p.block) (h2 : p.block < h) (u : Value) : Mv a (w.setCell p u) l h :=
  x.trans ⟨rfl, rfl, rfl, by simp [World.setCell], fun k _ ho => Below.heap_setCell _ _ _ _ (by omega)⟩
theorem below_drewN (x : Below B a w) (n : Nat) : Below B a (w.drewN n) := ⟨x.os, x.tape, x.output, x.size, x.block⟩
end

theorem add_block (a : Addr) (j : Nat) : (a.add j).block = a.block := by unfold Addr.add; split <;> rfl
theorem add_add (a : Addr) (i j : Nat) : (a.add i).add j = a.add (i + j) := by
  unfold Addr.add
  by_cases hi : i = 0 <;> by_cases hj : j = 0 <;> simp [hi, hj, Nat.add_assoc]

/-- The slice with this address, length and capacity reads as the list xs; its cells lie in blocks from l up to (not with) h. -/
structure Sl (w : World) (l h : Nat) (k : IntKind) (ad : Option Addr) (n cap : Nat) (xs : List Int) : Prop where
  len : xs.length = n
  le : n ≤ cap
  big : cap ≤ maxLen
  nil : ad = none → cap = 0
  fits : ∀ x ∈ xs, Fits k x
  cells : ∀ j x, xs[j]? = some x → ∃ a, ad = some a ∧ l ≤ a.block ∧ a.block < h ∧ w.cell? (a.add j) = some (.int k x)

/-- One element: its number, and where it lies. -/
structure At (w : World) (l h : Nat) (k : IntKind) (a : Addr) (xs : List Int) (j : Nat) (x : Int) : Prop where
  get : xs[j]? = some x
  fits : Fits k x
  lo : l ≤ a.block
  hi : a.block < h

section
variable {w w' : World} {l h l' h' : Nat} {k : IntKind} {ad : Option Addr} {n cap : Nat} {xs ys : List Int}
theorem Sl.at_ (s : Sl w l h k ad n cap xs) {j : Nat} (hj : j < n) : ∃ a x, ad = some a ∧ At w l h k a xs j x ∧ w.cell? (a.add j) = some (.int k x) := by
  have hl : j < xs.length := by rw [s.len]; exact hj
  obtain ⟨a, e, h1, h2, h3⟩ := s.cells j xs[j] (List.getElem?_eq_getElem hl)
  exact ⟨a, xs[j], e, ⟨List.getElem?_eq_getElem hl, s.fits _ (List.getElem_mem hl), h1, h2⟩, h3⟩
theorem Sl.keep (s : Sl w l h k ad n cap xs) (hk : ∀ p : Addr, l ≤ p.block → p.block < h → ∀ u, w.cell? p = some u → w'.cell? p = some u) : Sl w' l h k ad n cap xs :=
  ⟨s.len, s.le, s.big, s.nil, s.fits, fun j x hx => by
    obtain ⟨a, e, h1, h2, h3⟩ := s.cells j x hx
    exact ⟨a, e, h1, h2, hk _ (by rw [add_block]; exact h1) (by rw [add_block]; exact h2) _ h3⟩⟩
theorem Sl.mv (s : Sl w l h k ad n cap xs) (m : Mv w w' l' h') (hd : h ≤ l' ∨ h' ≤ l) : Sl w' l h k ad n cap xs :=
  s.keep fun p h1 h2 u hu => (World.cell?_of_block (m.block p.block (World.block_lt_of_cell? w p hu) (by omega))).trans hu
theorem Sl.below {B : Nat} (s : Sl w l h k ad n cap xs) (m : Below B w w') (hB : h ≤ B ∨ w.heap.size ≤ B) : Sl w' l h k ad n cap xs :=
  s.keep fun p h1 h2 u hu => (m.cell (by have := World.block_lt_of_cell? w p hu; omega)).trans hu
theorem Sl.mono (s : Sl w l h k ad n cap xs) (h1 : l' ≤ l) (h2 : h ≤ h') : Sl w l' h' k ad n cap xs :=
  ⟨s.len, s.le, s.big, s.nil, s.fits, fun j x hx => by
    obtain ⟨a, e, g1, g2, g3⟩ := s.cells j x hx
    exact ⟨a, e, by omega, by omega, g3⟩⟩
theorem Sl.drewN (s : Sl w l h k ad n cap xs) (m : Nat) : Sl (w.drewN m) l h k ad n cap xs := ⟨s.len, s.le, s.big, s.nil, s.fits, s.cells⟩
theorem Sl.alloc (s : Sl w l h k ad n cap xs) (o : Obj) : Sl (w.alloc o) l h k ad n cap xs := s.mv ((Mv.refl w 0 0).alloc o) (.inr (Nat.zero_le _))
theorem Sl.lt {B : Nat} (s : Sl w l h k ad n cap xs) (hB : w.heap.size ≤ B) : Sl w l B k ad n cap xs :=
  ⟨s.len, s.le, s.big, s.nil, s.fits, fun j x hx => by
    obtain ⟨a, e, g1, g2, g3⟩ := s.cells j x hx
    have := World.block_lt_of_cell? w _ g3
    rw [add_block] at this
    exact ⟨a, e, g1, by omega, g3⟩⟩

/-- A part of it. -/
theorem Sl.cut (s : Sl w l h k ad n cap xs) {i m c : Nat} (h1 : i + m ≤ n) (h2 : m ≤ c) (h3 : i + c ≤ cap) :
    Sl w l h k (if cap = i then ad else ad.map (·.add i)) m c ((xs.drop i).take m) := by
  have hl := s.len
  refine ⟨by rw [List.length_take, List.length_drop]; omega, h2, by have := s.big; omega, ?_, ?_, ?_⟩
  · intro hn
    by_cases hc : cap = i
    · omega
    · rw [if_neg hc] at hn
      have := s.nil (by simpa using hn)
      omega
  · exact fun x hx => s.fits x (List.mem_of_mem_drop (List.mem_of_mem_take hx))
  · intro j x hx
    rw [List.getElem?_take] at hx
    split at hx
    · rw [List.getElem?_drop] at hx
      obtain ⟨a, rfl, g1, g2, g3⟩ := s.cells _ _ hx
      rw [if_neg (by omega)]
      exact ⟨a.add i, rfl, by rw [add_block]; exact g1, by rw [add_block]; exact g2, by rw [add_add]; exact g3⟩
    · cases hx

theorem of_ints {v : Value} (s : Kit.IntsAt k w v ad n cap) : ∃ xs, v = .slice ad n cap ∧ Sl w 0 w.heap.size k ad n cap xs := by
  have hx : ∀ m, m ≤ n → ∃ xs : List Int, xs.length = m ∧ (∀ x ∈ xs, Fits k x) ∧ ∀ j x, xs[j]? = some x → ∃ a, ad = some a ∧ w.cell? (a.add j) = some (.int k x) := by
    intro m
    induction m with
    | zero => exact fun _ => ⟨[], rfl, by simp, by simp⟩
    | succ m ih =>
      intro hm
      obtain ⟨xs, h1, h2, h3⟩ := ih (by omega)
      obtain ⟨a, x, e, hw, hc⟩ := s.cells m (by omega)
      refine ⟨xs ++ [x], by simp [h1], ?_, ?_⟩
      · intro y hy
        rcases List.mem_append.1 hy with hy | hy
        · exact h2 y hy
        · obtain rfl : y = x := by simpa using hy
          exact hw
      · intro j y hy
        by_cases hj : j < xs.length
        · rw [List.getElem?_append_left hj] at hy
          exact h3 j y hy
        · rw [List.getElem?_append_right (by omega)] at hy
          have hj0 : j - xs.length = 0 := by
            rcases Nat.eq_zero_or_pos (j - xs.length) with h | h
            · exact h
            · rw [List.getElem?_eq_none (by simp; omega)] at hy; cases hy
          rw [hj0] at hy
          obtain rfl : x = y := by simpa using hy
          obtain rfl : j = m := by omega
          exact ⟨a, e, hc⟩
  obtain ⟨xs, h1, h2, h3⟩ := hx n (Nat.le_refl _)
  refine ⟨xs, s.val, h1, s.len, s.cap, s.nil, h2, fun j x hj => ?_⟩
  obtain ⟨a, e, hc⟩ := h3 j x hj
  have := World.block_lt_of_cell? w _ hc
  rw [add_block] at this
  exact ⟨a, e, Nat.zero_le _, this, hc⟩
end

/-- A slice that the call itself has made: its block is one of those from l up to (not with) h, not frozen; or it has no room at all. -/
structure Row (w : World) (l h : Nat) (k : IntKind) (e : TypeId) (ad : Option Addr) (n cap : Nat) (xs : List Int) : Prop where
  len : xs.length = n
  le : n ≤ cap
  big : cap ≤ maxLen
  fits : ∀ x ∈ xs, Fits k x
  own : (n = 0 ∧ cap = 0) ∨ ∃ g, ad = some ⟨g, 0, none⟩ ∧ l ≤ g ∧ g < h ∧ w.ownsRow l e 1 (.slice ad n cap) n (xs.map (.int k))

section
variable {w w' : World} {l h l' h' : Nat} {k : IntKind} {e : TypeId} {ad : Option Addr} {n cap : Nat} {xs ys : List Int}
theorem Row.sl (r : Row w l h k e ad n cap xs) : Sl w l h k ad n cap xs := by
  refine ⟨r.len, r.le, r.big, ?_, r.fits, ?_⟩
  · intro hn
    rcases r.own with ⟨_, h⟩ | ⟨g, h, _⟩
    · exact h
    · rw [hn] at h; cases h
  · intro j x hx
    rcases r.own with ⟨h0, _⟩ | ⟨g, rfl, h1, h2, h3⟩
    · have := r.len
      rw [List.getElem?_eq_none (by omega)] at hx; cases hx
    · exact ⟨_, rfl, h1, h2, h3.cells (g := g) rfl j _ (by rw [List.getElem?_map, hx]; rfl)⟩
theorem Row.mono (r : Row w l h k e ad n cap xs) (h2 : h ≤ h') : Row w l h' k e ad n cap xs :=
  ⟨r.len, r.le, r.big, r.fits, r.own.imp id fun ⟨g, a, b, c, d⟩ => ⟨g, a, b, by omega, d⟩⟩
theorem owns_keep {base size : Nat} {v : Value} {us : List Value} (o : w.ownsRow base e size v n us) (hb : ∀ g, v.ownBlock = some g → w'.heap[g]? = w.heap[g]?) : w'.ownsRow base e size v n us := by
  refine ⟨o.1, ?_⟩
  rcases o.2 with hn | ⟨g, c, cur, rfl, h1, h2, r⟩
  · exact .inl hn
  · exact .inr ⟨g, c, cur, rfl, h1, by rw [hb g rfl]; exact h2, r⟩
theorem owns_lt {base size : Nat} {us : List Value} {g : Nat} {c : Nat} (o : w.ownsRow base e size (.slice (some ⟨g, 0, none⟩) n c) n us) : g < w.heap.size := (o.lt g rfl).2
theorem owns_base {base base' size : Nat} {us : List Value} {g : Nat} {c : Nat} (o : w.ownsRow base e size (.slice (some ⟨g, 0, none⟩) n c) n us) (hb : base' ≤ g) : w.ownsRow base' e size (.slice (some ⟨g, 0, none⟩) n c) n us := by
  refine ⟨o.1, ?_⟩
  rcases o.2 with ⟨hn, _⟩ | ⟨g', c', cur, hv, h1, h2, r⟩
  · simp at hn
  · have hv' := hv
    simp only [Value.slice.injEq, Option.some.injEq, Addr.mk.injEq, and_true, true_and] at hv
    obtain ⟨rfl, rfl⟩ := hv
    exact .inr ⟨g, c, cur, rfl, hb, h2, r⟩
theorem Row.mv (r : Row w l h k e ad n cap xs) (m : Mv w w' l' h') (hd : h ≤ l' ∨ h' ≤ l) : Row w' l h k e ad n cap xs :=
  ⟨r.len, r.le, r.big, r.fits, r.own.imp id fun ⟨g, a, b, c, d⟩ => ⟨g, a, b, c, by
    subst a
    exact owns_keep d fun g' hg => by
      obtain rfl : g = g' := by simpa [Value.ownBlock] using hg
      exact m.block g (owns_lt d) (by omega)⟩⟩
theorem Row.below {B : Nat} (r : Row w l h k e ad n cap xs) (m : Below B w w') (hB : h ≤ B ∨ w.heap.size ≤ B) : Row w' l h k e ad n cap xs :=
  ⟨r.len, r.le, r.big, r.fits, r.own.imp id fun ⟨g, a, b, c, d⟩ => ⟨g, a, b, c, by
    subst a
    exact owns_keep d fun g' hg => by
      obtain rfl : g = g' := by simpa [Value.ownBlock] using hg
      exact m.block g (by have := owns_lt d; omega)⟩⟩
theorem Row.drewN (r : Row w l h k e ad n cap xs) (m : Nat) : Row (w.drewN m) l h k e ad n cap xs := ⟨r.len, r.le, r.big, r.fits, r.own⟩
theorem Row.alloc (r : Row w l h k e ad n cap xs) (o : Obj) : Row (w.alloc o) l h k e ad n cap xs := r.mv ((Mv.refl w 0 0).alloc o) (.inr (Nat.zero_le _))
theorem Row.nil (w : World) (l h : Nat) (k : IntKind) (e : TypeId) (ad : Option Addr) : Row w l h k e ad 0 0 [] := ⟨rfl, Nat.le_refl _, Nat.zero_le _, by simp, .inl ⟨rfl, rfl⟩⟩
theorem Row.lo (r : Row w l h k e ad n cap xs) (hl : l' ≤ l) : Row w l' h k e ad n cap xs :=
  ⟨r.len, r.le, r.big, r.fits, r.own.imp id fun ⟨g, a, b, c, d⟩ => ⟨g, a, by omega, c, by subst a; exact owns_base d (by omega)⟩⟩

theorem Row.lt (r : Row w l h k e ad n cap xs) : Row w l w.heap.size k e ad n cap xs :=
  ⟨r.len, r.le, r.big, r.fits, r.own.imp id fun ⟨g, a, b, c, d⟩ => ⟨g, a, b, by subst a; exact owns_lt d, d⟩⟩

/-- A new block that holds a list. -/
theorem Row.new (w : World) (k : IntKind) (e : TypeId) (xs : List Int) (n : Nat) (hn : xs.length = n) (hm : n ≤ maxLen) (hf : ∀ x ∈ xs, Fits k x) :
    Row (w.alloc (.cells (xs.map (.int k)).toArray e)) w.heap.size (w.heap.size + 1) k e (some ⟨w.heap.size, 0, none⟩) n n xs := by
  refine ⟨hn, Nat.le_refl _, hm, hf, .inr ⟨w.heap.size, rfl, Nat.le_refl _, Nat.lt_succ_self _, ?_⟩⟩
  have h := World.ownsRow_lit (base := w.heap.size) (e := e) (size := 1) w (xs.map (.int k)).toArray n (Nat.le_refl _) hm (by simp [hn])
  simpa using h

theorem Row.pos (r : Row w l h k e ad n cap xs) (hn : 0 < n) : ∃ g, ad = some ⟨g, 0, none⟩ ∧ l ≤ g ∧ g < h := by
  rcases r.own with ⟨h0, _⟩ | ⟨g, h1, h2, h3, _⟩
  · omega
  · exact ⟨g, h1, h2, h3⟩
theorem Row.free {g j : Nat} (r : Row w l h k e (some ⟨g, 0, none⟩) n cap xs) (hj : j < n) : w.frozen? ⟨g, j, none⟩ = false := by
  rcases r.own with ⟨h0, _⟩ | ⟨g', h1, h2, h3, h4⟩
  · omega
  · exact h4.frozenAt j
theorem Row.cell {g j : Nat} {x : Int} (r : Row w l h k e (some ⟨g, 0, none⟩) n cap xs) (hx : xs[j]? = some x) : w.cell? ⟨g, j, none⟩ = some (.int k x) := by
  obtain ⟨a, ha, _, _, h3⟩ := r.sl.cells j x hx
  obtain rfl := Option.some.inj ha
  rw [Addr.add_lit, Nat.zero_add] at h3
  exact h3
theorem Row.there {g j : Nat} (r : Row w l h k e (some ⟨g, 0, none⟩) n cap xs) (hj : j < n) : ∃ x, xs[j]? = some x ∧ Fits k x ∧ w.cell? ⟨g, j, none⟩ = some (.int k x) ∧ w.frozen? ⟨g, j, none⟩ = false := by
  have hl : j < xs.length := by rw [r.len]; exact hj
  exact ⟨xs[j], List.getElem?_eq_getElem hl, r.fits _ (List.getElem_mem hl), r.cell (List.getElem?_eq_getElem hl), r.free hj⟩
theorem Row.set {g j : Nat} {x : Int} (r : Row w l h k e (some ⟨g, 0, none⟩) n cap xs) (hj : j < n) (hx : Fits k x) :
    Row (w.setCell ⟨g, j, none⟩ (.int k x)) l h k e (some ⟨g, 0, none⟩) n cap (xs.set j x) ∧ Mv w (w.setCell ⟨g, j, none⟩ (.int k x)) l h := by
  rcases r.own with ⟨h0, _⟩ | ⟨g', h1, h2, h3, h4⟩
  · omega
  · obtain rfl : g = g' := by simpa using h1
    obtain ⟨o, m⟩ := h4.stored j (.int k x)
    refine ⟨⟨by rw [List.length_set]; exact r.len, r.le, r.big, ?_, .inr ⟨g, rfl, h2, h3, by rw [List.map_set]; exact o⟩⟩, (Mv.refl _ _ _).setCell h2 h3 _⟩
    intro y hy
    rcases List.mem_or_eq_of_mem_set hy with h | rfl
    · exact r.fits y h
    · exact hx

/-- What 'append' does: the source is any slice that reads. -/
theorem run_app {P : Program} {t ty : TypeId} {i : TypeInfo} {z : Value} {bytes : Nat} (ht : P.underlying t = some (.slice e)) (hi : P.info? e = some i) (hz : i.zero = some z) (hs : i.size = 1) (hb : i.bytes = bytes) (hzs : z.cells.size = 1)
    (r : Row w l h k e ad n cap xs) {l1 h1 m c : Nat} {A : Option Addr} (s : Sl w l1 h1 k A m c ys) (h63 : n + m ≤ maxLen) (hby : (n + m) * bytes ≤ 140737488355328) (hl : l ≤ w.heap.size) :
    ∃ ad' cap' w', (Builtin.append_ #[t, t] ty #[.slice ad n cap, .slice A m c]).run P w = .ok (.slice ad' (n + m) cap') w' ∧ Row w' l w'.heap.size k e ad' (n + m) cap' (xs ++ ys) ∧ Mv w w' l h := by
  have hf : ∀ x ∈ xs ++ ys, Fits k x := fun x hx => (List.mem_append.1 hx).elim (r.fits x) (s.fits x)
  have hlen : (xs ++ ys).length = n + m := by rw [List.length_append, r.len, s.len]
  have hys : (ys.map (Value.int k)).length = m * 1 := by rw [List.length_map, s.len, Nat.mul_one]
  have one : ∀ u ∈ ys.map (Value.int k), u.oneCell' = true := ints_oneCell k ys
  have fin : ∀ v' w', w'.ownsRow l e 1 v' (n + m) ((xs ++ ys).map (.int k)) → ∃ ad' cap', v' = .slice ad' (n + m) cap' ∧ Row w' l w'.heap.size k e ad' (n + m) cap' (xs ++ ys) := by
    intro v' w' o
    rcases o.2 with ⟨rfl, h0⟩ | ⟨g, c', cur, rfl, g1, g2, g3, g4, g5⟩
    · exact ⟨none, 0, by rw [h0], ⟨hlen, by omega, Nat.zero_le _, hf, .inl ⟨h0, rfl⟩⟩⟩
    · exact ⟨_, c', rfl, hlen, g3, g4, hf, .inr ⟨g, rfl, g1, owns_lt o, o⟩⟩
  have src : ∀ a, A = some a → ∀ j u, (ys.map (Value.int k))[j]? = some u → w.cell? (a.add j) = some u := by
    intro a ha j u hu
    rw [List.getElem?_map] at hu
    obtain ⟨x, hx, rfl⟩ := Option.map_eq_some_iff.1 hu
    obtain ⟨a', e', _, _, hc⟩ := s.cells j x hx
    rw [ha] at e'
    obtain rfl := Option.some.inj e'
    exact hc
  cases A with
  | none =>
    have hc0 := s.nil rfl
    have hm0 : m = 0 := by have := s.le; omega
    subst hc0
    subst hm0
    have hy0 : ys = [] := List.eq_nil_of_length_eq_zero s.len
    subst hy0
    refine ⟨ad, cap, w, ?_, by rw [List.append_nil]; exact r.lt, Mv.refl _ _ _⟩
    rcases r.own with ⟨rfl, rfl⟩ | ⟨g, rfl, g1, g2, o⟩
    · simp [Builtin.append_, run_underlying ht, sizeOf, typeInfo, hi, Builtin.lenOf, Builtin.firstCells]
      cases ad <;> simp [storeCells]
    · exact run_append_owned_none w l t ty e i 1 ht hi _ n _ o
  | some a =>
    rcases r.own with ⟨rfl, rfl⟩ | ⟨g, rfl, g1, g2, o⟩
    · have hx0 : xs = [] := List.eq_nil_of_length_eq_zero r.len
      subst hx0
      by_cases hm : m = 0
      · subst hm
        have hy0 : ys = [] := List.eq_nil_of_length_eq_zero s.len
        subst hy0
        refine ⟨ad, 0, w, ?_, Row.nil _ _ _ _ _ _, Mv.refl _ _ _⟩
        simp [Builtin.append_, run_underlying ht, sizeOf, typeInfo, hi, Builtin.lenOf, Builtin.firstCells, loadCells, loadCellsFrom]
        cases ad <;> simp [storeCells]
      · cases ad with
        | none =>
          obtain ⟨v', w', hr, ho, hg, _⟩ := run_append_own (P := P) w l t ty e i z 1 bytes ht hi hz hs hb hzs (by decide) (.slice none 0 0) 0 [] (World.ownsRow_nil w _ e 1) a m c _ hys (src a rfl) one h63 hby hl
          obtain ⟨ad', cap', rfl, hrow⟩ := fin v' w' (by simpa using ho)
          exact ⟨ad', cap', w', hr, hrow, ⟨hg.os, hg.tape, hg.output, hg.size, fun k hk _ => hg.block k hk (by simp [Value.ownBlock])⟩⟩
        | some b =>
          obtain ⟨v', w', hr, ho, hg⟩ := run_append_arg_grows (P := P) w t ty e i z 1 bytes ht hi hz hs hb hzs (by decide) b 0 0 [] rfl (by simp) a m c _ hys (src a rfl) (by omega) h63 hby
          have hsz := (ho.lt)
          obtain ⟨ad', cap', rfl, hrow⟩ := fin v' w' (by
            rcases ho.2 with ⟨rfl, h0⟩ | ⟨g, c', cur, rfl, q1, q2, q3⟩
            · omega
            · have := owns_base (base' := l) ho (by omega)
              simpa using this)
          exact ⟨ad', cap', w', hr, hrow, ⟨hg.os, hg.tape, hg.output, hg.size, fun k hk _ => hg.block k hk (by simp)⟩⟩
    · obtain ⟨v', w', hr, ho, hg, _⟩ := run_append_own (P := P) w l t ty e i z 1 bytes ht hi hz hs hb hzs (by decide) (.slice (some ⟨g, 0, none⟩) n cap) n _ o a m c _ hys (src a rfl) one h63 hby hl
      obtain ⟨ad', cap', rfl, hrow⟩ := fin v' w' (by rw [List.map_append]; exact ho)
      exact ⟨ad', cap', w', hr, hrow, ⟨hg.os, hg.tape, hg.output, hg.size, fun k hk hk2 => hg.block k hk (by simp [Value.ownBlock]; omega)⟩⟩
end

/-- 'append', as the walk meets it. 'hinfo': the element type's row of the table. -/
theorem wpList_app {P : Program} {w : World} {ops : Array Oper} {rest : List Oper} {o : Oper} {a : Act} {Q : Exit → Act → World → Prop} {l h : Nat} {k : IntKind} {e : TypeId} {ad : Option Addr} {n cap : Nat} {xs ys : List Int}
    {l1 h1 m c : Nat} {A : Option Addr} (r : Row w l h k e ad n cap xs) (s : Sl w l1 h1 k A m c ys) {t : TypeId} (ht : P.underlying t = some (.slice e)) {x0 : Int} {bytes : Nat}
    (hinfo : (P.info? e).map (fun i => (i.zero, i.size, i.bytes)) = some (some (.int k x0), 1, bytes)) (h63 : n + m ≤ maxLen) (hby : (n + m) * bytes ≤ 140737488355328) (hl : l ≤ w.heap.size)
    (hg : o.guard = none) (p q : Operand) (hop : o.op = Op.call { callee := Callee.builtin Builtin.append, args := #[p, q], argTypes := #[t, t] }) (hp : a.eval p = .slice ad n cap) (hq : a.eval q = .slice A m c)
    (hK : ∀ ad' cap' w', Row w' l w'.heap.size k e ad' (n + m) cap' (xs ++ ys) → Mv w w' l h → wpList P ops Q rest (a.put o.dst (.slice ad' (n + m) cap')) w') : wpList P ops Q (o :: rest) a w := by
  obtain ⟨i, hi, hz, hs, hb⟩ := info_parts hinfo
  refine wpList_plain hg fun K hK' => ?_
  obtain ⟨ad', cap', w', hrun, hr, hm⟩ := run_app (P := P) (t := t) (ty := o.type) ht hi hz hs hb rfl r s h63 hby hl
  unfold Oper.wp
  simp [execOp, hop, resolve, invoke, builtin, hp, hq, hrun, Result.andThen]
  exact hK' _ _ (hK ad' cap' w' hr hm)

/-- 'append' under a guard that says yes, as the walk meets it. -/
theorem wpList_appG {P : Program} {w : World} {ops : Array Oper} {rest : List Oper} {o : Oper} {a : Act} {Q : Exit → Act → World → Prop} {l h : Nat} {k : IntKind} {e : TypeId} {ad : Option Addr} {n cap : Nat} {xs ys : List Int}
    {l1 h1 m c : Nat} {A : Option Addr} (r : Row w l h k e ad n cap xs) (s : Sl w l1 h1 k A m c ys) {t : TypeId} (ht : P.underlying t = some (.slice e)) {x0 : Int} {bytes : Nat}
    (hinfo : (P.info? e).map (fun i => (i.zero, i.size, i.bytes)) = some (some (.int k x0), 1, bytes)) (h63 : n + m ≤ maxLen) (hby : (n + m) * bytes ≤ 140737488355328) (hl : l ≤ w.heap.size)
    (hw : Region.wanted o (yielded ops a.tmps) = true) (p q : Operand) (hop : o.op = Op.call { callee := Callee.builtin Builtin.append, args := #[p, q], argTypes := #[t, t] }) (hp : a.eval p = .slice ad n cap) (hq : a.eval q = .slice A m c)
    (hK : ∀ ad' cap' w', Row w' l w'.heap.size k e ad' (n + m) cap' (xs ++ ys) → Mv w w' l h → wpList P ops Q rest (a.put o.dst (.slice ad' (n + m) cap')) w') : wpList P ops Q (o :: rest) a w := by
  obtain ⟨i, hi, hz, hs, hb⟩ := info_parts hinfo
  refine wpList_step fun K hK' => ?_
  rw [if_pos hw]
  obtain ⟨ad', cap', w', hrun, hr, hm⟩ := run_app (P := P) (t := t) (ty := o.type) ht hi hz hs hb rfl r s h63 hby hl
  unfold Oper.wp
  simp [execOp, hop, resolve, invoke, builtin, hp, hq, hrun, Result.andThen]
  exact hK' _ _ (hK ad' cap' w' hr hm)

/-- 'append' at a step of a region that draws its order. -/
theorem step_app {P : Program} {w : World} {ops : Array Oper} {o : Oper} {a : Act} {K : Act → World → Prop} {Q : Exit → Act → World → Prop} {E : Prop} {l h l1 h1 : Nat} {k : IntKind} {e : TypeId} {ad A : Option Addr} {n cap m c : Nat} {xs ys : List Int} {t : TypeId}
    (r : Row w l h k e ad n cap xs) (s : Sl w l1 h1 k A m c ys) (ht : P.underlying t = some (.slice e)) {bytes : Nat}
    (hinfo : (P.info? e).map (fun i => (i.zero, i.size, i.bytes)) = some (some (.int k 0), 1, bytes)) (h63 : n + m ≤ maxLen) (hby : (n + m) * bytes ≤ 140737488355328) (hl : l ≤ w.heap.size)
    (hg : o.guard = none) (p q : Operand) (hop : o.op = Op.call { callee := Callee.builtin Builtin.append, args := #[p, q], argTypes := #[t, t] }) (hp : a.eval p = .slice ad n cap) (hq : a.eval q = .slice A m c)
    (hK : ∀ ad' cap' w', Row w' l w'.heap.size k e ad' (n + m) cap' (xs ++ ys) → Mv w w' l h → K (a.put o.dst (.slice ad' (n + m) cap')) w') :
    if Region.wanted o (yielded ops a.tmps) = true then Oper.wp P o a w K Q else E := by
  have hw : Region.wanted o (yielded ops a.tmps) = true := by simp [Region.wanted, hg]
  rw [if_pos hw]
  obtain ⟨i, hi, hz, hs, hb⟩ := info_parts hinfo
  obtain ⟨ad', cap', w', hrun, hr, hm⟩ := run_app (P := P) (t := t) (ty := o.type) ht hi hz hs hb rfl r s h63 hby hl
  unfold Oper.wp
  simp [execOp, hop, resolve, invoke, builtin, hp, hq, hrun, Result.andThen]
  exact hK _ _ _ hr hm

/-- The block of one element that 'append(out, x)' lays first. -/
theorem one (w : World) (k : IntKind) (e : TypeId) (x : Int) (hx : Fits k x) : Sl (w.alloc (.cells #[.int k x] e)) w.heap.size (w.heap.size + 1) k (some ⟨w.heap.size, 0, none⟩) 1 1 [x] :=
  (Row.new w k e [x] 1 rfl (by decide) (by simpa using hx)).sl

/-- 'make([]T, n)', as the walk meets it. -/
theorem wpList_mk {P : Program} {w : World} {ops : Array Oper} {rest : List Oper} {o : Oper} {a : Act} {Q : Exit → Act → World → Prop} {k : IntKind} {e : TypeId} {n : Nat} {t : TypeId} (ht : P.underlying t = some (.slice e)) {bytes : Nat}
    (hinfo : (P.info? e).map (fun i => (i.zero, i.size, i.bytes)) = some (some (.int k 0), 1, bytes)) (hk : Fits k 0) (h63 : n ≤ maxLen) (hby : bytes * n ≤ 281474976710656)
    (hg : o.guard = none) (p q : Operand) (hop : o.op = Op.makeSlice t p q) {kl kc : IntKind} (hp : a.eval p = .int kl (n : Int)) (hq : a.eval q = .int kc (n : Int))
    (hK : ∀ w', Row w' w.heap.size w'.heap.size k e (some ⟨w.heap.size, 0, none⟩) n n (List.replicate n 0) → Below w.heap.size w w' → wpList P ops Q rest (a.put o.dst (.slice (some ⟨w.heap.size, 0, none⟩) n n)) w') : wpList P ops Q (o :: rest) a w := by
  obtain ⟨i, hi, hz, hs, hb⟩ := info_parts hinfo
  refine wpList_make_full w hg p q t hop w.heap.size e i (.int k 0) 1 ht hi hz hs kl kc n n n hp hq rfl rfl (by rw [hb]; exact hby) h63 (Nat.le_refl _) fun w' ho hgr => ?_
  refine hK w' ⟨by simp, Nat.le_refl _, h63, fun x hx => by rw [List.eq_of_mem_replicate hx]; exact hk, .inr ⟨_, rfl, Nat.le_refl _, owns_lt ho, ?_⟩⟩ ⟨hgr.os, hgr.tape, hgr.output, hgr.size, fun k hk => hgr.block k hk (by simp)⟩
  have e1 : (madeCells (Value.int k 0).cells (n * 1)).toList = (List.replicate n (0 : Int)).map (.int k) := by
    rw [List.map_replicate, Nat.mul_one]
    exact toList_madeCells_one _ _
  rw [e1] at ho
  exact ho

/-- 'make([]T, 0, n)', as the walk meets it. -/
theorem wpList_mk0 {P : Program} {w : World} {ops : Array Oper} {rest : List Oper} {o : Oper} {a : Act} {Q : Exit → Act → World → Prop} {k : IntKind} {e : TypeId} {n : Nat} {t : TypeId} (ht : P.underlying t = some (.slice e)) {bytes : Nat}
    (hinfo : (P.info? e).map (fun i => (i.zero, i.size, i.bytes)) = some (some (.int k 0), 1, bytes)) (h63 : n ≤ maxLen) (hby : bytes * n ≤ 281474976710656)
    (hg : o.guard = none) (p q : Operand) (hop : o.op = Op.makeSlice t p q) {kl kc : IntKind} (hp : a.eval p = .int kl 0) (hq : a.eval q = .int kc (n : Int))
    (hK : ∀ w', Row w' w.heap.size w'.heap.size k e (some ⟨w.heap.size, 0, none⟩) 0 n [] → Below w.heap.size w w' → wpList P ops Q rest (a.put o.dst (.slice (some ⟨w.heap.size, 0, none⟩) 0 n)) w') : wpList P ops Q (o :: rest) a w := by
  obtain ⟨i, hi, hz, hs, hb⟩ := info_parts hinfo
  refine wpList_make_own w hg p q t hop w.heap.size e i (.int k 0) 1 ht hi hz hs kl kc n n hp hq rfl (by rw [hb]; exact hby) h63 (Nat.le_refl _) fun w' ho hgr => ?_
  exact hK w' ⟨rfl, Nat.zero_le _, h63, by simp, .inr ⟨_, rfl, Nat.le_refl _, owns_lt ho, ho⟩⟩ ⟨hgr.os, hgr.tape, hgr.output, hgr.size, fun k hk => hgr.block k hk (by simp)⟩

/-- A new slice that reads as xs. -/
def Gives (k : IntKind) (t : TypeId) (xs : List Int) (w : World) (e : Ending) (w' : World) : Prop :=
  ∃ ad n cap, e = .returned (.slice ad n cap) ∧ Row w' w.heap.size w'.heap.size k t ad n cap xs ∧ Below w.heap.size w w'

/-- A new slice that reads as xs, and further results behind it. -/
def GivesT (k : IntKind) (t : TypeId) (xs : List Int) (vs : List Value) (w : World) (e : Ending) (w' : World) : Prop :=
  ∃ ad n cap, e = .returned (.tuple (.slice ad n cap :: vs).toArray) ∧ Row w' w.heap.size w'.heap.size k t ad n cap xs ∧ Below w.heap.size w w'

/-- Three results, no slice among them: two numbers and a flag. -/
def Three (r : Int × Int × Bool) (w : World) (e : Ending) (w' : World) : Prop := e = .returned (.tuple #[.int .i64 r.1, .int .i64 r.2.1, .bool r.2.2]) ∧ Below w.heap.size w w'
theorem three_of {r : Int × Int × Bool} {a b : Int} {c : Bool} {w w' : World} (h : r = (a, b, c)) (hb : Below w.heap.size w w') : Three r w (.returned (.tuple #[.int .i64 a, .int .i64 b, .bool c])) w' := by
  subst h; exact ⟨rfl, hb⟩

/-- What a stamp leaves in an element of the kind. -/
def stamp (k : IntKind) (m : Int) : Int := match k with | .u8 => m % 256 | _ => m
def stamps (k : IntKind) (m : Int) (n : Nat) : List Int := (List.range n).map fun (j : Nat) => stamp k (m + (j : Int))
theorem stamps_len (k : IntKind) (m : Int) (n : Nat) : (stamps k m n).length = n := by simp [stamps]
theorem stamps_get {k : IntKind} {m : Int} {n j : Nat} (hj : j < n) : (stamps k m n)[j]? = some (stamp k (m + j)) := by simp [stamps, hj]
theorem stamp_fits {k : IntKind} {m : Int} (hk : k = .u8 ∨ k = .i64) (h0 : 0 ≤ m) (h1 : m ≤ 9223372036854775807) : Fits k (stamp k m) := by
  rcases hk with rfl | rfl
  · rw [fits_u8]; simp only [stamp]; omega
  · rw [fits_i64]; simp only [stamp]; omega
end Go.Proofs.Ythhnfbhpdcemfaa.Seq
