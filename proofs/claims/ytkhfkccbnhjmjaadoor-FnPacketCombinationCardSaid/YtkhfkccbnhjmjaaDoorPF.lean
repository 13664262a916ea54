/-
  Symbols and generations as lists: what the functions of chapter 10 answer. No program.
  Values of any shape (numbers, structs, slices, one within another), by what they read as: read (Rd); the call's own (Ow: the cells that hold numbers, and those that hold slices, as lists of addresses); numbers stamped in order. No program.
  The shapes of before (slices of numbers, slices of those, structs of a number and rows) as values of any shape. No program.
  Values of any shape: what the walks of the laws' helpers ask, element by element. No program.
  The laws' helpers over slices of numbers and slices of those, as values of any shape: marking (which cells, in which order), asking for stamps, measuring, comparing, copying.
  Slices of bytes, as a column of shapes.
  Blocks of any number of cells; pairs of own values; the laws' helpers over slices of integers, as values of any shape.
  The laws' helpers over structs and slices of them, as values of any shape (printed by gen_struct.py).
-/
import Derived.Test.YtkhfkccbnhjmjaaDoorPD
import Derived.Test.YtkhfkccbnhjmjaaDoorPB
import Derived.Test.YtkhfkccbnhjmjaaDoorPE
import Derived.Test.YtkhfkccbnhjmjaaDoorPA
namespace Go.Proofs.YtkhfkccbnhjmjaaDoor.Gen
open Go.RowKit
open Go.Proofs.YtkhfkccbnhjmjaaDoor.Seq Go.Proofs.YtkhfkccbnhjmjaaDoor.Field Go.Proofs.YtkhfkccbnhjmjaaDoor.Vec Go.Proofs.YtkhfkccbnhjmjaaDoor.Mat Go.Proofs.YtkhfkccbnhjmjaaDoor.Uv Go.Proofs.YtkhfkccbnhjmjaaDoor.Rd Go.Proofs.YtkhfkccbnhjmjaaDoor.UvR

abbrev G2 := Int × List (List Int)
def isGen (g : G2) : Bool := (decide (0 ≤ g.1) && decide (g.1 ≤ 1000000000000)) && (decide (1 ≤ g.2.length) && decide (g.2.length ≤ 8)) && isMat g.2 && (decide (1 ≤ colsOf g.2) && decide (colsOf g.2 ≤ 16))
/-- Row i of what is cut into rows of w, filled up with zeros. -/
def rowAt (w : Nat) (xs : List Int) (i : Nat) : List Int := (List.range w).map fun k => xs[i * w + k]?.getD 0
def cuts (w n : Nat) : Nat := (n + w - 1) / w
def sym (w : Nat) (xs : List Int) : List (List Int) := (List.range (cuts w xs.length)).map (rowAt w xs)
def symOk (W : Int) (n : Nat) : Bool := (decide (1 ≤ W) && decide (W ≤ 16)) && decide (n ≤ 400)
def toSym (data : List Int) (W : Int) : List (List Int) := bif symOk W data.length then sym W.toNat (uv data.length ++ data) else []
def splitOk (S F : Int) : Bool := (decide (1 ≤ S) && decide (S ≤ 8)) && (decide (0 ≤ F) && decide (F ≤ 999999999590))
def part (s : Nat) (l : List (List Int)) (i : Nat) : List (List Int) := (l.drop (i * s)).take s
def split (data : List Int) (W S F : Int) : List G2 := bif splitOk S F then (List.range (cuts S.toNat (toSym data W).length)).map fun (i : Nat) => (F + (i : Int), part S.toNat (toSym data W) i) else []
/-! rows -/
/-! messages -/
end Go.Proofs.YtkhfkccbnhjmjaaDoor.Gen
namespace Go.Proofs.YtkhfkccbnhjmjaaDoor.Deep
open Go.RowKit Go.WideShapes Go.Proofs.YtkhfkccbnhjmjaaDoor.Seq

/-- A type: a number of a kind, a slice, two fields one behind the other. -/
inductive T where
  | i (k : IntKind)
  | l (t : T)
  | p (a b : T)
@[reducible] def T.den : T → Type
  | .i _ => Int
  | .l t => List t.den
  | .p a b => a.den × b.den
@[reducible] def T.K : T → Nat
  | .i _ => 1
  | .l _ => 1
  | .p a b => a.K + b.K
/-- Cells that read as x; pl: where in memory they lie, if they do. -/
def Rd (w : World) (lo hi : Nat) : (t : T) → Option Addr → List Value → t.den → Prop
  | .i k, pl, cs, x => cs = [.int k x] ∧ Fits k x ∧ ∀ a, pl = some a → lo ≤ a.block ∧ a.block < hi ∧ w.cell? a = some (.int k x)
  | .l t, pl, cs, xs => ∃ ad n cap, cs = [.slice ad n cap] ∧ xs.length = n ∧ n ≤ cap ∧ cap ≤ maxLen ∧ (ad = none → cap = 0) ∧ (∀ a, pl = some a → lo ≤ a.block ∧ a.block < hi ∧ w.cell? a = some (.slice ad n cap)) ∧
      ∀ j x, xs[j]? = some x → ∃ a es, ad = some a ∧ Rd w lo hi t (some (a.add (j * t.K))) es x
  | .p a b, pl, cs, x => ∃ c1 c2, cs = c1 ++ c2 ∧ Rd w lo hi a pl c1 x.1 ∧ Rd w lo hi b (pl.map (·.add a.K)) c2 x.2

section
variable {w w' : World} {lo hi lo' hi' : Nat}
theorem Rd.keep : ∀ {t : T} {pl : Option Addr} {cs : List Value} {x : t.den}, Rd w lo hi t pl cs x → (∀ p : Addr, lo ≤ p.block → p.block < hi → ∀ u, w.cell? p = some u → lo' ≤ p.block ∧ p.block < hi' ∧ w'.cell? p = some u) → Rd w' lo' hi' t pl cs x
  | .i k, pl, cs, x, ⟨h1, h2, h3⟩, hk => ⟨h1, h2, fun a e => by obtain ⟨b1, b2, b3⟩ := h3 a e; exact hk a b1 b2 _ b3⟩
  | .l t, pl, cs, xs, ⟨ad, n, cap, h1, h2, h3, h4, h5, h6, h7⟩, hk => ⟨ad, n, cap, h1, h2, h3, h4, h5, fun a e => by obtain ⟨b1, b2, b3⟩ := h6 a e; exact hk a b1 b2 _ b3, fun j x hx => by
      obtain ⟨a, es, e, r⟩ := h7 j x hx
      exact ⟨a, es, e, r.keep hk⟩⟩
  | .p a b, pl, cs, x, ⟨c1, c2, h1, r1, r2⟩, hk => ⟨c1, c2, h1, r1.keep hk, r2.keep hk⟩
theorem Rd.mv {t : T} {pl : Option Addr} {cs : List Value} {x : t.den} (r : Rd w lo hi t pl cs x) (m : Mv w w' lo' hi') (hd : hi ≤ lo' ∨ hi' ≤ lo) : Rd w' lo hi t pl cs x :=
  r.keep fun p h1 h2 _ hc => ⟨h1, h2, (World.cell?_of_block (m.block p.block (World.block_lt_of_cell? _ _ hc) (by omega))).trans hc⟩
theorem Rd.below {B : Nat} {t : T} {pl : Option Addr} {cs : List Value} {x : t.den} (r : Rd w lo hi t pl cs x) (m : Below B w w') (hB : hi ≤ B ∨ w.heap.size ≤ B) : Rd w' lo hi t pl cs x :=
  r.keep fun p h1 h2 _ hc => ⟨h1, h2, (m.cell (by have := World.block_lt_of_cell? _ _ hc; omega)).trans hc⟩
theorem Rd.mono {t : T} {pl : Option Addr} {cs : List Value} {x : t.den} (r : Rd w lo hi t pl cs x) (h1 : lo' ≤ lo) (h2 : hi ≤ hi') : Rd w lo' hi' t pl cs x :=
  r.keep fun p a b _ hc => ⟨by omega, by omega, hc⟩
theorem Rd.len : ∀ {t : T} {pl : Option Addr} {cs : List Value} {x : t.den}, Rd w lo hi t pl cs x → cs.length = t.K
  | .i k, pl, cs, x, ⟨h1, _⟩ => by rw [h1]; rfl
  | .l t, pl, cs, xs, ⟨_, _, _, h1, _⟩ => by rw [h1]; rfl
  | .p a b, pl, cs, x, ⟨c1, c2, h1, r1, r2⟩ => by rw [h1, List.length_append, r1.len, r2.len]
/-- The cells themselves. -/
theorem Rd.cell : ∀ {t : T} {a : Addr} {cs : List Value} {x : t.den}, Rd w lo hi t (some a) cs x → ∀ {i : Nat} {c : Value}, cs[i]? = some c → lo ≤ a.block ∧ a.block < hi ∧ w.cell? (a.add i) = some c
  | .i k, a, cs, x, ⟨h1, _, h3⟩, i, c, hc => by
    subst h1
    obtain ⟨b1, b2, b3⟩ := h3 a rfl
    cases i with
    | zero => rw [show a.add 0 = a by unfold Addr.add; simp]; simp at hc; subst hc; exact ⟨b1, b2, b3⟩
    | succ i => simp at hc
  | .l t, a, cs, xs, ⟨_, _, _, h1, _, _, _, _, h6, _⟩, i, c, hc => by
    subst h1
    obtain ⟨b1, b2, b3⟩ := h6 a rfl
    cases i with
    | zero => rw [show a.add 0 = a by unfold Addr.add; simp]; simp at hc; subst hc; exact ⟨b1, b2, b3⟩
    | succ i => simp at hc
  | .p s t, a, cs, x, ⟨c1, c2, h1, r1, r2⟩, i, c, hc => by
    subst h1
    have hl := r1.len
    by_cases hi : i < s.K
    · rw [List.getElem?_append_left (by omega)] at hc
      exact r1.cell hc
    · rw [List.getElem?_append_right (by omega), hl] at hc
      have := r2.cell hc
      rw [add_block, add_add, show s.K + (i - s.K) = i by omega] at this
      exact this
/-- Cells of a register are read wherever they are copied to. -/
theorem Rd.place : ∀ {t : T} {cs : List Value} {x : t.den} {pl : Option Addr} {a : Addr}, Rd w lo hi t pl cs x → (∀ i c, cs[i]? = some c → w.cell? (a.add i) = some c) → lo ≤ a.block → a.block < hi → Rd w lo hi t (some a) cs x
  | .i k, cs, x, pl, a, ⟨h1, h2, _⟩, hc, b1, b2 => ⟨h1, h2, fun a' e => by
      obtain rfl := Option.some.inj e
      have := hc 0 (.int k x) (by rw [h1]; rfl)
      rw [show a.add 0 = a by unfold Addr.add; simp] at this
      exact ⟨b1, b2, this⟩⟩
  | .l t, cs, xs, pl, a, ⟨ad, n, cap, h1, h2, h3, h4, h5, _, h7⟩, hc, b1, b2 => ⟨ad, n, cap, h1, h2, h3, h4, h5, fun a' e => by
      obtain rfl := Option.some.inj e
      have := hc 0 (.slice ad n cap) (by rw [h1]; rfl)
      rw [show a.add 0 = a by unfold Addr.add; simp] at this
      exact ⟨b1, b2, this⟩, h7⟩
  | .p s t, cs, x, pl, a, ⟨c1, c2, h1, r1, r2⟩, hc, b1, b2 => by
    subst h1
    have hl := r1.len
    refine ⟨c1, c2, rfl, r1.place (fun i c h => hc i c (by rw [List.getElem?_append_left (by have := (List.getElem?_eq_some_iff.1 h).1; omega)]; exact h)) b1 b2, ?_⟩
    refine r2.place (fun i c h => ?_) (by rw [add_block]; exact b1) (by rw [add_block]; exact b2)
    rw [add_add]
    refine hc (s.K + i) c ?_
    rw [List.getElem?_append_right (by omega), hl, Nat.add_sub_cancel_left]
    exact h
end

/-! stamps -/
section
variable {w w' : World} {lo hi lo' hi' : Nat}
end

/-- Cells that the call itself has made, and that read as x: ws are those in memory that hold numbers, hs those that hold slices. -/
def Ow (w : World) (lo hi : Nat) : (t : T) → Option Addr → List Value → t.den → List (Addr × IntKind) → List Addr → Prop
  | .i k, pl, cs, x, ws, hs => cs = [.int k x] ∧ Fits k x ∧ ws = (pl.map fun a => (a, k)).toList ∧ hs = [] ∧ ∀ a, pl = some a → lo ≤ a.block ∧ a.block < hi ∧ w.cell? a = some (.int k x) ∧ w.frozen? a = false
  | .l t, pl, cs, xs, ws, hs => ∃ ad n cap, cs = [.slice ad n cap] ∧ xs.length = n ∧ n ≤ cap ∧ cap ≤ maxLen ∧ (ad = none → cap = 0) ∧ (∀ a, pl = some a → lo ≤ a.block ∧ a.block < hi ∧ w.cell? a = some (.slice ad n cap)) ∧
      ∃ (wss : List (List (Addr × IntKind))) (hss : List (List Addr)), wss.length = n ∧ hss.length = n ∧ ws = wss.flatten ∧ hs = pl.toList ++ hss.flatten ∧
        ∀ j x, xs[j]? = some x → ∃ a es w1 h1, ad = some a ∧ wss[j]? = some w1 ∧ hss[j]? = some h1 ∧ Ow w lo hi t (some (a.add (j * t.K))) es x w1 h1
  | .p a b, pl, cs, x, ws, hs => ∃ c1 c2 w1 w2 h1 h2, cs = c1 ++ c2 ∧ ws = w1 ++ w2 ∧ hs = h1 ++ h2 ∧ Ow w lo hi a pl c1 x.1 w1 h1 ∧ Ow w lo hi b (pl.map (·.add a.K)) c2 x.2 w2 h2

section
variable {w w' : World} {lo hi lo' hi' : Nat}
theorem Ow.rd : ∀ {t : T} {pl : Option Addr} {cs : List Value} {x : t.den} {ws : List (Addr × IntKind)} {hs : List Addr}, Ow w lo hi t pl cs x ws hs → Rd w lo hi t pl cs x
  | .i k, pl, cs, x, ws, hs, ⟨h1, h2, _, _, h3⟩ => ⟨h1, h2, fun a e => by obtain ⟨b1, b2, b3, _⟩ := h3 a e; exact ⟨b1, b2, b3⟩⟩
  | .l t, pl, cs, xs, ws, hs, ⟨ad, n, cap, h1, h2, h3, h4, h5, h6, wss, hss, _, _, _, _, h7⟩ => ⟨ad, n, cap, h1, h2, h3, h4, h5, h6, fun j x hx => by
      obtain ⟨a, es, w1, h1, e, _, _, r⟩ := h7 j x hx
      exact ⟨a, es, e, r.rd⟩⟩
  | .p a b, pl, cs, x, ws, hs, ⟨c1, c2, w1, w2, h1, h2, e1, _, _, r1, r2⟩ => ⟨c1, c2, e1, r1.rd, r2.rd⟩
/-- The cells where numbers lie, and those where slices lie, are cells of it. -/
theorem Ow.inside : ∀ {t : T} {pl : Option Addr} {cs : List Value} {x : t.den} {ws : List (Addr × IntKind)} {hs : List Addr}, Ow w lo hi t pl cs x ws hs →
    (∀ z ∈ ws, lo ≤ z.1.block ∧ z.1.block < hi ∧ (w.cell? z.1).isSome = true ∧ w.frozen? z.1 = false) ∧ ∀ z ∈ hs, lo ≤ z.block ∧ z.block < hi ∧ (w.cell? z).isSome = true
  | .i k, pl, cs, x, ws, hs, ⟨h1, h2, e1, e2, h3⟩ => by
    subst e1; subst e2
    refine ⟨fun z hz => ?_, fun z hz => by simp at hz⟩
    cases pl with
    | none => simp at hz
    | some a =>
      simp at hz
      subst hz
      obtain ⟨b1, b2, b3, b4⟩ := h3 a rfl
      exact ⟨b1, b2, by rw [b3]; rfl, b4⟩
  | .l t, pl, cs, xs, ws, hs, ⟨ad, n, cap, h1, h2, h3, h4, h5, h6, wss, hss, l1, l2, e1, e2, h7⟩ => by
    subst e1; subst e2
    have hj : ∀ j, j < n → ∃ a es x w1 h1, wss[j]? = some w1 ∧ hss[j]? = some h1 ∧ Ow w lo hi t (some a) es x w1 h1 := fun j hj => by
      obtain ⟨a, es, w1, h1, _, a1, a2, r⟩ := h7 j xs[j] (List.getElem?_eq_getElem (by omega))
      exact ⟨_, es, _, w1, h1, a1, a2, r⟩
    refine ⟨fun z hz => ?_, fun z hz => ?_⟩
    · obtain ⟨w1, hw, hz⟩ := List.mem_flatten.1 hz
      obtain ⟨j, hjw⟩ := List.mem_iff_getElem?.1 hw
      obtain ⟨a, es, x, w2, h2, a1, _, r⟩ := hj j (by rw [← l1]; exact (List.getElem?_eq_some_iff.1 hjw).1)
      obtain rfl := Option.some.inj (hjw.symm.trans a1)
      exact r.inside.1 z hz
    · rcases List.mem_append.1 hz with hz | hz
      · cases pl with
        | none => simp at hz
        | some a =>
          simp at hz
          subst hz
          obtain ⟨b1, b2, b3⟩ := h6 z rfl
          exact ⟨b1, b2, by rw [b3]; rfl⟩
      · obtain ⟨w1, hw, hz⟩ := List.mem_flatten.1 hz
        obtain ⟨j, hjw⟩ := List.mem_iff_getElem?.1 hw
        obtain ⟨a, es, x, w2, h2, _, a2, r⟩ := hj j (by rw [← l2]; exact (List.getElem?_eq_some_iff.1 hjw).1)
        obtain rfl := Option.some.inj (hjw.symm.trans a2)
        exact r.inside.2 z hz
  | .p a b, pl, cs, x, ws, hs, ⟨c1, c2, w1, w2, h1, h2, _, e1, e2, r1, r2⟩ => by
    subst e1; subst e2
    refine ⟨fun z hz => (List.mem_append.1 hz).elim (r1.inside.1 z) (r2.inside.1 z), fun z hz => (List.mem_append.1 hz).elim (r1.inside.2 z) (r2.inside.2 z)⟩
theorem Ow.keep : ∀ {t : T} {pl : Option Addr} {cs : List Value} {x : t.den} {ws : List (Addr × IntKind)} {hs : List Addr}, Ow w lo hi t pl cs x ws hs →
    (∀ p : Addr, p ∈ ws.map Prod.fst ∨ p ∈ hs → lo ≤ p.block → p.block < hi → ∀ u, w.cell? p = some u → lo' ≤ p.block ∧ p.block < hi' ∧ w'.cell? p = some u) → (∀ p ∈ ws.map Prod.fst, w.frozen? p = false → w'.frozen? p = false) → Ow w' lo' hi' t pl cs x ws hs
  | .i k, pl, cs, x, ws, hs, ⟨h1, h2, e1, e2, h3⟩, hk, hf => ⟨h1, h2, e1, e2, fun a e => by
      obtain ⟨b1, b2, b3, b4⟩ := h3 a e
      have hm : a ∈ ws.map Prod.fst := by rw [e1, e]; simp
      obtain ⟨c1, c2, c3⟩ := hk a (.inl hm) b1 b2 _ b3
      exact ⟨c1, c2, c3, hf a hm b4⟩⟩
  | .l t, pl, cs, xs, ws, hs, ⟨ad, n, cap, h1, h2, h3, h4, h5, h6, wss, hss, l1, l2, e1, e2, h7⟩, hk, hf => by
    subst e1; subst e2
    refine ⟨ad, n, cap, h1, h2, h3, h4, h5, fun a e => ?_, wss, hss, l1, l2, rfl, rfl, fun j x hx => ?_⟩
    · obtain ⟨b1, b2, b3⟩ := h6 a e
      exact hk a (.inr (by rw [e]; simp)) b1 b2 _ b3
    · obtain ⟨a, es, w1, h1, ea, a1, a2, r⟩ := h7 j x hx
      refine ⟨a, es, w1, h1, ea, a1, a2, r.keep (fun p hp => hk p ?_) fun p hp => hf p ?_⟩
      · rcases hp with hp | hp
        · obtain ⟨z, hz, rfl⟩ := List.mem_map.1 hp
          exact .inl (List.mem_map.2 ⟨z, List.mem_flatten.2 ⟨w1, List.mem_of_getElem? a1, hz⟩, rfl⟩)
        · exact .inr (List.mem_append.2 (.inr (List.mem_flatten.2 ⟨h1, List.mem_of_getElem? a2, hp⟩)))
      · obtain ⟨z, hz, rfl⟩ := List.mem_map.1 hp
        exact List.mem_map.2 ⟨z, List.mem_flatten.2 ⟨w1, List.mem_of_getElem? a1, hz⟩, rfl⟩
  | .p a b, pl, cs, x, ws, hs, ⟨c1, c2, w1, w2, h1, h2, e0, e1, e2, r1, r2⟩, hk, hf => by
    subst e1; subst e2
    refine ⟨c1, c2, w1, w2, h1, h2, e0, rfl, rfl, r1.keep (fun p hp => hk p (hp.imp (fun h => by rw [List.map_append]; exact List.mem_append_left _ h) fun h => List.mem_append_left _ h)) fun p hp => hf p (by rw [List.map_append]; exact List.mem_append_left _ hp),
      r2.keep (fun p hp => hk p (hp.imp (fun h => by rw [List.map_append]; exact List.mem_append_right _ h) fun h => List.mem_append_right _ h)) fun p hp => hf p (by rw [List.map_append]; exact List.mem_append_right _ hp)⟩
theorem Ow.mono {t : T} {pl : Option Addr} {cs : List Value} {x : t.den} {ws : List (Addr × IntKind)} {hs : List Addr} (r : Ow w lo hi t pl cs x ws hs) (h1 : lo' ≤ lo) (h2 : hi ≤ hi') : Ow w lo' hi' t pl cs x ws hs :=
  r.keep (fun p _ a b _ hc => ⟨by omega, by omega, hc⟩) fun _ _ h => h
end
/-- The call's own, apart. -/
def Own (w : World) (lo hi : Nat) (t : T) (cs : List Value) (x : t.den) : Prop := ∃ ws hs, Ow w lo hi t none cs x ws hs ∧ (ws.map Prod.fst).Nodup ∧ ∀ z ∈ hs, z ∉ ws.map Prod.fst
section
variable {w w' : World} {lo hi lo' hi' : Nat} {t : T} {cs : List Value} {x : t.den}
theorem Own.rd (r : Own w lo hi t cs x) : Rd w lo hi t none cs x := by obtain ⟨ws, hs, r, _, _⟩ := r; exact r.rd
/-! a value of a register laid into memory -/
def pw : T → Addr → List (Addr × IntKind)
  | .i k, a => [(a, k)]
  | .l _, _ => []
  | .p s t, a => pw s a ++ pw t (a.add s.K)
theorem add_inj {a : Addr} {i j : Nat} (h : a.add i = a.add j) : i = j := by
  unfold Addr.add at h
  split at h <;> split at h
  · omega
  · rename_i h1 h2
    have := congrArg Addr.off h; simp at this; omega
  · rename_i h1 h2
    have := congrArg Addr.off h; simp at this; omega
  · have := congrArg Addr.off h; simp at this; exact this
/-- A list out of its elements. -/
theorem Ow.list {ad : Option Addr} {n cap : Nat} {xs : List t.den} (h2 : xs.length = n) (h3 : n ≤ cap) (h4 : cap ≤ maxLen) (h5 : ad = none → cap = 0) {P : Nat → List (Addr × IntKind) → List Addr → Prop}
    (hel : ∀ (j : Nat) (x : t.den), xs[j]? = some x → ∃ a es w1 h1, ad = some a ∧ Ow w lo hi t (some (a.add (j * t.K))) es x w1 h1 ∧ P j w1 h1) :
    ∃ (wss : List (List (Addr × IntKind))) (hss : List (List Addr)), Ow w lo hi (.l t) none [.slice ad n cap] xs wss.flatten hss.flatten ∧ wss.length = n ∧ hss.length = n ∧ ∀ j w1 h1, wss[j]? = some w1 → hss[j]? = some h1 → P j w1 h1 := by
  obtain ⟨ps, hl, hp⟩ := build n (fun j (q : List (Addr × IntKind) × List Addr) => ∃ x a es, xs[j]? = some x ∧ ad = some a ∧ Ow w lo hi t (some (a.add (j * t.K))) es x q.1 q.2 ∧ P j q.1 q.2) fun j hj => by
    have hx := List.getElem?_eq_getElem (l := xs) (i := j) (by omega)
    obtain ⟨a, es, w1, h1, e, r, p⟩ := hel j _ hx
    exact ⟨(w1, h1), _, a, es, hx, e, r, p⟩
  refine ⟨ps.map Prod.fst, ps.map Prod.snd, ⟨ad, n, cap, rfl, h2, h3, h4, h5, fun a e => (by cases e), ps.map Prod.fst, ps.map Prod.snd, by simp [hl], by simp [hl], rfl, rfl, fun j x hx => ?_⟩, by simp [hl], by simp [hl], fun j w1 h1 hw hh => ?_⟩
  · have hj : j < ps.length := by have := (List.getElem?_eq_some_iff.1 hx).1; omega
    have hq := List.getElem?_eq_getElem hj
    obtain ⟨x', a, es, hx', e, r, _⟩ := hp j _ hq
    obtain rfl := Option.some.inj (hx.symm.trans hx')
    exact ⟨a, es, _, _, e, by rw [List.getElem?_map, hq]; rfl, by rw [List.getElem?_map, hq]; rfl, r⟩
  · rw [List.getElem?_map] at hw hh
    obtain ⟨q, hq, rfl⟩ := Option.map_eq_some_iff.1 hw
    rw [hq] at hh
    obtain rfl := Option.some.inj hh
    obtain ⟨_, _, _, _, _, _, p⟩ := hp j _ hq
    exact p
/-- Apart, where the elements are. -/
theorem flat_nodup {wss : List (List (Addr × IntKind))} (h1 : ∀ (j : Nat) (w1 : List (Addr × IntKind)), wss[j]? = some w1 → (w1.map Prod.fst).Nodup) (h2 : ∀ (i j : Nat) (w1 w2 : List (Addr × IntKind)), i < j → wss[i]? = some w1 → wss[j]? = some w2 → ∀ z ∈ w1.map Prod.fst, z ∉ w2.map Prod.fst) : (wss.flatten.map Prod.fst).Nodup := by
  rw [List.map_flatten]
  unfold List.Nodup
  rw [List.pairwise_flatten]
  refine ⟨fun l hl => ?_, ?_⟩
  · obtain ⟨w1, hw, rfl⟩ := List.mem_map.1 hl
    obtain ⟨j, hj⟩ := List.mem_iff_getElem?.1 hw
    exact h1 j w1 hj
  · rw [List.pairwise_map, List.pairwise_iff_getElem]
    intro i j hi hj hij z hz y hy e
    subst e
    exact h2 i j _ _ hij (List.getElem?_eq_getElem hi) (List.getElem?_eq_getElem hj) z hz hy
end
end Go.Proofs.YtkhfkccbnhjmjaaDoor.Deep
namespace Go.Proofs.YtkhfkccbnhjmjaaDoor.Deep
open Go.RowKit Go.WideShapes Go.Proofs.YtkhfkccbnhjmjaaDoor.Seq Go.Proofs.YtkhfkccbnhjmjaaDoor.Shape

abbrev tI : T := .i .i64
abbrev tB : T := .i .u8
abbrev tIs : T := .l tI
abbrev tIss : T := .l tIs
abbrev tBas : T := .p tI tIss
section
variable {w : World} {lo hi : Nat} {k : IntKind} {e : TypeId} {ad : Option Addr} {n cap : Nat} {u v : Value} {xs : List Int} {us : List Value} {xss : List (List Int)}
theorem sl_rd (s : Sl w lo hi k ad n cap xs) : Rd w lo hi (.l (.i k)) none [.slice ad n cap] xs :=
  ⟨ad, n, cap, rfl, s.len, s.le, s.big, s.nil, fun a e => (by cases e), fun j x hx => by
    obtain ⟨a, e, b1, b2, hc⟩ := s.cells j x hx
    refine ⟨a, [.int k x], e, rfl, s.fits x (List.mem_of_getElem? hx), fun a' e' => ?_⟩
    obtain rfl := Option.some.inj e'
    rw [show j * T.K (.i k) = j from Nat.mul_one j]
    exact ⟨by rw [add_block]; exact b1, by rw [add_block]; exact b2, hc⟩⟩
theorem rd_sl {cs : List Value} {pl : Option Addr} (r : Rd w lo hi (.l (.i k)) pl cs xs) : ∃ ad n cap, cs = [.slice ad n cap] ∧ Sl w lo hi k ad n cap xs := by
  obtain ⟨ad, n, cap, h1, h2, h3, h4, h5, _, h7⟩ := r
  refine ⟨ad, n, cap, h1, h2, h3, h4, h5, fun x hx => ?_, fun j x hx => ?_⟩
  · obtain ⟨j, hj⟩ := List.mem_iff_getElem?.1 hx
    obtain ⟨a, es, _, _, hf, _⟩ := h7 j x hj
    exact hf
  · obtain ⟨a, es, e, _, _, hc⟩ := h7 j x hx
    have := hc _ rfl
    rw [show j * T.K (.i k) = j from Nat.mul_one j, add_block] at this
    exact ⟨a, e, this⟩
/-- A number in front. -/
theorem Own.num {t : T} {cs : List Value} {x : t.den} {y : Int} (h : Fits k y) (o : Own w lo hi t cs x) : Own w lo hi (.p (.i k) t) (.int k y :: cs) (y, x) := by
  obtain ⟨ws, hs, o, h1, h2⟩ := o
  exact ⟨ws, hs, ⟨[.int k y], cs, [], ws, [], hs, rfl, rfl, rfl, ⟨rfl, h, rfl, rfl, fun a e => (by cases e)⟩, o⟩, h1, h2⟩
theorem Rd.num {t : T} {cs : List Value} {x : t.den} {y : Int} (h : Fits k y) (r : Rd w lo hi t none cs x) : Rd w lo hi (.p (.i k) t) none (.int k y :: cs) (y, x) :=
  ⟨[.int k y], cs, rfl, ⟨rfl, h, fun a e => (by cases e)⟩, r⟩
end
end Go.Proofs.YtkhfkccbnhjmjaaDoor.Deep
namespace Go.Proofs.YtkhfkccbnhjmjaaDoor.Deep
open Go.RowKit Go.WideShapes Go.Proofs.YtkhfkccbnhjmjaaDoor.Seq

/-- How much is measured; and how many numbers that can be. -/
def Sz : (t : T) → t.den → Nat
  | .i _, _ => 0
  | .l t, xs => xs.length + (xs.map (Sz t)).sum
  | .p a b, x => Sz a x.1 + Sz b x.2
def T.N : T → Nat
  | .i _ => 1
  | .l t => t.N
  | .p a b => a.N + b.N
section
variable {w w' : World} {lo hi : Nat} {t : T}
/-- A slice, and its elements. -/
theorem Rd.slice {pl : Option Addr} {cs : List Value} {xs : List t.den} (r : Rd w lo hi (.l t) pl cs xs) : ∃ ad n cap, cs = [.slice ad n cap] ∧ xs.length = n ∧ n ≤ cap ∧ cap ≤ maxLen ∧ (ad = none → cap = 0) ∧
    ∀ j, j < n → ∃ a x es, ad = some a ∧ xs[j]? = some x ∧ Rd w lo hi t (some (a.add (j * t.K))) es x := by
  obtain ⟨ad, n, cap, h1, h2, h3, h4, h5, _, h7⟩ := r
  refine ⟨ad, n, cap, h1, h2, h3, h4, h5, fun j hj => ?_⟩
  have hx := List.getElem?_eq_getElem (l := xs) (i := j) (by omega)
  obtain ⟨a, es, e, q⟩ := h7 j _ hx
  exact ⟨a, _, es, e, hx, q⟩
/-- Taking a field off. -/
theorem Rd.unp {s t : T} {pl : Option Addr} {cs : List Value} {x : (T.p s t).den} (r : Rd w lo hi (.p s t) pl cs x) (hs : s.K = 1) : ∃ c cs', cs = c :: cs' ∧ Rd w lo hi s pl [c] x.1 ∧ Rd w lo hi t (pl.map (·.add s.K)) cs' x.2 := by
  obtain ⟨c1, c2, e, r1, r2⟩ := r
  have hl := r1.len
  rw [hs] at hl
  obtain ⟨c, rfl⟩ := List.length_eq_one_iff.1 hl
  exact ⟨c, c2, e, r1, r2⟩
theorem Rd.uni {k : IntKind} {pl : Option Addr} {cs : List Value} {x : Int} (r : Rd w lo hi (.i k) pl cs x) : cs = [.int k x] ∧ Fits k x := ⟨r.1, r.2.1⟩
end
section
variable {w w2 : World} {g n j lo : Nat} {e : TypeId} {t : T} {xs : List t.den} {x : t.den} {ds : List Value}
end
end Go.Proofs.YtkhfkccbnhjmjaaDoor.Deep
namespace Go.Proofs.YtkhfkccbnhjmjaaDoor.Deep
open Go.ChangeShapes Go.WideShapes Go.ChangeAt Go.RowKit
open Go.Proofs.YtkhfkccbnhjmjaaDoor.Seq Go.Proofs.YtkhfkccbnhjmjaaDoor.Help Go.Proofs.YtkhfkccbnhjmjaaDoor.Shape

theorem hs_nums {w : World} {lo hi : Nat} {k : IntKind} {cs : List Value} {xs : List Int} {ws : List (Addr × IntKind)} {hs : List Addr} (o : Ow w lo hi (.l (.i k)) none cs xs ws hs) : hs = [] := by
  obtain ⟨ad, n, cap, h1, h2, h3, h4, h5, _, wss, hss, l1, l2, e1, e2, h7⟩ := o
  rw [e2]
  show hss.flatten = []
  rw [List.flatten_eq_nil_iff]
  intro q hq
  obtain ⟨j, hj⟩ := List.mem_iff_getElem?.1 hq
  have hjn := (List.getElem?_eq_some_iff.1 hj).1
  obtain ⟨a, es, w1, h1, _, _, a2, _, _, _, e, _⟩ := h7 j xs[j] (List.getElem?_eq_getElem (by omega))
  obtain rfl := Option.some.inj (hj.symm.trans a2)
  exact e
theorem sum_none {α : Type} : ∀ xs : List α, (xs.map fun _ => 0).sum = 0
  | [] => rfl
  | _ :: xs => by rw [List.map_cons, List.sum_cons, sum_none xs]
/-! the shapes of before -/
/-- A row of numbers in one block. -/
theorem row_own {w : World} {lo hi : Nat} {k : IntKind} {e : TypeId} {ad : Option Addr} {n cap : Nat} {xs : List Int} (r : Row w lo hi k e ad n cap xs) : Own w lo hi (.l (.i k)) [.slice ad n cap] xs := by
  rcases Nat.eq_zero_or_pos n with h0 | h0
  · subst h0
    obtain rfl : xs = [] := List.eq_nil_of_length_eq_zero r.len
    exact ⟨[], [], ⟨ad, 0, cap, rfl, rfl, r.le, r.big, r.sl.nil, fun a e => (by cases e), [], [], rfl, rfl, rfl, rfl, fun j x hx => by simp at hx⟩, List.nodup_nil, by simp⟩
  · obtain ⟨g, rfl, b1, b2⟩ := r.pos h0
    obtain ⟨wss, hss, o, l1, l2, hp⟩ := Ow.list (w := w) (lo := lo) (hi := hi) (t := .i k) (ad := some ⟨g, 0, none⟩) r.len r.le r.big (fun e => by cases e) (P := fun j w1 h1 => w1 = [((⟨g, 0, none⟩ : Addr).add j, k)] ∧ h1 = []) (fun j x hx => by
      refine ⟨_, [.int k x], [((⟨g, 0, none⟩ : Addr).add j, k)], [], rfl, ⟨rfl, r.fits x (List.mem_of_getElem? hx), ?_, rfl, fun a e => ?_⟩, rfl, rfl⟩
      · rw [show j * T.K (.i k) = j from Nat.mul_one j]; rfl
      · obtain rfl := Option.some.inj e
        have hj : j < n := by have := r.len; have := (List.getElem?_eq_some_iff.1 hx).1; omega
        obtain ⟨_, _, _, _, hf⟩ := r.there hj
        rw [show j * T.K (.i k) = j from Nat.mul_one j, Addr.add_lit, Nat.zero_add]
        exact ⟨b1, b2, r.cell hx, hf⟩)
    have hw : ∀ (j : Nat) (w1 : List (Addr × IntKind)), wss[j]? = some w1 → w1 = [((⟨g, 0, none⟩ : Addr).add j, k)] := fun j w1 hj => by
      have hjn := (List.getElem?_eq_some_iff.1 hj).1
      exact (hp j w1 _ hj (List.getElem?_eq_getElem (by omega))).1
    refine ⟨wss.flatten, hss.flatten, o, flat_nodup (fun j w1 hj => by rw [hw j w1 hj]; simp) fun i j w1 w2 hij hi hj z hz hz2 => ?_, fun z hz => ?_⟩
    · rw [hw i w1 hi] at hz
      rw [hw j w2 hj] at hz2
      simp at hz hz2
      have := add_inj (hz.symm.trans hz2)
      omega
    · rw [hs_nums o] at hz
      simp at hz

theorem Sz_IS (xs : List Int) : Sz tIs xs = xs.length := by
  show xs.length + (xs.map fun _ => 0).sum = xs.length
  rw [sum_none]; rfl
theorem rd_ISI {w : World} {lo hi : Nat} {v : Value} {xs : List Int} {pl : Option Addr} (r : Rd w lo hi tIs pl [v] xs) : IntSI w lo hi v xs := by
  obtain ⟨ad, n, cap, e, s⟩ := rd_sl r
  simp at e
  exact ⟨ad, n, cap, e, s⟩
end Go.Proofs.YtkhfkccbnhjmjaaDoor.Deep
namespace Go.Proofs.YtkhfkccbnhjmjaaDoor.Shape
open Go.ChangeShapes Go.WideShapes Go.ChangeAt Go.RowKit
open Go.Proofs.YtkhfkccbnhjmjaaDoor.Seq Go.Proofs.YtkhfkccbnhjmjaaDoor.Help Go.Proofs.YtkhfkccbnhjmjaaDoor.Deep

section
variable {w w' : World} {l h l' h' B : Nat} {v : Value} {x : List Int}
end
section
variable {w : World} {l h l2 h2 : Nat} {v v2 : Value}
end
end Go.Proofs.YtkhfkccbnhjmjaaDoor.Shape
namespace Go.Proofs.YtkhfkccbnhjmjaaDoor.Deep
open Go.ChangeShapes Go.WideShapes Go.ChangeAt Go.RowKit
open Go.Proofs.YtkhfkccbnhjmjaaDoor.Seq Go.Proofs.YtkhfkccbnhjmjaaDoor.Help Go.Proofs.YtkhfkccbnhjmjaaDoor.Shape

/-- A block that holds these cells. -/
structure Bx (w : World) (b : Nat) (T : TypeId) (cs : List Value) : Prop where
  obj : w.heap[b]? = some (.cells cs.toArray T (0, 0))
section
variable {w w' : World} {b n l h : Nat} {T : TypeId} {cs : List Value}
theorem Bx.new (w : World) (cs : List Value) (T : TypeId) : Bx (w.alloc (.cells cs.toArray T)) w.heap.size T cs := ⟨heap_alloc_new w _⟩
theorem Bx.cell (k : Bx w b T cs) {i : Nat} {v : Value} (hv : cs[i]? = some v) : w.cell? ⟨b, i, none⟩ = some v := by simp [World.cell?, k.obj, hv]
theorem Bx.free (k : Bx w b T cs) (i : Nat) : w.frozen? ⟨b, i, none⟩ = false := by simp [World.frozen?, k.obj]
theorem Bx.lt (k : Bx w b T cs) : b < w.heap.size := (Array.getElem?_eq_some_iff.1 k.obj).1
theorem Bx.below (k : Bx w b T cs) (hb : Below n w w') (hn : b < n) : Bx w' b T cs := ⟨(hb.block b hn).trans k.obj⟩
theorem Bx.alloc (k : Bx w b T cs) (o : Obj) : Bx (w.alloc o) b T cs := ⟨(Below.heap_alloc _ _ _ k.lt).trans k.obj⟩
theorem Bx.set (k : Bx w b T cs) (i : Nat) (u : Value) : Bx (w.setCell ⟨b, i, none⟩ u) b T (cs.set i u) := ⟨by rw [heap_setCell_same _ _ _ _ _ _ k.obj]; simp⟩
theorem Bx.drew (k : Bx w b T cs) : Bx w.drew b T cs := ⟨k.obj⟩
theorem Bx.mv (k : Bx w b T cs) (m : Mv w w' l h) (ho : b < l ∨ h ≤ b) : Bx w' b T cs := ⟨(m.block b k.lt (by omega)).trans k.obj⟩
end
section
variable {w : World} {lo hi a b c d : Nat} {s t : T} {cs1 cs2 : List Value} {x : s.den} {y : t.den} {k : IntKind}
/-- Two own values, each in an interval of its own. -/
theorem Own.pair (o1 : Own w a b s cs1 x) (o2 : Own w c d t cs2 y) (hd : b ≤ c) (h1 : lo ≤ a) (h2 : b ≤ hi) (h3 : lo ≤ c) (h4 : d ≤ hi) : Own w lo hi (.p s t) (cs1 ++ cs2) (x, y) := by
  obtain ⟨ws1, hs1, o1, n1, q1⟩ := o1
  obtain ⟨ws2, hs2, o2, n2, q2⟩ := o2
  have i1 := o1.inside
  have i2 := o2.inside
  have w1 : ∀ z ∈ ws1.map Prod.fst, a ≤ z.block ∧ z.block < b := fun z hz => by obtain ⟨p, hp, rfl⟩ := List.mem_map.1 hz; exact ⟨(i1.1 p hp).1, (i1.1 p hp).2.1⟩
  have w2 : ∀ z ∈ ws2.map Prod.fst, c ≤ z.block ∧ z.block < d := fun z hz => by obtain ⟨p, hp, rfl⟩ := List.mem_map.1 hz; exact ⟨(i2.1 p hp).1, (i2.1 p hp).2.1⟩
  refine ⟨ws1 ++ ws2, hs1 ++ hs2, ⟨cs1, cs2, ws1, ws2, hs1, hs2, rfl, rfl, rfl, o1.mono h1 h2, o2.mono h3 h4⟩, ?_, fun z hz hm => ?_⟩
  · rw [List.map_append, List.nodup_append]
    exact ⟨n1, n2, fun z hz z2 hz2 e => by subst e; have := w1 z hz; have := w2 z hz2; omega⟩
  · rw [List.map_append, List.mem_append] at hm
    rcases List.mem_append.1 hz with hz | hz <;> rcases hm with hm | hm
    · exact q1 z hz hm
    · have := i1.2 z hz; have := w2 z hm; omega
    · have := i2.2 z hz; have := w1 z hm; omega
    · exact q2 z hz hm
end
section
variable {w : World} {lo hi l2 h2 : Nat} {v v2 : Value}
end
end Go.Proofs.YtkhfkccbnhjmjaaDoor.Deep
namespace Go.Proofs.YtkhfkccbnhjmjaaDoor.Shape
open Go.RowKit
open Go.Proofs.YtkhfkccbnhjmjaaDoor.Seq Go.Proofs.YtkhfkccbnhjmjaaDoor.Help
section
variable {w : World} {l h : Nat} {v : Value} {g0 : Int} {g1 : List (List Int)}
end
end Go.Proofs.YtkhfkccbnhjmjaaDoor.Shape
namespace Go.Proofs.YtkhfkccbnhjmjaaDoor.Deep
open Go.ChangeShapes Go.WideShapes Go.ChangeAt Go.RowKit
open Go.Proofs.YtkhfkccbnhjmjaaDoor.Drawn Go.Proofs.YtkhfkccbnhjmjaaDoor.Seq Go.Proofs.YtkhfkccbnhjmjaaDoor.Help Go.Proofs.YtkhfkccbnhjmjaaDoor.Shape
abbrev tPkt : T := .p tI (.p tIs tIs)
end Go.Proofs.YtkhfkccbnhjmjaaDoor.Deep
namespace Go.Proofs.YtkhfkccbnhjmjaaDoor.Shape
open Go.ChangeShapes Go.WideShapes Go.ChangeAt Go.RowKit
open Go.Proofs.YtkhfkccbnhjmjaaDoor.Seq Go.Proofs.YtkhfkccbnhjmjaaDoor.Help Go.Proofs.YtkhfkccbnhjmjaaDoor.Deep
def CodedPacketI (w : World) (l h : Nat) (v : Value) (x : (tPkt).den) : Prop := ∃ c0 c1 c2, v = .agg #[c0, c1, c2] ∧ Rd w l h tPkt none [c0, c1, c2] x
def CodedPacketO (w : World) (l h : Nat) (v : Value) (x : (tPkt).den) : Prop := ∃ c0 c1 c2, v = .agg #[c0, c1, c2] ∧ Own w l h tPkt [c0, c1, c2] x
def CodedPacketF (x : (tPkt).den) : Prop := Sz tPkt x ≤ 1048576
section
variable {w w' : World} {l h l' h' B : Nat} {v : Value} {x : (tPkt).den}
theorem CodedPacketO_is (s : CodedPacketO w l h v x) : CodedPacketI w l h v x := by obtain ⟨_, _, _, rfl, s⟩ := s; exact ⟨_, _, _, rfl, Own.rd s⟩
theorem CodedPacketI_mv (s : CodedPacketI w l h v x) (m : Mv w w' l' h') (hd : h ≤ l' ∨ h' ≤ l) : CodedPacketI w' l h v x := by obtain ⟨_, _, _, rfl, s⟩ := s; exact ⟨_, _, _, rfl, Rd.mv s m hd⟩
theorem CodedPacketI_below (s : CodedPacketI w l h v x) (m : Below B w w') (hB : h ≤ B ∨ w.heap.size ≤ B) : CodedPacketI w' l h v x := by obtain ⟨_, _, _, rfl, s⟩ := s; exact ⟨_, _, _, rfl, Rd.below s m hB⟩
theorem CodedPacketI_cells {g0 : Int} {g1 : (tIs).den} {g2 : (tIs).den} (s : CodedPacketI w l h v (g0, g1, g2)) : ∃ (ad1 : Option Addr) (n1 cap1 : Nat) (ad2 : Option Addr) (n2 cap2 : Nat), v = .agg #[.int .i64 g0, .slice ad1 n1 cap1, .slice ad2 n2 cap2] ∧ (-9223372036854775808 ≤ g0 ∧ g0 ≤ 9223372036854775807) ∧ CodedPacketI w l h (.agg #[.int .i64 g0, .slice ad1 n1 cap1, .slice ad2 n2 cap2]) (g0, g1, g2) := by
  have s0 := s
  obtain ⟨c0, c1, c2, e, s⟩ := s
  obtain ⟨d0, es0, ee0, ra0, r1⟩ := s.unp rfl
  obtain ⟨rfl, rfl⟩ := List.cons.inj ee0
  obtain ⟨d1, es1, ee1, ra1, r2⟩ := r1.unp rfl
  obtain ⟨rfl, rfl⟩ := List.cons.inj ee1
  obtain ⟨ec0, fi0⟩ := ra0.uni
  simp at ec0
  subst ec0
  obtain ⟨ad1, n1, cap1, ec1, _⟩ := ra1.slice
  simp at ec1
  subst ec1
  obtain ⟨ad2, n2, cap2, ec2, _⟩ := r2.slice
  simp at ec2
  subst ec2
  subst e
  exact ⟨_, _, _, _, _, _, rfl, fits_i64.1 fi0, s0⟩
theorem CodedPacketO_cells {g0 : Int} {g1 : (tIs).den} {g2 : (tIs).den} (s : CodedPacketO w l h v (g0, g1, g2)) : ∃ (ad1 : Option Addr) (n1 cap1 : Nat) (ad2 : Option Addr) (n2 cap2 : Nat), v = .agg #[.int .i64 g0, .slice ad1 n1 cap1, .slice ad2 n2 cap2] ∧ (-9223372036854775808 ≤ g0 ∧ g0 ≤ 9223372036854775807) ∧ CodedPacketO w l h (.agg #[.int .i64 g0, .slice ad1 n1 cap1, .slice ad2 n2 cap2]) (g0, g1, g2) := by
  have s0 := s
  obtain ⟨c0, c1, c2, e, s⟩ := s
  replace s := Own.rd s
  obtain ⟨d0, es0, ee0, ra0, r1⟩ := s.unp rfl
  obtain ⟨rfl, rfl⟩ := List.cons.inj ee0
  obtain ⟨d1, es1, ee1, ra1, r2⟩ := r1.unp rfl
  obtain ⟨rfl, rfl⟩ := List.cons.inj ee1
  obtain ⟨ec0, fi0⟩ := ra0.uni
  simp at ec0
  subst ec0
  obtain ⟨ad1, n1, cap1, ec1, _⟩ := ra1.slice
  simp at ec1
  subst ec1
  obtain ⟨ad2, n2, cap2, ec2, _⟩ := r2.slice
  simp at ec2
  subst ec2
  subst e
  exact ⟨_, _, _, _, _, _, rfl, fits_i64.1 fi0, s0⟩
end
section
variable {w : World} {l h l2 h2 : Nat} {v v2 : Value}
end
def CodedPacketSI (w : World) (l h : Nat) (v : Value) (xs : (T.l tPkt).den) : Prop := Rd w l h (.l tPkt) none [v] xs
def CodedPacketSF (xs : (T.l tPkt).den) : Prop := Sz (.l tPkt) xs ≤ 1048576
section
variable {w w' : World} {l h l' h' B : Nat} {v : Value} {x : (T.l tPkt).den}
theorem CodedPacketSI_mv (s : CodedPacketSI w l h v x) (m : Mv w w' l' h') (hd : h ≤ l' ∨ h' ≤ l) : CodedPacketSI w' l h v x := Rd.mv s m hd
theorem CodedPacketSI_below (s : CodedPacketSI w l h v x) (m : Below B w w') (hB : h ≤ B ∨ w.heap.size ≤ B) : CodedPacketSI w' l h v x := Rd.below s m hB
end
section
variable {w : World} {l h l2 h2 : Nat} {v v2 : Value}
end
end Go.Proofs.YtkhfkccbnhjmjaaDoor.Shape
