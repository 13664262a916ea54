/-
  Drawn inputs that are slices.
-/
import Derived.Test.YthhnfbhpdcemfaaDrawInt
import Derived.Test.YthhnfbhpdcemfaaHelp
namespace Go.Proofs.Ythhnfbhpdcemfaa.DrawSl
open Go.ChangeShapes Go.WideShapes Go.ChangeAt Go.RowKit
open Go.Proofs.Ythhnfbhpdcemfaa.Kit Go.Proofs.Ythhnfbhpdcemfaa.Draw Go.Proofs.Ythhnfbhpdcemfaa.DrawInt Go.Proofs.Ythhnfbhpdcemfaa.Seq Go.Proofs.Ythhnfbhpdcemfaa.Help

theorem mv_of {B : Nat} {w w' : World} (h : Moved B w w') : Mv w w' B (B + 1) := ⟨h.os, h.tape, h.output, h.size, fun k hk ho => h.block k hk (by omega)⟩
theorem moved_of {B : Nat} {w w' : World} {l h : Nat} (m : Mv w w' l h) (hl : w.heap.size ≤ l) : Moved B w w' := ⟨m.os, m.tape, m.output, m.size, fun k hk _ => m.block k hk (by omega)⟩
theorem moved_below {B : Nat} {w w' : World} (m : Below w.heap.size w w') : Moved B w w' := Moved.of_below m
/-- What has moved since 'w0', where the own rows begin at 'l'. -/
theorem moved_mv {B : Nat} {w0 w w' : World} {l h : Nat} (a : Moved B w0 w) (m : Mv w w' l h) (hl : w0.heap.size ≤ l) : Moved B w0 w' :=
  ⟨m.os.trans a.os, m.tape.trans a.tape, m.output.trans a.output, Nat.le_trans a.size m.size, fun k hk hB => (m.block k (Nat.lt_of_lt_of_le hk a.size) (by omega)).trans (a.block k hk hB)⟩
theorem Cur.lt {w : World} {B : Nat} {ad : Option Addr} {n cap : Nat} (c : Cur w B ad n cap) : B < w.heap.size := by
  obtain ⟨_, ⟨i, z, _, _, _, hB⟩, _⟩ := c
  exact lt_of_block hB
theorem Cur.mv {w w' : World} {B : Nat} {ad : Option Addr} {n cap l h : Nat} (c : Cur w B ad n cap) (m : Mv w w' l h) (hl : B < l) : Cur w' B ad n cap := by
  have hlt := Cur.lt c
  obtain ⟨hn, ⟨i, z, h1, h2, h3, hB⟩, hcode⟩ := c
  refine ⟨hn, ⟨i, z, h1, h2, h3, (m.block B hlt (.inl hl)).trans hB⟩, fun j hj => ?_⟩
  obtain ⟨a, x, e1, e2, e3, e4, e5⟩ := hcode j hj
  exact ⟨a, x, e1, e2, e3, e4, (World.cell?_of_block (m.block _ (World.block_lt_of_cell? w _ e5) (.inl (by rw [Draw.add_block]; omega)))).trans e5⟩
theorem Cur.below {w w' : World} {B : Nat} {ad : Option Addr} {n cap : Nat} (c : Cur w B ad n cap) (m : Below w.heap.size w w') : Cur w' B ad n cap :=
  Cur.mv c (l := w.heap.size) (h := w.heap.size) (Mv.of_below m (Nat.le_refl _)) (Cur.lt c)

/-- A slice of so many drawn numbers, its block one of those from l on. -/
def Drawn (l : Nat) (m : Nat) (B : Nat) (ad : Option Addr) (n cap : Nat) (w : World) (e : Ending) (w' : World) : Prop :=
  ∃ (ad' : Option Addr) (cap' : Nat) (ys : List Int), e = .returned (.slice ad' m cap') ∧ Row w' l w'.heap.size .u8 5 ad' m cap' ys ∧ Cur w' B ad n cap ∧ Moved B w w'


/-- A short slice of bytes and a number. -/
def BytesInt (w : World) (e : Ending) (w' : World) : Prop :=
  ∃ (ad : Option Addr) (m cap : Nat) (ys : List Int) (x : Int), e = .returned (.tuple #[.slice ad m cap, .int .i64 x]) ∧ m ≤ 100 ∧ lo64 ≤ x ∧ x ≤ hi64 ∧ Row w' w.heap.size w'.heap.size .u8 5 ad m cap ys ∧ Below w.heap.size w w'
/-- Two short slices of bytes. -/
def BytesBytes (w : World) (e : Ending) (w' : World) : Prop :=
  ∃ (ad : Option Addr) (m cap : Nat) (ys : List Int) (ad2 : Option Addr) (m2 cap2 : Nat) (zs : List Int), e = .returned (.tuple #[.slice ad m cap, .slice ad2 m2 cap2]) ∧ m ≤ 100 ∧ m2 ≤ 100 ∧
    Row w' w.heap.size w'.heap.size .u8 5 ad m cap ys ∧ Row w' w.heap.size w'.heap.size .u8 5 ad2 m2 cap2 zs ∧ Below w.heap.size w w'


end Go.Proofs.Ythhnfbhpdcemfaa.DrawSl
