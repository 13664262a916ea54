/-
  The drawn inputs of the first layer: texts and integers.
-/
import Derived.Test.YthhnfbhpdcemfaaDraw
import Derived.BigGuard
namespace Go.Proofs.Ythhnfbhpdcemfaa.DrawInt
open Go.ChangeShapes Go.WideShapes Go.ChangeAt Go.RowKit
open Go.Proofs.Ythhnfbhpdcemfaa.Kit Go.Proofs.Ythhnfbhpdcemfaa.Draw

/-- A slice of bytes that reads in a world. -/
structure BytesAt (w : World) (v : Value) (ad : Option Addr) (n cap : Nat) : Prop where
  val : v = .slice ad n cap
  len : n ≤ maxLen
  code : ∀ j, j < n → ∃ (a : Addr) (x : Int), ad = some a ∧ 0 ≤ x ∧ x ≤ 255 ∧ w.cell? (a.add j) = some (.int .u8 x)

theorem BytesAt.below {w w' : World} {v : Value} {ad : Option Addr} {n cap : Nat} (h : BytesAt w v ad n cap) (hb : Below w.heap.size w w') : BytesAt w' v ad n cap :=
  ⟨h.val, h.len, fun j hj => by
    obtain ⟨a, x, e, e1, e2, e3⟩ := h.code j hj
    exact ⟨a, x, e, e1, e2, (hb.cell (World.block_lt_of_cell? w _ e3)).trans e3⟩⟩

/-- A new cursor. -/
def Made (ad : Option Addr) (n cap : Nat) (w : World) (e : Ending) (w' : World) : Prop :=
  ∃ B : Nat, e = .returned (.pointer (some ⟨B, 0, none⟩)) ∧ w.heap.size ≤ B ∧ Cur w' B ad n cap ∧ Below w.heap.size w w'

theorem made (w : World) (ad : Option Addr) (n cap : Nat) (z : Int) (hn : n ≤ 1048576) (h1 : -9223372036854775808 ≤ z) (h2 : z ≤ 9223372036854775807)
    (hcode : ∀ j, j < n → ∃ (a : Addr) (x : Int), ad = some a ∧ 0 ≤ x ∧ x ≤ 255 ∧ w.cell? (a.add j) = some (.int .u8 x)) :
    Made ad n cap w (.returned (.pointer (some ⟨w.heap.size, 0, none⟩))) (w.alloc (.cells #[.slice ad n cap, .int .i64 0, .int .i64 z] curT (0, 0))) :=
  ⟨_, rfl, Nat.le_refl _, ⟨hn, ⟨0, z, Nat.zero_le _, h1, h2, heap_alloc_new w _⟩, fun j hj => by
    obtain ⟨a, x, e, e1, e2, e3⟩ := hcode j hj
    have hlt := World.block_lt_of_cell? w _ e3
    rw [add_block] at hlt
    exact ⟨a, x, e, by omega, e1, e2, (((Below.refl _ w).alloc (Nat.le_refl _) _).cell (by rw [add_block]; exact hlt)).trans e3⟩⟩, (Below.refl _ _).alloc (Nat.le_refl _) _⟩


set_option maxRecDepth 100000 in
theorem new (w : World) (v : Value) (ad : Option Addr) (n cap : Nat) (hn : n ≤ 1048576) (hv : BytesAt w v ad n cap) :
    Calls Try.prog 46 #[v] w (Made ad n cap w) := by
  obtain ⟨rfl, hml, hcode⟩ := hv
  have HC := Lib.hid hcode
  clear hcode hml
  go_enter Try.func46, Try.ntmps46
  go_wp2
  go_loop [3, 4] (fun h i => ∃ (k : Nat) (z : Int), k ≤ n ∧ i = .int .i64 k ∧ 0 ≤ z ∧ z ≤ 1073741823 ∧ h = .int .i64 z) (fun _ i => n - (intOf i).toNat)
  case atStart => exact ⟨0, _, Nat.zero_le _, rfl, by omega, by omega, rfl⟩
  case round =>
    obtain ⟨k, z, hk, rfl, hz1, hz2, rfl⟩ := hrel
    by_cases hlt : k < n
    · by_cases h4 : k < 4000
      · obtain ⟨a, x, rfl, hx1, hx2, hx⟩ := HC.out k hlt
        go_wp2
        generalize hy : bits .and .i64 _ 1073741823 = y
        have hy1 : 0 ≤ y ∧ y ≤ 1073741823 := by rw [← hy]; exact Bits.and_range _ 1073741823 (by decide)
        obtain ⟨hy1, hy2⟩ := hy1
        clear hy
        go_round
        case rel => exact ⟨k + 1, y, by omega, by go_num, hy1, hy2, rfl⟩
        case measure => simp [intOf]; omega
      · go_wp2
        go_ret
        exact made w ad n cap z hn (by omega) (by omega) HC.out
    · go_wp2
      go_ret
      exact made w ad n cap z hn (by omega) (by omega) HC.out




/-- An int, and new memory alone. -/
def AnInt (w : World) (e : Ending) (w' : World) : Prop := ∃ x : Int, e = .returned (.int .i64 x) ∧ lo64 ≤ x ∧ x ≤ hi64 ∧ Below w.heap.size w w'
/-- Two ints. -/
def TwoInts (w : World) (e : Ending) (w' : World) : Prop := ∃ x y : Int, e = .returned (.tuple #[.int .i64 x, .int .i64 y]) ∧ lo64 ≤ x ∧ x ≤ hi64 ∧ lo64 ≤ y ∧ y ≤ hi64 ∧ Below w.heap.size w w'
/-- A short text. -/
def AText (w : World) (e : Ending) (w' : World) : Prop := ∃ s : ByteArray, e = .returned (.string s) ∧ s.size ≤ 100 ∧ Below w.heap.size w w'



end Go.Proofs.Ythhnfbhpdcemfaa.DrawInt
