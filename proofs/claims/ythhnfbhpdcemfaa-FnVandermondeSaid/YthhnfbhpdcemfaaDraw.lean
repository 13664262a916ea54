/-
  The cursor that the drawn inputs are read with: each step returns a number of its range and changes the cursor's own block alone.
-/
import Derived.Test.YthhnfbhpdcemfaaChecked
import Derived.Test.YthhnfbhpdcemfaaKit
import Derived.Test.YthhnfbhpdcemfaaBits
import Derived.WalkKit
import Derived.ProofKit
import Derived.OpenShut
import Derived.Below
import Derived.BigCall
import Derived.BigGuard
import Derived.OneCell
import Derived.Outline
import Derived.Lib.Hide
import Derived.RegionTactic
import Derived.Deep.QuietTactic
import Derived.BigQuiet
namespace Go.Proofs.Ythhnfbhpdcemfaa.Draw
open Go.ChangeShapes Go.WideShapes Go.ChangeAt Go.RowKit
open Go.Proofs.Ythhnfbhpdcemfaa.Kit

/-- The cursor's block: the code's slice, how many bytes are read, the mixed number. -/
structure Cur (w : World) (B : Nat) (ad : Option Addr) (n cap : Nat) : Prop where
  len : n ≤ 1048576
  own : ∃ (i : Nat) (h : Int), i ≤ n ∧ -9223372036854775808 ≤ h ∧ h ≤ 9223372036854775807 ∧ w.heap[B]? = some (.cells #[.slice ad n cap, .int .i64 i, .int .i64 h] 64 (0, 0))
  code : ∀ j, j < n → ∃ (a : Addr) (x : Int), ad = some a ∧ a.block < B ∧ 0 ≤ x ∧ x ≤ 255 ∧ w.cell? (a.add j) = some (.int .u8 x)

/-- What the walk reads of a cursor. -/
structure Reads (w : World) (B : Nat) (ad : Option Addr) (n cap : Nat) (i h : Int) : Prop where
  c0 : w.cell? ⟨B, 0, none⟩ = some (.slice ad n cap)
  c1 : w.cell? ⟨B, 1, none⟩ = some (.int .i64 i)
  c2 : w.cell? ⟨B, 2, none⟩ = some (.int .i64 h)
  f0 : w.frozen? ⟨B, 0, none⟩ = false
  f1 : w.frozen? ⟨B, 1, none⟩ = false
  f2 : w.frozen? ⟨B, 2, none⟩ = false

abbrev curT : TypeId := 64
theorem reads {w : World} {B : Nat} {ad : Option Addr} {n cap : Nat} {i h : Int} (hB : w.heap[B]? = some (.cells #[.slice ad n cap, .int .i64 i, .int .i64 h] curT (0, 0))) : Reads w B ad n cap i h :=
  ⟨by simp [World.cell?, hB], by simp [World.cell?, hB], by simp [World.cell?, hB], by simp [World.frozen?, hB], by simp [World.frozen?, hB], by simp [World.frozen?, hB]⟩
theorem set_h {w : World} {B : Nat} {ad : Option Addr} {n cap : Nat} {i h z : Int} (hB : w.heap[B]? = some (.cells #[.slice ad n cap, .int .i64 i, .int .i64 h] curT (0, 0))) :
    (w.setCell ⟨B, 2, none⟩ (.int .i64 z)).heap[B]? = some (.cells #[.slice ad n cap, .int .i64 i, .int .i64 z] curT (0, 0)) := by
  rw [heap_setCell_same _ _ _ _ _ _ hB]; rfl
theorem set_i {w : World} {B : Nat} {ad : Option Addr} {n cap : Nat} {i h z : Int} (hB : w.heap[B]? = some (.cells #[.slice ad n cap, .int .i64 i, .int .i64 h] curT (0, 0))) :
    (w.setCell ⟨B, 1, none⟩ (.int .i64 z)).heap[B]? = some (.cells #[.slice ad n cap, .int .i64 z, .int .i64 h] curT (0, 0)) := by
  rw [heap_setCell_same _ _ _ _ _ _ hB]; rfl

theorem add_block (a : Addr) (j : Nat) : (a.add j).block = a.block := by
  unfold Addr.add; split <;> rfl

/-- A number of a range is drawn. -/
def Num (lo hi : Int) (B : Nat) (ad : Option Addr) (n cap : Nat) (w : World) (e : Ending) (w' : World) : Prop :=
  ∃ x : Int, e = .returned (.int .i64 x) ∧ lo ≤ x ∧ x ≤ hi ∧ Cur w' B ad n cap ∧ Moved B w w'

theorem moved_tail (W1 : World) (B : Nat) (k : Nat) (v : Value) : Moved B W1 ((W1.setCell ⟨B, 1, none⟩ v).drewN k) :=
  ((Moved.refl B W1).setCell rfl _).trans ⟨rfl, rfl, rfl, Nat.le_refl _, fun _ _ _ => rfl⟩

theorem byte (w : World) (B : Nat) (ad : Option Addr) (n cap : Nat) (hc : Cur w B ad n cap) :
    Calls Try.prog 74 #[.pointer (some ⟨B, 0, none⟩)] w (Num 0 255 B ad n cap w) := by
  obtain ⟨hn, ⟨i, h, hi, h1, h2, hB⟩, hcode⟩ := hc
  obtain ⟨c0, c1, c2, f0, f1, f2⟩ := reads hB
  have HB := Lib.hid hB
  have HC := Lib.hid hcode
  clear hB hcode
  by_cases hlt : i < n
  · go_enter Try.func74, Try.ntmps74
    go_wp2
    go_quiet (fail)
    generalize hz : wrap64 (wrap64 (h * 6364136223846793005) + 1442695040888963407) = z
    generalize hx : bits .and .i64 (bits .xor .i64 (z / 8589934592) (z / 140737488355328)) 255 = x
    have hx1 : 0 ≤ x ∧ x ≤ 255 := by rw [← hx]; exact Bits.and_range _ 255 (by decide)
    have hz1 : -9223372036854775808 ≤ z ∧ z ≤ 9223372036854775807 := by rw [← hz]; exact Bits.wrap_range _
    obtain ⟨hx1, hx2⟩ := hx1
    obtain ⟨hz1, hz2⟩ := hz1
    clear hx hz
    go_wp2
    obtain ⟨W1, hW1⟩ : ∃ W1, W1 = (w.setCell ⟨B, 2, none⟩ (.int .i64 z)).drewN nq := ⟨_, rfl⟩
    have hB1 : W1.heap[B]? = some (.cells #[.slice ad n cap, .int .i64 i, .int .i64 z] curT (0, 0)) := by rw [hW1]; exact set_h HB.out
    have hM1 : Moved B w W1 := by rw [hW1]; exact ((Moved.refl B w).setCell rfl _).trans ⟨rfl, rfl, rfl, Nat.le_refl _, fun _ _ _ => rfl⟩
    rw [← hW1]
    clear hW1 c0 c1 c2 f0 f1 f2
    obtain ⟨c0, c1, c2, f0, f1, f2⟩ := reads hB1
    have HB1 := Lib.hid hB1
    have HM1 := Lib.hid hM1
    clear hB1 hM1
    obtain ⟨a, y, rfl, hab, hy1, hy2, hy⟩ := HC.out i hlt
    have hy' : W1.cell? (a.add i) = some (.int .u8 y) := HM1.out.cell hy (by rw [add_block]; exact Nat.ne_of_lt hab)
    clear hy
    go_quiet (fail)
    go_wp2
    go_quiet (fail)
    generalize hv : bits .and .i64 _ 255 = v
    have hv1 : 0 ≤ v ∧ v ≤ 255 := by rw [← hv]; exact Bits.and_range _ 255 (by decide)
    obtain ⟨hv1, hv2⟩ := hv1
    clear hv
    go_wp2
    go_ret
    exact ⟨v, rfl, hv1, hv2, ⟨hn, ⟨i + 1, z, by omega, hz1, hz2, set_i HB1.out⟩, fun j hj => by
      obtain ⟨a', y', e, h1, h2, h3, h4⟩ := HC.out j hj
      exact ⟨a', y', e, h1, h2, h3, (HM1.out.trans (moved_tail W1 B _ _)).cell h4 (by rw [add_block]; exact Nat.ne_of_lt h1)⟩⟩, HM1.out.trans (moved_tail W1 B _ _)⟩
  · go_enter Try.func74, Try.ntmps74
    go_wp2
    go_quiet (fail)
    generalize hz : wrap64 (wrap64 (h * 6364136223846793005) + 1442695040888963407) = z
    generalize hx : bits .and .i64 (bits .xor .i64 (z / 8589934592) (z / 140737488355328)) 255 = x
    have hx1 : 0 ≤ x ∧ x ≤ 255 := by rw [← hx]; exact Bits.and_range _ 255 (by decide)
    have hz1 : -9223372036854775808 ≤ z ∧ z ≤ 9223372036854775807 := by rw [← hz]; exact Bits.wrap_range _
    obtain ⟨hx1, hx2⟩ := hx1
    obtain ⟨hz1, hz2⟩ := hz1
    clear hx hz
    go_wp2
    obtain ⟨W1, hW1⟩ : ∃ W1, W1 = (w.setCell ⟨B, 2, none⟩ (.int .i64 z)).drewN nq := ⟨_, rfl⟩
    have hB1 : W1.heap[B]? = some (.cells #[.slice ad n cap, .int .i64 i, .int .i64 z] curT (0, 0)) := by rw [hW1]; exact set_h HB.out
    have hM1 : Moved B w W1 := by rw [hW1]; exact ((Moved.refl B w).setCell rfl _).trans ⟨rfl, rfl, rfl, Nat.le_refl _, fun _ _ _ => rfl⟩
    rw [← hW1]
    clear hW1 c0 c1 c2 f0 f1 f2
    obtain ⟨c0, c1, c2, f0, f1, f2⟩ := reads hB1
    have HB1 := Lib.hid hB1
    have HM1 := Lib.hid hM1
    clear hB1 hM1
    go_quiet (fail)
    go_wp2
    go_ret
    exact ⟨x, rfl, hx1, hx2, ⟨hn, ⟨i, z, hi, hz1, hz2, HB1.out⟩, fun j hj => by
      obtain ⟨a', y', e, h1, h2, h3, h4⟩ := HC.out j hj
      exact ⟨a', y', e, h1, h2, h3, HM1.out.cell h4 (by rw [add_block]; exact Nat.ne_of_lt h1)⟩⟩, HM1.out.trans ⟨rfl, rfl, rfl, Nat.le_refl _, fun _ _ _ => rfl⟩⟩

theorem Cur.alloc {w : World} {B : Nat} {ad : Option Addr} {n cap : Nat} (h : Cur w B ad n cap) (o : Obj) : Cur (w.alloc o) B ad n cap := by
  obtain ⟨hn, ⟨i, z, h1, h2, h3, hB⟩, hcode⟩ := h
  have hlt : B < w.heap.size := lt_of_block hB
  refine ⟨hn, ⟨i, z, h1, h2, h3, (Below.heap_alloc w o B hlt).trans hB⟩, fun j hj => ?_⟩
  obtain ⟨a, x, e1, e2, e3, e4, e5⟩ := hcode j hj
  exact ⟨a, x, e1, e2, e3, e4, ((Moved.refl B w).alloc o).cell e5 (by rw [add_block]; exact Nat.ne_of_lt e2)⟩

theorem Num.mono {lo hi lo' hi' : Int} {B : Nat} {ad : Option Addr} {n cap : Nat} {w : World} {e : Ending} {w' : World} (h : Num lo hi B ad n cap w e w') (h1 : lo' ≤ lo) (h2 : hi ≤ hi') : Num lo' hi' B ad n cap w e w' := by
  obtain ⟨x, e, a, b, c, d⟩ := h
  exact ⟨x, e, by omega, by omega, c, d⟩

/-- A byte is drawn; 'w0': where the account of what has changed begins. -/
theorem byte_from (w0 w : World) (B : Nat) (ad : Option Addr) (n cap : Nat) (hm : Moved B w0 w) (hc : Cur w B ad n cap) :
    Calls Try.prog 74 #[.pointer (some ⟨B, 0, none⟩)] w (Num 0 255 B ad n cap w0) :=
  (byte w B ad n cap hc).mono fun _ _ ⟨x, e, a, b, c, d⟩ => ⟨x, e, a, b, c, hm.trans d⟩

theorem num_mod {w0 w : World} {B : Nat} {ad : Option Addr} {n cap : Nat} {y m : Int} (h : 1 ≤ m) (hc : Cur w B ad n cap) (hm : Moved B w0 w) : Num 0 (m - 1) B ad n cap w0 (.returned (.int .i64 (y % m))) w := by
  have h1 := Int.emod_lt_of_pos y (show 0 < m by omega)
  exact ⟨_, rfl, Int.emod_nonneg y (by omega), by omega, hc, hm⟩

theorem below (w0 w : World) (B : Nat) (ad : Option Addr) (n cap : Nat) (m : Int) (h1 : 1 ≤ m) (h2 : m ≤ 9223372036854775807) (hm : Moved B w0 w) (hc : Cur w B ad n cap) :
    Calls Try.prog 47 #[.pointer (some ⟨B, 0, none⟩), .int .i64 m] w (Num 0 (m - 1) B ad n cap w0) := by
  by_cases hs : m ≤ 256
  all_goals
    go_enter Try.func47, Try.ntmps47
    go_wp2_with (go_at_call 74; refine (byte_from w0 _ _ _ _ _ (by assumption) (by assumption)).mono ?_; rintro e w' ⟨x, rfl, hx1, hx2, hc', hm'⟩)
    go_ret
    exact num_mod h1 (by assumption) (by assumption)

/-- A truth value is drawn. -/
def Flag (B : Nat) (ad : Option Addr) (n cap : Nat) (w : World) (e : Ending) (w' : World) : Prop :=
  ∃ b : Bool, e = .returned (.bool b) ∧ Cur w' B ad n cap ∧ Moved B w w'
/-- A text is drawn. -/
def Text (M : Nat) (B : Nat) (ad : Option Addr) (n cap : Nat) (w : World) (e : Ending) (w' : World) : Prop :=
  ∃ s : ByteArray, e = .returned (.string s) ∧ s.size ≤ M ∧ Cur w' B ad n cap ∧ Moved B w w'

theorem once (w0 w : World) (B : Nat) (ad : Option Addr) (n cap : Nat) (m : Int) (h1 : 1 ≤ m) (h2 : m ≤ 9223372036854775807) (hm : Moved B w0 w) (hc : Cur w B ad n cap) :
    Calls Try.prog 49 #[.pointer (some ⟨B, 0, none⟩), .int .i64 m] w (Flag B ad n cap w0) := by
  go_enter Try.func49, Try.ntmps49
  go_wp2_with (go_at_call 47; refine (below w0 _ _ _ _ _ _ h1 h2 (by assumption) (by assumption)).mono ?_; rintro e w' ⟨x, rfl, hx1, hx2, hc', hm'⟩)
  go_ret
  exact ⟨_, rfl, hc', hm'⟩

/-- One of a list of numbers is drawn; the list lies in a block of its own. -/
theorem oneof (w0 w : World) (B : Nat) (ad : Option Addr) (n cap : Nat) (b m c : Nat) (lo hi : Int) (h1 : 1 ≤ m) (h2 : m ≤ 1000) (hb : b ≠ B) (hm : Moved B w0 w) (hc : Cur w B ad n cap)
    (hl : ∀ j : Nat, j < m → ∃ x : Int, lo ≤ x ∧ x ≤ hi ∧ w.cell? ⟨b, j, none⟩ = some (.int .i64 x)) :
    Calls Try.prog 91 #[.pointer (some ⟨B, 0, none⟩), .slice (some ⟨b, 0, none⟩) m c] w (Num lo hi B ad n cap w0) := by
  have HL := Lib.hid hl
  clear hl
  have hk := fun (w1 : World) => below w w1 B ad n cap (m : Int) (by omega) (by omega)
  have hs := Moved.refl B w
  go_enter Try.func91, Try.ntmps91
  go_wp2_with fail
  go_at_call 47
  refine (hk _ (by assumption) (by assumption)).mono ?_
  rintro e w' ⟨x, rfl, hx1, hx2, hc', hm'⟩
  obtain ⟨i, rfl⟩ : ∃ i : Nat, x = i := ⟨x.toNat, by omega⟩
  obtain ⟨y, hy1, hy2, hy3⟩ := HL.out i (by omega)
  have hy4 : w'.cell? ⟨b, i, none⟩ = some (.int .i64 y) := hm'.cell hy3 hb
  clear hy3
  go_wp2_with fail
  go_ret
  exact ⟨_, rfl, hy1, hy2, hc', hm.trans hm'⟩


/-- The cells of a literal list of numbers. -/
theorem list_cells (w : World) (cs : Array Value) (T : TypeId) (lo hi : Int) (m : Nat) (hall : (cs.toList.all fun v => match v with | .int .i64 x => decide (lo ≤ x) && decide (x ≤ hi) | _ => false) = true) (hm : cs.size = m) :
    ∀ j : Nat, j < m → ∃ x : Int, lo ≤ x ∧ x ≤ hi ∧ (w.alloc (.cells cs T)).cell? ⟨w.heap.size, j, none⟩ = some (.int .i64 x) := by
  intro j hj
  have hj' : j < cs.size := by omega
  have hx := List.all_eq_true.1 hall cs[j] (by simp)
  rw [World.cell?_alloc_new, Array.getElem?_eq_getElem hj']
  split at hx
  · rename_i x hv
    have : lo ≤ x ∧ x ≤ hi := by simpa using hx
    exact ⟨x, this.1, this.2, by rw [hv]⟩
  · cases hx
theorem text_cells (w : World) (cs : Array Value) (T : TypeId) (M : Nat) (m : Nat) (hall : (cs.toList.all fun v => match v with | .string s => decide (s.size ≤ M) | _ => false) = true) (hm : cs.size = m) :
    ∀ j : Nat, j < m → ∃ s : ByteArray, s.size ≤ M ∧ (w.alloc (.cells cs T)).cell? ⟨w.heap.size, j, none⟩ = some (.string s) := by
  intro j hj
  have hj' : j < cs.size := by omega
  have hx := List.all_eq_true.1 hall cs[j] (by simp)
  rw [World.cell?_alloc_new, Array.getElem?_eq_getElem hj']
  split at hx
  · rename_i s hv
    have : s.size ≤ M := by simpa using hx
    exact ⟨s, this, by rw [hv]⟩
  · cases hx
theorem Cur.ne {w : World} {B : Nat} {ad : Option Addr} {n cap : Nat} (h : Cur w B ad n cap) : w.heap.size ≠ B := by
  obtain ⟨_, ⟨i, z, _, _, _, hB⟩, _⟩ := h
  have := lt_of_block hB
  omega

abbrev lo64 : Int := -9223372036854775808
abbrev hi64 : Int := 9223372036854775807

end Go.Proofs.Ythhnfbhpdcemfaa.Draw
