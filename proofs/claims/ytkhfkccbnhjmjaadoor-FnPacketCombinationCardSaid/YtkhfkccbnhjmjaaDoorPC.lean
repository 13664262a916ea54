/-
  The exact laws' own helpers: a copy, a comparison, marking, and asking for the stamps.
  The cursor that the drawn inputs are read with: each step returns a number of its range and changes the cursor's own block alone.
  The field and the group, of the program and of the model: what they answer.
  The exact laws' own helpers over slices of slices: a copy, a comparison, marking, asking for the stamps, measuring.
  Vectors, of the model: what its functions answer.
  Combinations of vectors, of the model: what Combine answers.
  Equality of lists, of the program, of the library and of the model: what they answer.
  What the laws on vectors ask of the program's functions, as one structure: it is proved of the landed code apart.
  AppendUvarint, of the program and of the model: what they answer.
  ReadUvarint, of the program and of the model: what they answer.
  AppendBytes, ReadBytes, EncodeInts, DecodeInts, of the program and of the model: what they answer.
  Hash, KeyedHash, BytesToInts, DeriveFromString, of the program and of the model: what they answer.
-/
import Derived.Test.YtkhfkccbnhjmjaaDoorChecked
import Derived.Test.YtkhfkccbnhjmjaaDoorPA
import Derived.BigCall
import Derived.BigGuard
import Derived.Outline
import Derived.RegionTactic
import Derived.Deep.QuietTactic
import Derived.BigQuiet
import Derived.WalkKit
import Derived.ProofKit
import Derived.OpenShut
import Derived.Below
import Derived.OneCell
import Derived.Lib.Hide
import Derived.Test.YtkhfkccbnhjmjaaDoorPB
import Derived.Deep.RegionHeld3
import Derived.StillTailTactics
import Derived.Laws.IdiomStrings
import Derived.Laws.BytesArg
namespace Go.Proofs.YtkhfkccbnhjmjaaDoor.Help
open Go.ChangeShapes Go.WideShapes Go.ChangeAt Go.RowKit
open Go.Proofs.YtkhfkccbnhjmjaaDoor.Seq

theorem info_int : (Tryd.prog.info? 3).map (fun i => (i.zero, i.size, i.bytes)) = some (some (.int .i64 0), 1, 8) := by kernel_rfl

theorem differ {xs ys : List Int} {j : Nat} {x y : Int} (hx : xs[j]? = some x) (hy : ys[j]? = some y) (h : xs = ys) : x = y := by
  subst h; rw [hx] at hy; exact Option.some.inj hy

end Go.Proofs.YtkhfkccbnhjmjaaDoor.Help
namespace Go.Proofs.YtkhfkccbnhjmjaaDoor.Draw
open Go.ChangeShapes Go.WideShapes Go.ChangeAt Go.RowKit
open Go.Proofs.YtkhfkccbnhjmjaaDoor.Kit

/-- The cursor's block: the code's slice, how many bytes are read, the mixed number. -/
structure Cur (w : World) (B : Nat) (ad : Option Addr) (n cap : Nat) : Prop where
  len : n ≤ 1048576
  own : ∃ (i : Nat) (h : Int), i ≤ n ∧ -9223372036854775808 ≤ h ∧ h ≤ 9223372036854775807 ∧ w.heap[B]? = some (.cells #[.slice ad n cap, .int .i64 i, .int .i64 h] 89 (0, 0))
  code : ∀ j, j < n → ∃ (a : Addr) (x : Int), ad = some a ∧ a.block < B ∧ 0 ≤ x ∧ x ≤ 255 ∧ w.cell? (a.add j) = some (.int .u8 x)

/-- What the walk reads of a cursor. -/
structure Reads (w : World) (B : Nat) (ad : Option Addr) (n cap : Nat) (i h : Int) : Prop where
  c0 : w.cell? ⟨B, 0, none⟩ = some (.slice ad n cap)
  c1 : w.cell? ⟨B, 1, none⟩ = some (.int .i64 i)
  c2 : w.cell? ⟨B, 2, none⟩ = some (.int .i64 h)
  f0 : w.frozen? ⟨B, 0, none⟩ = false
  f1 : w.frozen? ⟨B, 1, none⟩ = false
  f2 : w.frozen? ⟨B, 2, none⟩ = false

abbrev curT : TypeId := 89
theorem reads {w : World} {B : Nat} {ad : Option Addr} {n cap : Nat} {i h : Int} (hB : w.heap[B]? = some (.cells #[.slice ad n cap, .int .i64 i, .int .i64 h] curT (0, 0))) : Reads w B ad n cap i h :=
  ⟨by simp [World.cell?, hB], by simp [World.cell?, hB], by simp [World.cell?, hB], by simp [World.frozen?, hB], by simp [World.frozen?, hB], by simp [World.frozen?, hB]⟩
theorem set_h {w : World} {B : Nat} {ad : Option Addr} {n cap : Nat} {i h z : Int} (hB : w.heap[B]? = some (.cells #[.slice ad n cap, .int .i64 i, .int .i64 h] curT (0, 0))) :
    (w.setCell ⟨B, 2, none⟩ (.int .i64 z)).heap[B]? = some (.cells #[.slice ad n cap, .int .i64 i, .int .i64 z] curT (0, 0)) := by
  rw [heap_setCell_same _ _ _ _ _ _ hB]; rfl
theorem set_i {w : World} {B : Nat} {ad : Option Addr} {n cap : Nat} {i h z : Int} (hB : w.heap[B]? = some (.cells #[.slice ad n cap, .int .i64 i, .int .i64 h] curT (0, 0))) :
    (w.setCell ⟨B, 1, none⟩ (.int .i64 z)).heap[B]? = some (.cells #[.slice ad n cap, .int .i64 z, .int .i64 h] curT (0, 0)) := by
  rw [heap_setCell_same _ _ _ _ _ _ hB]; rfl

theorem add_block (a : Addr) (j : Nat) : (a.add j).block = a.block := by
  unfold Addr.add; split <;> rfl

/-- A number of a range is drawn. -/
def Num (lo hi : Int) (B : Nat) (ad : Option Addr) (n cap : Nat) (w : World) (e : Ending) (w' : World) : Prop :=
  ∃ x : Int, e = .returned (.int .i64 x) ∧ lo ≤ x ∧ x ≤ hi ∧ Cur w' B ad n cap ∧ Moved B w w'

theorem moved_tail (W1 : World) (B : Nat) (k : Nat) (v : Value) : Moved B W1 ((W1.setCell ⟨B, 1, none⟩ v).drewN k) :=
  ((Moved.refl B W1).setCell rfl _).trans ⟨rfl, rfl, rfl, Nat.le_refl _, fun _ _ _ => rfl⟩

theorem byte (w : World) (B : Nat) (ad : Option Addr) (n cap : Nat) (hc : Cur w B ad n cap) :
    Calls Tryd.prog 73 #[.pointer (some ⟨B, 0, none⟩)] w (Num 0 255 B ad n cap w) := by
  obtain ⟨hn, ⟨i, h, hi, h1, h2, hB⟩, hcode⟩ := hc
  obtain ⟨c0, c1, c2, f0, f1, f2⟩ := reads hB
  have HB := Lib.hid hB
  have HC := Lib.hid hcode
  clear hB hcode
  by_cases hlt : i < n
  · go_enter Tryd.func73, Tryd.ntmps73
    go_wp2
    go_quiet (fail)
    generalize hz : wrap64 (wrap64 (h * 6364136223846793005) + 1442695040888963407) = z
    generalize hx : bits .and .i64 (bits .xor .i64 (z / 8589934592) (z / 140737488355328)) 255 = x
    have hx1 : 0 ≤ x ∧ x ≤ 255 := by rw [← hx]; exact Bits.and_range _ 255 (by decide)
    have hz1 : -9223372036854775808 ≤ z ∧ z ≤ 9223372036854775807 := by rw [← hz]; exact Bits.wrap_range _
    obtain ⟨hx1, hx2⟩ := hx1
    obtain ⟨hz1, hz2⟩ := hz1
    clear hx hz
    go_wp2
    obtain ⟨W1, hW1⟩ : ∃ W1, W1 = (w.setCell ⟨B, 2, none⟩ (.int .i64 z)).drewN nq := ⟨_, rfl⟩
    have hB1 : W1.heap[B]? = some (.cells #[.slice ad n cap, .int .i64 i, .int .i64 z] curT (0, 0)) := by rw [hW1]; exact set_h HB.out
    have hM1 : Moved B w W1 := by rw [hW1]; exact ((Moved.refl B w).setCell rfl _).trans ⟨rfl, rfl, rfl, Nat.le_refl _, fun _ _ _ => rfl⟩
    rw [← hW1]
    clear hW1 c0 c1 c2 f0 f1 f2
    obtain ⟨c0, c1, c2, f0, f1, f2⟩ := reads hB1
    have HB1 := Lib.hid hB1
    have HM1 := Lib.hid hM1
    clear hB1 hM1
    obtain ⟨a, y, rfl, hab, hy1, hy2, hy⟩ := HC.out i hlt
    have hy' : W1.cell? (a.add i) = some (.int .u8 y) := HM1.out.cell hy (by rw [add_block]; exact Nat.ne_of_lt hab)
    clear hy
    go_quiet (fail)
    go_wp2
    go_quiet (fail)
    generalize hv : bits .and .i64 _ 255 = v
    have hv1 : 0 ≤ v ∧ v ≤ 255 := by rw [← hv]; exact Bits.and_range _ 255 (by decide)
    obtain ⟨hv1, hv2⟩ := hv1
    clear hv
    go_wp2
    go_ret
    exact ⟨v, rfl, hv1, hv2, ⟨hn, ⟨i + 1, z, by omega, hz1, hz2, set_i HB1.out⟩, fun j hj => by
      obtain ⟨a', y', e, h1, h2, h3, h4⟩ := HC.out j hj
      exact ⟨a', y', e, h1, h2, h3, (HM1.out.trans (moved_tail W1 B _ _)).cell h4 (by rw [add_block]; exact Nat.ne_of_lt h1)⟩⟩, HM1.out.trans (moved_tail W1 B _ _)⟩
  · go_enter Tryd.func73, Tryd.ntmps73
    go_wp2
    go_quiet (fail)
    generalize hz : wrap64 (wrap64 (h * 6364136223846793005) + 1442695040888963407) = z
    generalize hx : bits .and .i64 (bits .xor .i64 (z / 8589934592) (z / 140737488355328)) 255 = x
    have hx1 : 0 ≤ x ∧ x ≤ 255 := by rw [← hx]; exact Bits.and_range _ 255 (by decide)
    have hz1 : -9223372036854775808 ≤ z ∧ z ≤ 9223372036854775807 := by rw [← hz]; exact Bits.wrap_range _
    obtain ⟨hx1, hx2⟩ := hx1
    obtain ⟨hz1, hz2⟩ := hz1
    clear hx hz
    go_wp2
    obtain ⟨W1, hW1⟩ : ∃ W1, W1 = (w.setCell ⟨B, 2, none⟩ (.int .i64 z)).drewN nq := ⟨_, rfl⟩
    have hB1 : W1.heap[B]? = some (.cells #[.slice ad n cap, .int .i64 i, .int .i64 z] curT (0, 0)) := by rw [hW1]; exact set_h HB.out
    have hM1 : Moved B w W1 := by rw [hW1]; exact ((Moved.refl B w).setCell rfl _).trans ⟨rfl, rfl, rfl, Nat.le_refl _, fun _ _ _ => rfl⟩
    rw [← hW1]
    clear hW1 c0 c1 c2 f0 f1 f2
    obtain ⟨c0, c1, c2, f0, f1, f2⟩ := reads hB1
    have HB1 := Lib.hid hB1
    have HM1 := Lib.hid hM1
    clear hB1 hM1
    go_quiet (fail)
    go_wp2
    go_ret
    exact ⟨x, rfl, hx1, hx2, ⟨hn, ⟨i, z, hi, hz1, hz2, HB1.out⟩, fun j hj => by
      obtain ⟨a', y', e, h1, h2, h3, h4⟩ := HC.out j hj
      exact ⟨a', y', e, h1, h2, h3, HM1.out.cell h4 (by rw [add_block]; exact Nat.ne_of_lt h1)⟩⟩, HM1.out.trans ⟨rfl, rfl, rfl, Nat.le_refl _, fun _ _ _ => rfl⟩⟩

theorem Cur.alloc {w : World} {B : Nat} {ad : Option Addr} {n cap : Nat} (h : Cur w B ad n cap) (o : Obj) : Cur (w.alloc o) B ad n cap := by
  obtain ⟨hn, ⟨i, z, h1, h2, h3, hB⟩, hcode⟩ := h
  have hlt : B < w.heap.size := lt_of_block hB
  refine ⟨hn, ⟨i, z, h1, h2, h3, (Below.heap_alloc w o B hlt).trans hB⟩, fun j hj => ?_⟩
  obtain ⟨a, x, e1, e2, e3, e4, e5⟩ := hcode j hj
  exact ⟨a, x, e1, e2, e3, e4, ((Moved.refl B w).alloc o).cell e5 (by rw [add_block]; exact Nat.ne_of_lt e2)⟩

/-- A byte is drawn; 'w0': where the account of what has changed begins. -/
theorem byte_from (w0 w : World) (B : Nat) (ad : Option Addr) (n cap : Nat) (hm : Moved B w0 w) (hc : Cur w B ad n cap) :
    Calls Tryd.prog 73 #[.pointer (some ⟨B, 0, none⟩)] w (Num 0 255 B ad n cap w0) :=
  (byte w B ad n cap hc).mono fun _ _ ⟨x, e, a, b, c, d⟩ => ⟨x, e, a, b, c, hm.trans d⟩

theorem num_mod {w0 w : World} {B : Nat} {ad : Option Addr} {n cap : Nat} {y m : Int} (h : 1 ≤ m) (hc : Cur w B ad n cap) (hm : Moved B w0 w) : Num 0 (m - 1) B ad n cap w0 (.returned (.int .i64 (y % m))) w := by
  have h1 := Int.emod_lt_of_pos y (show 0 < m by omega)
  exact ⟨_, rfl, Int.emod_nonneg y (by omega), by omega, hc, hm⟩

theorem below (w0 w : World) (B : Nat) (ad : Option Addr) (n cap : Nat) (m : Int) (h1 : 1 ≤ m) (h2 : m ≤ 9223372036854775807) (hm : Moved B w0 w) (hc : Cur w B ad n cap) :
    Calls Tryd.prog 37 #[.pointer (some ⟨B, 0, none⟩), .int .i64 m] w (Num 0 (m - 1) B ad n cap w0) := by
  by_cases hs : m ≤ 256
  all_goals
    go_enter Tryd.func37, Tryd.ntmps37
    go_wp2_with (go_at_call 73; refine (byte_from w0 _ _ _ _ _ (by assumption) (by assumption)).mono ?_; rintro e w' ⟨x, rfl, hx1, hx2, hc', hm'⟩)
    go_ret
    exact num_mod h1 (by assumption) (by assumption)

/-- A truth value is drawn. -/
def Flag (B : Nat) (ad : Option Addr) (n cap : Nat) (w : World) (e : Ending) (w' : World) : Prop :=
  ∃ b : Bool, e = .returned (.bool b) ∧ Cur w' B ad n cap ∧ Moved B w w'
theorem once (w0 w : World) (B : Nat) (ad : Option Addr) (n cap : Nat) (m : Int) (h1 : 1 ≤ m) (h2 : m ≤ 9223372036854775807) (hm : Moved B w0 w) (hc : Cur w B ad n cap) :
    Calls Tryd.prog 35 #[.pointer (some ⟨B, 0, none⟩), .int .i64 m] w (Flag B ad n cap w0) := by
  go_enter Tryd.func35, Tryd.ntmps35
  go_wp2_with (go_at_call 37; refine (below w0 _ _ _ _ _ _ h1 h2 (by assumption) (by assumption)).mono ?_; rintro e w' ⟨x, rfl, hx1, hx2, hc', hm'⟩)
  go_ret
  exact ⟨_, rfl, hc', hm'⟩

/-- One of a list of numbers is drawn; the list lies in a block of its own. -/
theorem oneof (w0 w : World) (B : Nat) (ad : Option Addr) (n cap : Nat) (b m c : Nat) (lo hi : Int) (h1 : 1 ≤ m) (h2 : m ≤ 1000) (hb : b ≠ B) (hm : Moved B w0 w) (hc : Cur w B ad n cap)
    (hl : ∀ j : Nat, j < m → ∃ x : Int, lo ≤ x ∧ x ≤ hi ∧ w.cell? ⟨b, j, none⟩ = some (.int .i64 x)) :
    Calls Tryd.prog 70 #[.pointer (some ⟨B, 0, none⟩), .slice (some ⟨b, 0, none⟩) m c] w (Num lo hi B ad n cap w0) := by
  have HL := Lib.hid hl
  clear hl
  have hk := fun (w1 : World) => below w w1 B ad n cap (m : Int) (by omega) (by omega)
  have hs := Moved.refl B w
  go_enter Tryd.func70, Tryd.ntmps70
  go_wp2_with fail
  go_at_call 37
  refine (hk _ (by assumption) (by assumption)).mono ?_
  rintro e w' ⟨x, rfl, hx1, hx2, hc', hm'⟩
  obtain ⟨i, rfl⟩ : ∃ i : Nat, x = i := ⟨x.toNat, by omega⟩
  obtain ⟨y, hy1, hy2, hy3⟩ := HL.out i (by omega)
  have hy4 : w'.cell? ⟨b, i, none⟩ = some (.int .i64 y) := hm'.cell hy3 hb
  clear hy3
  go_wp2_with fail
  go_ret
  exact ⟨_, rfl, hy1, hy2, hc', hm.trans hm'⟩


/-- The cells of a literal list of numbers. -/
theorem list_cells (w : World) (cs : Array Value) (T : TypeId) (lo hi : Int) (m : Nat) (hall : (cs.toList.all fun v => match v with | .int .i64 x => decide (lo ≤ x) && decide (x ≤ hi) | _ => false) = true) (hm : cs.size = m) :
    ∀ j : Nat, j < m → ∃ x : Int, lo ≤ x ∧ x ≤ hi ∧ (w.alloc (.cells cs T)).cell? ⟨w.heap.size, j, none⟩ = some (.int .i64 x) := by
  intro j hj
  have hj' : j < cs.size := by omega
  have hx := List.all_eq_true.1 hall cs[j] (by simp)
  rw [World.cell?_alloc_new, Array.getElem?_eq_getElem hj']
  split at hx
  · rename_i x hv
    have : lo ≤ x ∧ x ≤ hi := by simpa using hx
    exact ⟨x, this.1, this.2, by rw [hv]⟩
  · cases hx
theorem Cur.ne {w : World} {B : Nat} {ad : Option Addr} {n cap : Nat} (h : Cur w B ad n cap) : w.heap.size ≠ B := by
  obtain ⟨_, ⟨i, z, _, _, _, hB⟩, _⟩ := h
  have := lt_of_block hB
  omega

end Go.Proofs.YtkhfkccbnhjmjaaDoor.Draw
namespace Go.Proofs.YtkhfkccbnhjmjaaDoor.FieldW
open Go.ChangeShapes Go.WideShapes Go.ChangeAt Go.RowKit
open Go.Proofs.YtkhfkccbnhjmjaaDoor.Seq Go.Proofs.YtkhfkccbnhjmjaaDoor.Help Go.Proofs.YtkhfkccbnhjmjaaDoor.Field

theorem ret_int {e : Ending} {x y : Int} (h : e = .returned (.int .i64 x)) (hx : x = y) : e = .returned (.int .i64 y) := by rw [h, hx]

/-- An answer that is a number; nothing is written. -/
def Is (x : Int) (w : World) (e : Ending) (w' : World) : Prop := e = .returned (.int .i64 x) ∧ w = w'
def IsB (b : Bool) (w : World) (e : Ending) (w' : World) : Prop := e = .returned (.bool b) ∧ w = w'

theorem prod_nat {o a : Nat} (ho : o ≤ 2038) (ha : a ≤ 2038) : 0 ≤ (o : Int) * (a : Int) ∧ (o : Int) * (a : Int) ≤ 4153444 :=
  prod_in (m := 2038) (by omega) (by omega) (by omega) (by omega)

theorem and_one (n : Nat) (h : n < 9223372036854775808) : bits .and .i64 (n : Int) 1 = ((n % 2 : Nat) : Int) := by
  have e : bits .and .i64 (n : Int) 1 = IntKind.i64.wrap ((BitVec.ofInt 64 (n : Int) &&& BitVec.ofInt 64 (1 : Int)).toNat : Int) := rfl
  rw [e, BitVec.toNat_and, Bits.ofInt_nat n (by omega), show (BitVec.ofInt 64 (1 : Int)).toNat = 1 from rfl, Nat.and_one_is_mod, IntKind.wrap_i64]
  omega
theorem sq_nat (o a m : Nat) : (o : Int) * (a : Int) % (m : Int) = ((o * a % m : Nat) : Int) := by
  rw [← Int.natCast_mul, ← Int.natCast_emod]

set_option maxRecDepth 100000 in
theorem spec_pow (w : World) (a0 n0 m : Nat) (hm : 1 < m) (hm2 : m ≤ 2039) (ha : a0 < m) (hn : n0 ≤ 1000000000000) :
    Calls Tryd.prog 132 #[.int .i64 a0, .int .i64 n0, .int .i64 m] w fun e w' => e = .returned (.int .i64 (pw a0 n0 m)) ∧ w = w' := by
  have hs := Lib.hid (inv_start (n0 := n0) hm ha)
  go_enter Tryd.func132, Tryd.ntmps132
  go_wp2
  go_loop [0, 1, 7] (fun va vn vo => ∃ (a n o : Nat), va = .int .i64 a ∧ vn = .int .i64 n ∧ vo = .int .i64 o ∧ a ≤ 2038 ∧ o ≤ 2038 ∧ n ≤ 1000000000000 ∧ Hid (Field.Inv a0 n0 m o a n)) (fun _ vn _ => (intOf vn).toNat)
  case atStart => exact ⟨a0, n0, 1, rfl, rfl, rfl, by omega, by omega, hn, hs⟩
  case round =>
    obtain ⟨a, n, o, rfl, rfl, rfl, ha', ho', hn', HI⟩ := hrel
    obtain ⟨p0, p1⟩ := prod_nat ho' ha'
    obtain ⟨q0, q1⟩ := prod_nat ha' ha'
    have e1 := sq_nat o a m
    have e2 := sq_nat a a m
    by_cases hp : 0 < n
    · rcases Nat.mod_two_eq_zero_or_one n with h2 | h2
      · have h3 := inv_even (by omega) HI.out h2
        have h4 : a * a % m ≤ 2038 := by have := h3.2.1; omega
        have H3 := Lib.hid h3
        clear h3 HI
        have h5 : (n : Int) % 2 = 0 := by omega
        have h6 : bits .and .i64 (n : Int) 1 = 0 := by rw [and_one n (by omega), h2]; rfl
        go_wp2
        go_round
        case rel => exact ⟨a * a % m, n / 2, o, by rw [e2], by go_num, rfl, h4, ho', by omega, H3⟩
        case measure => simp [intOf]; omega
      · have h3 := inv_odd (by omega) HI.out h2
        have h4 : a * a % m ≤ 2038 := by have := h3.2.1; omega
        have h7 : o * a % m ≤ 2038 := by have := h3.1; omega
        have H3 := Lib.hid h3
        clear h3 HI
        have h5 : (n : Int) % 2 = 1 := by omega
        have h6 : bits .and .i64 (n : Int) 1 = 1 := by rw [and_one n (by omega), h2]; rfl
        go_wp2
        go_round
        case rel => exact ⟨a * a % m, n / 2, o * a % m, by rw [e2], by go_num, by rw [e1], h4, h7, by omega, H3⟩
        case measure => simp [intOf]; omega
    · go_wp2
      go_ret
      obtain rfl : n = 0 := by omega
      exact ⟨ret_int rfl (by rw [inv_end HI.out]), rfl⟩

theorem l1In_is (w : World) (x a b : Int) : Calls Tryd.prog 42 #[.int .i64 x, .int .i64 a, .int .i64 b] w (IsB (decide (a ≤ x) && decide (x ≤ b)) w) := by
  by_cases h1 : a ≤ x
  · by_cases h2 : x ≤ b
    · rw [decide_eq_true h1, decide_eq_true h2]
      go_enter Tryd.func42, Tryd.ntmps42
      go_wp2
      go_ret
      exact ⟨by simp, rfl⟩
    · rw [decide_eq_true h1, decide_eq_false h2]
      go_enter Tryd.func42, Tryd.ntmps42
      go_wp2
      go_ret
      exact ⟨by simp, rfl⟩
  · rw [decide_eq_false h1]
    go_enter Tryd.func42, Tryd.ntmps42
    go_wp2
    go_ret
    exact ⟨by simp, rfl⟩
theorem inRange_is (w : World) (x a b : Int) : Calls Tryd.prog 49 #[.int .i64 x, .int .i64 a, .int .i64 b] w (IsB (decide (a ≤ x) && decide (x ≤ b)) w) := by
  by_cases h1 : a ≤ x
  · by_cases h2 : x ≤ b
    · rw [decide_eq_true h1, decide_eq_true h2]
      go_enter Tryd.func49, Tryd.ntmps49
      go_wp2
      go_ret
      exact ⟨by simp, rfl⟩
    · rw [decide_eq_true h1, decide_eq_false h2]
      go_enter Tryd.func49, Tryd.ntmps49
      go_wp2
      go_ret
      exact ⟨by simp, rfl⟩
  · rw [decide_eq_false h1]
    go_enter Tryd.func49, Tryd.ntmps49
    go_wp2
    go_ret
    exact ⟨by simp, rfl⟩

theorem spec_el (w : World) (x : Int) : Calls Tryd.prog 45 #[.int .i64 x] w (IsB (isEl x) w) := by
  go_enter Tryd.func45, Tryd.ntmps45
  go_wp2_with (go_at_call 42; refine (l1In_is _ x 0 1018).mono ?_; rintro e w' ⟨rfl, rfl⟩)
  go_ret
  exact ⟨rfl, rfl⟩
theorem impl_el (w : World) (x : Int) : Calls Tryd.prog 80 #[.int .i64 x] w (IsB (isEl x) w) := by
  go_enter Tryd.func80, Tryd.ntmps80
  go_wp2_with (go_at_call 49; refine (inRange_is _ x 0 1018).mono ?_; rintro e w' ⟨rfl, rfl⟩)
  go_ret
  exact ⟨rfl, rfl⟩

theorem impl_both (w : World) (a b : Int) : Calls Tryd.prog 105 #[.int .i64 a, .int .i64 b] w (IsB (isEl a && isEl b) w) := by
  have ha := Lib.hid (impl_el w a)
  have hb := Lib.hid (impl_el w b)
  generalize isEl a = p at *
  generalize isEl b = q at *
  cases p
  · go_enter Tryd.func105, Tryd.ntmps105
    go_wp2_with (go_at_call 80; refine ha.out.mono ?_; rintro e w' ⟨rfl, rfl⟩)
    go_ret
    exact ⟨rfl, rfl⟩
  · go_enter Tryd.func105, Tryd.ntmps105
    go_wp2_with fail
    go_at_call 80
    refine ha.out.mono ?_
    rintro e w' ⟨rfl, rfl⟩
    go_wp2_with fail
    go_at_call 80
    refine hb.out.mono ?_
    rintro e w' ⟨rfl, rfl⟩
    go_wp2
    go_ret
    exact ⟨by simp, rfl⟩

set_option maxRecDepth 100000 in
theorem mod1019 (w : World) (v : Int) (_ : -9223372036854775808 ≤ v) (_ : v ≤ 9223372036854775807) :
    Calls Tryd.prog 106 #[.int .i64 v, .int .i64 1019] w (Is (v % 1019) w) := by
  rcases rem v 1019 (by decide) with ⟨hr, e⟩ | ⟨hr, e⟩
  all_goals
    go_enter Tryd.func106, Tryd.ntmps106
    go_wp2_with (go_at_call 49; refine (inRange_is _ 1019 1 1000000000000).mono ?_; rintro e w' ⟨rfl, rfl⟩)
    go_ret
    exact ⟨ret_int rfl (by omega), rfl⟩
theorem both {a b : Int} (h : (isEl a && isEl b) = true) : (0 ≤ a ∧ a ≤ 1018) ∧ (0 ≤ b ∧ b ≤ 1018) := by
  rw [Bool.and_eq_true, isEl_iff, isEl_iff] at h; exact h

theorem impl_add (w : World) (a b : Int) : Calls Tryd.prog 90 #[.int .i64 a, .int .i64 b] w (Is (Field.add a b) w) := by
  have hb := Lib.hid (impl_both w a b)
  unfold Field.add
  cases h : (isEl a && isEl b)
  · rw [h] at hb
    go_enter Tryd.func90, Tryd.ntmps90
    go_wp2_with (go_at_call 105; refine hb.out.mono ?_; rintro e w' ⟨rfl, rfl⟩)
    go_ret
    exact ⟨rfl, rfl⟩
  · rw [h] at hb
    obtain ⟨⟨a0, a1⟩, b0, b1⟩ := both h
    obtain ⟨p0, p1⟩ := prod_in a0 a1 b0 b1
    clear h
    have HM := Lib.hid (fun w' v h h2 => mod1019 w' v h h2)
    go_enter Tryd.func90, Tryd.ntmps90
    go_wp2_with (first
      | (go_at_call 105; refine hb.out.mono ?_; rintro e w' ⟨rfl, rfl⟩)
      | (go_at_call 106; refine (HM.out _ _ (by omega) (by omega)).mono ?_; rintro e w' ⟨rfl, rfl⟩))
    go_ret
    exact ⟨rfl, rfl⟩
theorem impl_mul (w : World) (a b : Int) : Calls Tryd.prog 91 #[.int .i64 a, .int .i64 b] w (Is (Field.mul a b) w) := by
  have hb := Lib.hid (impl_both w a b)
  unfold Field.mul
  cases h : (isEl a && isEl b)
  · rw [h] at hb
    go_enter Tryd.func91, Tryd.ntmps91
    go_wp2_with (go_at_call 105; refine hb.out.mono ?_; rintro e w' ⟨rfl, rfl⟩)
    go_ret
    exact ⟨rfl, rfl⟩
  · rw [h] at hb
    obtain ⟨⟨a0, a1⟩, b0, b1⟩ := both h
    obtain ⟨p0, p1⟩ := prod_in a0 a1 b0 b1
    clear h
    have HM := Lib.hid (fun w' v h h2 => mod1019 w' v h h2)
    go_enter Tryd.func91, Tryd.ntmps91
    go_wp2_with (first
      | (go_at_call 105; refine hb.out.mono ?_; rintro e w' ⟨rfl, rfl⟩)
      | (go_at_call 106; refine (HM.out _ _ (by omega) (by omega)).mono ?_; rintro e w' ⟨rfl, rfl⟩))
    go_ret
    exact ⟨rfl, rfl⟩

theorem nat_of {x : Int} (h : 0 ≤ x) : ∃ k : Nat, x = k := ⟨x.toNat, by omega⟩

set_option maxRecDepth 100000 in
theorem spec_inv (w : World) (a : Int) : Calls Tryd.prog 126 #[.int .i64 a] w (Is (Field.inv a) w) := by
  have he := Lib.hid (spec_el w a)
  unfold Field.inv
  cases h : isEl a
  · rw [h] at he
    go_enter Tryd.func126, Tryd.ntmps126
    go_wp2_with (go_at_call 45; refine he.out.mono ?_; rintro e w' ⟨rfl, rfl⟩)
    go_ret
    exact ⟨rfl, rfl⟩
  · rw [h] at he
    obtain ⟨a0, a1⟩ := isEl_iff.1 h
    clear h
    obtain ⟨k, rfl⟩ := nat_of a0
    by_cases hk : k = 0
    · subst hk
      go_enter Tryd.func126, Tryd.ntmps126
      go_wp2_with (go_at_call 45; refine he.out.mono ?_; rintro e w' ⟨rfl, rfl⟩)
      go_ret
      exact ⟨rfl, rfl⟩
    · have hp := Lib.hid (spec_pow w k 1017 1019 (by omega) (by omega) (by omega) (by omega))
      have hd : decide ((k : Int) = 0) = false := by simp [hk]
      rw [Int.toNat_natCast, hd]
      generalize pw k 1017 1019 = r at *
      go_enter Tryd.func126, Tryd.ntmps126
      go_wp2_with (first
        | (go_at_call 45; refine he.out.mono ?_; rintro e w' ⟨rfl, rfl⟩)
        | (go_at_call 132; refine hp.out.mono ?_; rintro e w' ⟨rfl, rfl⟩))
      go_ret
      exact ⟨rfl, rfl⟩
end Go.Proofs.YtkhfkccbnhjmjaaDoor.FieldW
namespace Go.Proofs.YtkhfkccbnhjmjaaDoor.Help
open Go.ChangeShapes Go.WideShapes Go.ChangeAt Go.RowKit
open Go.Proofs.YtkhfkccbnhjmjaaDoor.Seq

theorem info_ints : (Tryd.prog.info? 27).map (fun i => (i.zero, i.size, i.bytes)) = some (some (.slice none 0 0), 1, 24) := by kernel_rfl

/-- A new slice of slices that reads as xss. -/
def Gives2 (xss : List (List Int)) (w : World) (e : Ending) (w' : World) : Prop :=
  ∃ ad n cap us, e = .returned (.slice ad n cap) ∧ Grid w' w.heap.size w'.heap.size 3 27 ad n cap us xss ∧ Below w.heap.size w w'

/-- A list of lists that the exact laws look at. -/
structure Small (xss : List (List Int)) : Prop where
  len : xss.length ≤ 1048576
  each : ∀ xs ∈ xss, xs.length ≤ 1048576
end Go.Proofs.YtkhfkccbnhjmjaaDoor.Help
namespace Go.Proofs.YtkhfkccbnhjmjaaDoor.VecW
open Go.ChangeShapes Go.WideShapes Go.ChangeAt Go.RowKit
open Go.Proofs.YtkhfkccbnhjmjaaDoor.Seq Go.Proofs.YtkhfkccbnhjmjaaDoor.Help Go.Proofs.YtkhfkccbnhjmjaaDoor.Field Go.Proofs.YtkhfkccbnhjmjaaDoor.FieldW Go.Proofs.YtkhfkccbnhjmjaaDoor.Vec

theorem el_no {x : Int} (h : ¬ isEl x = true) : isEl x = false := by simpa using h

theorem spec_isVec (w : World) {l h : Nat} {ad : Option Addr} {n cap : Nat} {xs : List Int} (s : Sl w l h .i64 ad n cap xs) :
    Calls Tryd.prog 11 #[.slice ad n cap] w (IsB (isVec xs) w) := by
  have hbig := s.big
  have hcap := s.le
  unfold maxLen at hbig
  go_enter Tryd.func11, Tryd.ntmps11
  go_wp2
  go_loop [3] (fun i => ∃ j : Nat, j ≤ n ∧ i = .int .i64 j ∧ Hid (∀ x ∈ xs.take j, isEl x = true)) (fun i => n - (intOf i).toNat)
  case atStart => exact ⟨0, Nat.zero_le _, rfl, fun x hx => by simp at hx⟩
  case round =>
    obtain ⟨j, hj, rfl, HA⟩ := hrel
    by_cases hlt : j < n
    · obtain ⟨a, x, rfl, hx, hc⟩ := s.at_ hlt
      have hg := Lib.hid hx.get
      have hE := spec_el w x
      by_cases hb : isEl x = true
      · rw [hb] at hE
        have HE := Lib.hid hE
        have HB := Lib.hid hb
        clear hE hb
        go_wp2_with fail
        go_at_call 45
        refine HE.out.mono ?_
        rintro e w' ⟨rfl, rfl⟩
        go_wp2
        go_round
        case rel => exact ⟨j + 1, by omega, by go_num, all_more hg.out HA.out HB.out⟩
        case measure => simp [intOf]; omega
      · rw [el_no hb] at hE
        have HE := Lib.hid hE
        have HB := Lib.hid (isVec_no_at hg.out (el_no hb))
        clear hE hb
        rw [HB.out]
        go_wp2_with fail
        go_at_call 45
        refine HE.out.mono ?_
        rintro e w' ⟨rfl, rfl⟩
        go_wp2
        go_ret
        exact ⟨rfl, rfl⟩
    · obtain rfl : j = n := by omega
      have HE := Lib.hid (isVec_all s.len HA.out)
      go_wp2
      go_ret
      exact ⟨by rw [HE.out]; rfl, rfl⟩
/-- Two vectors of one length. -/
def pair (xs ys : List Int) : Bool := (isVec xs && isVec ys) && (xs.length == ys.length)
theorem spec_pair (w : World) {l h l2 h2 : Nat} {ad ad2 : Option Addr} {n cap n2 cap2 : Nat} {xs ys : List Int} (s : Sl w l h .i64 ad n cap xs) (s2 : Sl w l2 h2 .i64 ad2 n2 cap2 ys) :
    Calls Tryd.prog 93 #[.slice ad n cap, .slice ad2 n2 cap2] w (IsB (pair xs ys) w) := by
  have h1 := spec_isVec w s
  have h2 := spec_isVec w s2
  have hbig := s.big
  have hcap := s.le
  have hbig2 := s2.big
  have hcap2 := s2.le
  unfold maxLen at hbig hbig2
  unfold pair
  have hd : (xs.length == ys.length) = decide ((n : Int) = n2) := by rw [s.len, s2.len, Bool.eq_iff_iff]; simp; omega
  rw [hd]
  cases hp : isVec xs
  · rw [hp] at h1
    have H1 := Lib.hid h1
    clear h1 h2 hp hd
    go_enter Tryd.func93, Tryd.ntmps93
    go_wp2_with fail
    go_at_call 11
    refine H1.out.mono ?_
    rintro e w' ⟨rfl, rfl⟩
    go_wp2
    go_ret
    exact ⟨rfl, rfl⟩
  · rw [hp] at h1
    cases hq : isVec ys
    · rw [hq] at h2
      have H1 := Lib.hid h1
      have H2 := Lib.hid h2
      clear h1 h2 hp hq hd
      go_enter Tryd.func93, Tryd.ntmps93
      go_wp2_with fail
      go_at_call 11
      refine H1.out.mono ?_
      rintro e w' ⟨rfl, rfl⟩
      go_wp2_with fail
      go_at_call 11
      refine H2.out.mono ?_
      rintro e w' ⟨rfl, rfl⟩
      go_wp2
      go_ret
      exact ⟨rfl, rfl⟩
    · rw [hq] at h2
      have H1 := Lib.hid h1
      have H2 := Lib.hid h2
      clear h1 h2 hp hq hd
      go_enter Tryd.func93, Tryd.ntmps93
      go_wp2_with fail
      go_at_call 11
      refine H1.out.mono ?_
      rintro e w' ⟨rfl, rfl⟩
      go_wp2_with fail
      go_at_call 11
      refine H2.out.mono ?_
      rintro e w' ⟨rfl, rfl⟩
      go_wp2
      go_ret
      exact ⟨by congr 2, rfl⟩
theorem spec_lead (w : World) {l h : Nat} {ad : Option Addr} {n cap : Nat} {xs : List Int} (s : Sl w l h .i64 ad n cap xs) :
    Calls Tryd.prog 111 #[.slice ad n cap] w (Is (lead xs) w) := by
  have hbig := s.big
  have hcap := s.le
  unfold maxLen at hbig
  go_enter Tryd.func111, Tryd.ntmps111
  go_wp2
  go_loop [3] (fun i => ∃ j : Nat, j ≤ n ∧ i = .int .i64 j ∧ Hid (∀ y ∈ xs.take j, y = 0)) (fun i => n - (intOf i).toNat)
  case atStart => exact ⟨0, Nat.zero_le _, rfl, fun x hx => by simp at hx⟩
  case round =>
    obtain ⟨j, hj, rfl, HA⟩ := hrel
    by_cases hlt : j < n
    · obtain ⟨a, x, rfl, hx, hc⟩ := s.at_ hlt
      have hg := Lib.hid hx.get
      by_cases hb : x = 0
      · subst hb
        go_wp2
        go_round
        case rel => exact ⟨j + 1, by omega, by go_num, zero_more hg.out HA.out⟩
        case measure => simp [intOf]; omega
      · have hr := lead_at hg.out HA.out hb 0
        have hb2 : (x == 0) = false := by simpa using hb
        have HL := Lib.hid hr
        clear hr
        go_wp2
        go_ret
        exact ⟨ret_int rfl (by unfold lead; rw [HL.out]; omega), rfl⟩
    · obtain rfl : j = n := by omega
      have hr := lead_no (fun y hy => HA.out y (by rwa [List.take_of_length_le (Nat.le_of_eq s.len)])) 0
      have HL := Lib.hid hr
      clear hr
      go_wp2
      go_ret
      exact ⟨ret_int rfl HL.out.symm, rfl⟩

theorem spec_scale (w : World) {l h : Nat} {ad : Option Addr} {n cap : Nat} {xs : List Int} (s : Sl w l h .i64 ad n cap xs) (k : Int) :
    Calls Tryd.prog 88 #[.slice ad n cap, .int .i64 k] w (Gives .i64 3 (scale xs k) w) := by
  have h1 := fun o => spec_isVec (w.alloc o) (s.alloc o)
  have h2 := fun o => spec_el (w.alloc o) k
  unfold scale
  cases hp : isVec xs
  · rw [hp] at h1
    have H1 := Lib.hid h1
    clear h1 h2 hp
    go_enter Tryd.func88, Tryd.ntmps88
    go_wp2_with fail
    go_at_call 11
    refine (H1.out _).mono ?_
    rintro e w' ⟨rfl, rfl⟩
    go_wp2
    go_ret
    exact ⟨_, _, _, rfl, Row.nil _ _ _ _ _ _, (Below.refl _ _).alloc (Nat.le_refl _) _⟩
  · rw [hp] at h1
    cases hq : isEl k
    · rw [hq] at h2
      have H1 := Lib.hid h1
      have H2 := Lib.hid h2
      clear h1 h2 hp hq
      go_enter Tryd.func88, Tryd.ntmps88
      go_wp2_with fail
      go_at_call 11
      refine (H1.out _).mono ?_
      rintro e w' ⟨rfl, rfl⟩
      go_wp2_with fail
      go_at_call 45
      refine (H2.out _).mono ?_
      rintro e w' ⟨rfl, rfl⟩
      go_wp2
      go_ret
      exact ⟨_, _, _, rfl, Row.nil _ _ _ _ _ _, (Below.refl _ _).alloc (Nat.le_refl _) _⟩
    · rw [hq] at h2
      have HV := Lib.hid hp
      obtain ⟨k0, k1⟩ := isEl_iff.1 hq
      have hn : n ≤ 40 := by rw [← s.len]; exact (isVec_iff.1 hp).2
      have H1 := Lib.hid h1
      have H2 := Lib.hid h2
      clear h1 h2 hp hq
      go_enter Tryd.func88, Tryd.ntmps88
      go_wp2_with fail
      go_at_call 11
      refine (H1.out _).mono ?_
      rintro e w' ⟨rfl, rfl⟩
      go_wp2_with fail
      go_at_call 45
      refine (H2.out _).mono ?_
      rintro e w' ⟨rfl, rfl⟩
      go_wp2
      go_loopw [5, 6] (fun v i wr => ∃ (j : Nat) (ad' : Option Addr) (cap' : Nat), j ≤ n ∧ i = .int .i64 j ∧ v = .slice ad' j cap' ∧ Row wr w.heap.size wr.heap.size .i64 3 ad' j cap' ((scaled xs k).take j) ∧ Below w.heap.size w wr) (fun _ i _ => n - (intOf i).toNat)
      case atStart => exact ⟨0, _, 0, Nat.zero_le _, rfl, rfl, by simpa using Row.nil _ _ _ _ _ _, (Below.refl _ _).alloc (Nat.le_refl _) _⟩
      case round =>
        obtain ⟨j, ad', cap', hj, rfl, rfl, hr, hb⟩ := hrel
        have zb := hb.size
        by_cases hlt : j < n
        · obtain ⟨a, x, rfl, hx, hc⟩ := (s.below hb (.inr (Nat.le_refl _))).at_ hlt
          obtain ⟨x0, x1⟩ := vec_el HV.out hx.get
          obtain ⟨p0, p1⟩ := prod_in x0 x1 k0 k1
          have HT := Lib.hid (take_more (scaled_get (k := k) hx.get))
          clear hx
          go_wp2_with (at_builtin; refine wpList_app (hr.alloc _) (one wr .i64 3 (x * k % 1019) (fits_i64.2 (by omega))) Tryd.underlying27 info_int (by unfold maxLen; omega) (by omega) (by simp; omega) rfl _ _ rfl rfl rfl ?_; intro ad3 cap3 w3 hr3 hm3)
          have hb3 := (hb.alloc zb (.cells #[.int .i64 (x * k % 1019)] 3)).trans (hm3.below (Nat.le_refl _) (by simp; omega))
          go_roundw
          case rel => exact ⟨j + 1, _, _, by omega, by go_num, rfl, HT.out ▸ hr3, hb3⟩
          case measure => simp [intOf]; omega
        · obtain rfl : j = n := by omega
          rw [List.take_of_length_le (by rw [scaled_len, s.len]; exact Nat.le_refl _)] at hr
          have HR := Lib.hid hr
          clear hr
          go_wp2
          go_ret
          exact ⟨_, _, _, rfl, HR.out.lt, hb⟩
theorem spec_adds (w : World) {l h l2 h2 : Nat} {ad ad2 : Option Addr} {n cap n2 cap2 : Nat} {xs ys : List Int} (s : Sl w l h .i64 ad n cap xs) (s2 : Sl w l2 h2 .i64 ad2 n2 cap2 ys) (k : Int) :
    Calls Tryd.prog 82 #[.slice ad n cap, .slice ad2 n2 cap2, .int .i64 k] w (Gives .i64 3 (addScaled xs ys k) w) := by
  have h1 := fun o => spec_pair (w.alloc o) (s.alloc o) (s2.alloc o)
  have h2 := fun o => spec_el (w.alloc o) k
  have hd : addScaled xs ys k = bif pair xs ys && isEl k then mac xs ys k else [] := rfl
  rw [hd]
  cases hp : pair xs ys
  · rw [hp] at h1
    have H1 := Lib.hid h1
    clear h1 h2 hp hd
    go_enter Tryd.func82, Tryd.ntmps82
    go_wp2_with fail
    go_at_call 93
    refine (H1.out _).mono ?_
    rintro e w' ⟨rfl, rfl⟩
    go_wp2
    go_ret
    exact ⟨_, _, _, rfl, Row.nil _ _ _ _ _ _, (Below.refl _ _).alloc (Nat.le_refl _) _⟩
  · rw [hp] at h1
    cases hq : isEl k
    · rw [hq] at h2
      have H1 := Lib.hid h1
      have H2 := Lib.hid h2
      clear h1 h2 hp hq hd
      go_enter Tryd.func82, Tryd.ntmps82
      go_wp2_with fail
      go_at_call 93
      refine (H1.out _).mono ?_
      rintro e w' ⟨rfl, rfl⟩
      go_wp2_with fail
      go_at_call 45
      refine (H2.out _).mono ?_
      rintro e w' ⟨rfl, rfl⟩
      go_wp2
      go_ret
      exact ⟨_, _, _, rfl, Row.nil _ _ _ _ _ _, (Below.refl _ _).alloc (Nat.le_refl _) _⟩
    · rw [hq] at h2
      unfold pair at hp
      simp only [Bool.and_eq_true, beq_iff_eq] at hp
      obtain ⟨⟨hv1, hv2⟩, hl⟩ := hp
      obtain rfl : n = n2 := by rw [← s.len, ← s2.len, hl]
      have HV1 := Lib.hid hv1
      have HV2 := Lib.hid hv2
      have HL := Lib.hid (mac_len k hl)
      obtain ⟨k0, k1⟩ := isEl_iff.1 hq
      have hn : n ≤ 40 := by rw [← s.len]; exact (isVec_iff.1 hv1).2
      have H1 := Lib.hid h1
      have H2 := Lib.hid h2
      clear h1 h2 hq hv1 hv2 hl hd
      go_enter Tryd.func82, Tryd.ntmps82
      go_wp2_with fail
      go_at_call 93
      refine (H1.out _).mono ?_
      rintro e w' ⟨rfl, rfl⟩
      go_wp2_with fail
      go_at_call 45
      refine (H2.out _).mono ?_
      rintro e w' ⟨rfl, rfl⟩
      go_wp2
      go_loopw [7, 8] (fun v i wr => ∃ (j : Nat) (ad' : Option Addr) (cap' : Nat), j ≤ n ∧ i = .int .i64 j ∧ v = .slice ad' j cap' ∧ Row wr w.heap.size wr.heap.size .i64 3 ad' j cap' ((mac xs ys k).take j) ∧ Below w.heap.size w wr) (fun _ i _ => n - (intOf i).toNat)
      case atStart => exact ⟨0, _, 0, Nat.zero_le _, rfl, rfl, by simpa using Row.nil _ _ _ _ _ _, (Below.refl _ _).alloc (Nat.le_refl _) _⟩
      case round =>
        obtain ⟨j, ad', cap', hj, rfl, rfl, hr, hb⟩ := hrel
        have zb := hb.size
        by_cases hlt : j < n
        · obtain ⟨a, x, rfl, hx, hc⟩ := (s.below hb (.inr (Nat.le_refl _))).at_ hlt
          obtain ⟨a2, y, rfl, hy, hc2⟩ := (s2.below hb (.inr (Nat.le_refl _))).at_ hlt
          obtain ⟨x0, x1⟩ := vec_el HV1.out hx.get
          obtain ⟨y0, y1⟩ := vec_el HV2.out hy.get
          obtain ⟨p0, p1⟩ := prod_in y0 y1 k0 k1
          have HT := take_more (mac_get (k := k) hx.get hy.get)
          have HX := Lib.hid hx.get
          have HY := Lib.hid hy.get
          clear hx hy
          have hcs : ∀ w', Below w.heap.size w w' → w'.cell? (a.add j) = some (.int .i64 x) ∧ w'.cell? (a2.add j) = some (.int .i64 y) := fun w' h' => by
            obtain ⟨a', x', ha', hx', hc'⟩ := (s.below h' (.inr (Nat.le_refl _))).at_ hlt
            obtain ⟨a2', y', ha2', hy', hc2'⟩ := (s2.below h' (.inr (Nat.le_refl _))).at_ hlt
            obtain rfl := Option.some.inj ha'
            obtain rfl := Option.some.inj ha2'
            obtain rfl := Option.some.inj (HX.out.symm.trans hx'.get)
            obtain rfl := Option.some.inj (HY.out.symm.trans hy'.get)
            exact ⟨hc', hc2'⟩
          have e1 : IntKind.i64.wrap (y * k) = y * k := by rw [IntKind.wrap_i64]; omega
          have e2 : IntKind.i64.wrap (x + y * k) = x + y * k := by rw [IntKind.wrap_i64]; omega
          obtain ⟨z, hz⟩ : ∃ z, (x + y * k) % 1019 = z := ⟨_, rfl⟩
          have e3 : (x + y * k).tmod 1019 = z := by rw [Int.tmod_eq_emod_of_nonneg (by omega)]; exact hz
          have hz0 : 0 ≤ z ∧ z ≤ 1018 := by omega
          obtain ⟨hz0, hz1⟩ := hz0
          rw [hz] at HT
          replace HT := Lib.hid HT
          have B0 : Below w.heap.size w wr.drew := hb.drew
          have B1 : Below w.heap.size w (wr.alloc (.cells #[.int .i64 z] 3)).drew := (hb.alloc zb _).drew
          have hrd := (hr.alloc (.cells #[.int .i64 z] 3)).drewN 1
          change Row (wr.alloc (.cells #[.int .i64 z] 3)).drew _ _ _ _ _ _ _ _ at hrd
          have hone := (one wr .i64 3 z (fits_i64.2 (by omega))).drewN 1
          change Sl (wr.alloc (.cells #[.int .i64 z] 3)).drew _ _ _ _ _ _ _ at hone
          clear hz HX HY hr p0 p1
          go_wp2
          go_region_held3 (fun w' => w'.cell? (a.add j) = some (.int .i64 x) ∧ w'.cell? (a2.add j) = some (.int .i64 y) ∧ Below w.heap.size w w') (first | exact ⟨(hcs _ B0).1, (hcs _ B0).2, B0⟩ | exact ⟨(hcs _ B1).1, (hcs _ B1).2, B1⟩ | exact ⟨(hcs _ B5).1, (hcs _ B5).2, B5⟩)
            (first
            | (refine step_app hrd hone Tryd.underlying27 info_int (by unfold maxLen; omega) (by omega) (by simp; omega) rfl _ _ rfl rfl rfl ?_; intro ad5 cap5 w5 hr5 hm5; have B5 := B1.trans (hm5.below (Nat.le_refl _) (by have := B1.size; omega))))
          clear hrd hone hcs B0 B1 hb e1 e2 e3
          go_wp2
          go_roundw
          case rel => exact ⟨j + 1, _, _, by omega, by go_num, rfl, HT.out ▸ hr5, B5⟩
          case measure => simp [intOf]; omega
        · obtain rfl : j = n := by omega
          rw [List.take_of_length_le (by rw [HL.out, s.len]; exact Nat.le_refl _)] at hr
          have HR := Lib.hid hr
          clear hr
          go_wp2
          go_ret
          exact ⟨_, _, _, rfl, HR.out.lt, hb⟩

end Go.Proofs.YtkhfkccbnhjmjaaDoor.VecW
namespace Go.Proofs.YtkhfkccbnhjmjaaDoor.CombW
open Go.ChangeShapes Go.WideShapes Go.ChangeAt Go.RowKit
open Go.Proofs.YtkhfkccbnhjmjaaDoor.Seq Go.Proofs.YtkhfkccbnhjmjaaDoor.Help Go.Proofs.YtkhfkccbnhjmjaaDoor.Field Go.Proofs.YtkhfkccbnhjmjaaDoor.FieldW Go.Proofs.YtkhfkccbnhjmjaaDoor.Vec Go.Proofs.YtkhfkccbnhjmjaaDoor.VecW

set_option maxRecDepth 100000 in
theorem spec_comb (w : World) {l h l2 h2 : Nat} {ad ad2 : Option Addr} {n cap n2 cap2 : Nat} {xss : List (List Int)} {cs : List Int} (s : Sls w l h ad n cap xss) (s2 : Sl w l2 h2 .i64 ad2 n2 cap2 cs) (hr : ∀ xs ∈ xss, xs.length ≤ 17592186044416) :
    Calls Tryd.prog 59 #[.slice ad n cap, .slice ad2 n2 cap2] w (Gives .i64 3 (combine xss cs) w) := by
  have hbig := s.big
  have hcap := s.le
  have hbig2 := s2.big
  have hcap2 := s2.le
  unfold maxLen at hbig hbig2
  have HR := Lib.hid hr
  have h1 := spec_isVec w s2
  clear hr
  by_cases hn0 : n = 0
  · subst hn0
    have hx0 : xss = [] := List.eq_nil_of_length_eq_zero s.len
    subst hx0
    clear h1
    go_enter Tryd.func59, Tryd.ntmps59
    go_wp2
    go_ret
    exact ⟨_, _, _, rfl, Row.nil _ _ _ _ _ _, (Below.refl _ _).alloc (Nat.le_refl _) _⟩
  by_cases hnn : n = n2
  case neg =>
    have hE := combine_len (xss := xss) (cs := cs) (by rw [s.len, s2.len]; exact hnn)
    have hnn2 : ((n : Int) == n2) = false := by simp; omega
    have hnn3 : ((n : Int) != n2) = true := by simp; omega
    have hn00 : ((n : Int) == 0) = false := by simp; omega
    rw [hE]
    clear h1 hE hnn
    go_enter Tryd.func59, Tryd.ntmps59
    go_wp2
    go_ret
    exact ⟨_, _, _, rfl, Row.nil _ _ _ _ _ _, (Below.refl _ _).alloc (Nat.le_refl _) _⟩
  subst hnn
  have hn00 : ((n : Int) == 0) = false := by simp; omega
  cases hv : isVec cs
  · rw [hv] at h1
    rw [combine_cs hv]
    have H1 := Lib.hid h1
    clear h1 hv
    go_enter Tryd.func59, Tryd.ntmps59
    go_wp2_with fail
    go_at_call 11
    refine H1.out.mono ?_
    rintro e w' ⟨rfl, rfl⟩
    go_wp2
    go_ret
    exact ⟨_, _, _, rfl, Row.nil _ _ _ _ _ _, (Below.refl _ _).alloc (Nat.le_refl _) _⟩
  · rw [hv] at h1
    have H1 := Lib.hid h1
    have HV := Lib.hid hv
    have hn40 : n ≤ 40 := by rw [← s2.len]; exact (isVec_iff.1 hv).2
    have HL := Lib.hid (show xss.length = cs.length by rw [s.len, s2.len])
    clear h1 hv
    obtain ⟨a, ad0, n0, cap0, x0, rfl, hx0, hc0⟩ := s.at_ (j := 0) (by omega)
    have H0 := Lib.hid hx0.get
    have hn0m : n0 ≤ 17592186044416 := by rw [← hx0.sl.len]; exact HR.out _ (List.mem_of_getElem? hx0.get)
    have L0 := Lib.hid hx0.sl.len
    rw [add_0] at hc0
    clear hx0
    go_enter Tryd.func59, Tryd.ntmps59
    go_wp2_with fail
    go_at_call 11
    refine H1.out.mono ?_
    rintro e w' ⟨rfl, rfl⟩
    go_wp2_with (at_make; refine wpList_mk Tryd.underlying27 info_int (fits_i64.2 (by omega)) (by unfold maxLen; omega) (by omega) rfl _ _ rfl rfl rfl ?_; intro w1 hr1 hb1)
    have hz1 := hb1.size
    have e0 : List.replicate n0 (0 : Int) = combs n0 (xss.take 0) (cs.take 0) := rfl
    rw [e0] at hr1
    go_loopw [5, 6] (fun v i wr => ∃ (j m' : Nat) (ad' : Option Addr) (cap' : Nat), j ≤ n ∧ i = .int .i64 j ∧ v = .slice ad' m' cap' ∧ Row wr w.heap.size wr.heap.size .i64 3 ad' m' cap' (combs n0 (xss.take j) (cs.take j)) ∧ Hid (∀ y ∈ xss.take j, (isVec y && (y.length == n0)) = true) ∧ Below w.heap.size w wr) (fun _ i _ => n - (intOf i).toNat)
    case atStart => exact ⟨0, n0, _, _, Nat.zero_le _, rfl, rfl, hr1, fun y hy => by simp at hy, hb1⟩
    case round =>
      obtain ⟨j, m', ad', cap', hj, rfl, rfl, hr, HOK, hb⟩ := hrel
      have zb := hb.size
      by_cases hlt : j < n
      · have t := s.below hb (.inr (Nat.le_refl _))
        obtain ⟨a1, ad3, n3, cap3, xs, e1, hx, hc⟩ := t.at_ hlt
        obtain rfl := Option.some.inj e1
        obtain ⟨a2, c, rfl, hy, hc2⟩ := (s2.below hb (.inr (Nat.le_refl _))).at_ hlt
        have hc0' : wr.cell? a = some (.slice ad0 n0 cap0) := by
          obtain ⟨a3, ad4, n4, cap4, x4, e3, hx4, hc4⟩ := t.at_ (j := 0) (by omega)
          obtain rfl := Option.some.inj e3
          obtain ⟨a5, ad5, n5, cap5, x5, e5, hx5, hc5⟩ := s.at_ (j := 0) (by omega)
          obtain rfl := Option.some.inj e5
          have := (hb.cell (World.block_lt_of_cell? w _ hc0)).trans hc0
          exact this
        have hle3 := hx.sl.le
        have hbg3 := hx.sl.big
        unfold maxLen at hbg3
        have HX := Lib.hid hx.get
        have HY := Lib.hid hy.get
        have HX3 := Lib.hid hx.sl.len
        have hV := fun q => spec_isVec (wr.drewN q) (hx.sl.drewN q)
        have hsl := Lib.hid hx.sl
        clear hx hy t
        cases hvx : isVec xs
        · have hV' : ∀ q, Calls Tryd.prog 11 #[.slice ad3 n3 cap3] (wr.drewN q) fun e w' => e = .returned (.bool false) ∧ w' = wr.drewN q := fun q => (hV q).mono fun _ _ h => ⟨by rw [h.1, hvx], h.2.symm⟩
          have HE := Lib.hid (combine_row (cs := cs) H0.out HX.out (by rw [hvx]; rfl))
          have HV' := Lib.hid hV'
          have HRow := Lib.hid hr
          clear hV hV' hvx hr
          go_wp2
          go_quiet (exact Calls.quiet_of_same (HV'.out _))
          go_wp2
          go_ret
          rw [HE.out]
          exact ⟨_, _, _, rfl, Row.nil _ _ _ _ _ _, (below_drewN hb _).alloc zb _⟩
        · have hV' : ∀ q, Calls Tryd.prog 11 #[.slice ad3 n3 cap3] (wr.drewN q) fun e w' => e = .returned (.bool true) ∧ w' = wr.drewN q := fun q => (hV q).mono fun _ _ h => ⟨by rw [h.1, hvx], h.2.symm⟩
          have HV' := Lib.hid hV'
          by_cases hl3 : n3 = n0
          case neg =>
            have HE := Lib.hid (combine_row (cs := cs) H0.out HX.out (by rw [HX3.out, L0.out, hvx]; simpa using hl3))
            have hl4 : ((n3 : Int) == n0) = false := by simp; omega
            have hl5 : ((n3 : Int) != n0) = true := by simp; omega
            have HRow := Lib.hid hr
            clear hV hV' hvx hr hl3
            go_wp2
            go_quiet (exact Calls.quiet_of_same (HV'.out _))
            go_wp2
            go_ret
            rw [HE.out]
            exact ⟨_, _, _, rfl, Row.nil _ _ _ _ _ _, (below_drewN hb _).alloc zb _⟩
          subst hl3
          have HMore := Lib.hid (rows_more HX.out HOK.out (by rw [HX3.out, hvx]; simp))
          have HC := Lib.hid (combs_more (ws := n3) HX.out HY.out)
          have HRow := Lib.hid hr
          clear hV hV' hvx hr
          go_wp2
          go_quiet (exact Calls.quiet_of_same (HV'.out _))
          go_wp2
          have hbW : Below w.heap.size w (wr.drewN nq) := below_drewN hb nq
          have hcW : (wr.drewN nq).cell? (a.add j) = some (.slice ad3 n3 cap3) := hc
          have hcW2 : (wr.drewN nq).cell? (a2.add j) = some (.int .i64 c) := hc2
          have hRW : Row (wr.drewN nq) w.heap.size (wr.drewN nq).heap.size .i64 3 ad' m' cap' _ := HRow.out.drewN nq
          have hsW := hsl.out.drewN nq
          clear HRow hsl hc hc2 hc0' hb HV' zb
          generalize wr.drewN nq = W at *
          have HRW := Lib.hid hRW
          have HSW := Lib.hid hsW
          clear hRW hsW
          refine wp_region_still_tail 9 (by kernel_rfl) (by kernel_rfl) ?_
          simp only [List.take_succ_cons, List.take_zero, List.drop_succ_cons, List.drop_zero]
          repeat still_step
          refine wpStill_nil ?_
          change wpList _ _ _ _ _ W.drew
          have hA := spec_adds W.drew (HRW.out.drewN 1).sl (HSW.out.drewN 1) c
          rw [← HC.out] at hA
          have HA := Lib.hid hA
          have hbD : Below w.heap.size w W.drew := hbW.drew
          clear hA hcW hcW2 HRW HSW
          generalize W.drew = D at *
          have zD := hbD.size
          go_wp2_with fail
          go_at_call 82
          refine HA.out.mono ?_
          rintro e w5 ⟨ad5, n5, cap5, rfl, r5, b5⟩
          have HR5 := Lib.hid (r5.lo (l' := w.heap.size) zD)
          have HB5 := Lib.hid (hbD.trans (b5.mono zD))
          clear r5 b5 hbW hbD HA
          go_wp2
          go_roundw
          case rel => exact ⟨j + 1, _, _, _, by omega, by go_num, rfl, HR5.out, HMore.out, HB5.out⟩
          case measure => simp [intOf]; omega
      · obtain rfl : j = n := by omega
        have HE := Lib.hid (combine_ok H0.out s.len HL.out HV.out (by rw [L0.out]; exact HOK.out))
        have HRow := Lib.hid hr
        clear hr
        go_wp2
        go_ret
        rw [HE.out, L0.out]
        exact ⟨_, _, _, rfl, HRow.out.lt, hb⟩
end Go.Proofs.YtkhfkccbnhjmjaaDoor.CombW
namespace Go.Proofs.YtkhfkccbnhjmjaaDoor.Eq
open Go.ChangeShapes Go.WideShapes Go.ChangeAt Go.RowKit
open Go.Proofs.YtkhfkccbnhjmjaaDoor.Seq Go.Proofs.YtkhfkccbnhjmjaaDoor.Help

def same (xs ys : List Int) : Bool := decide (xs = ys)
theorem same_yes {xs ys : List Int} (h : xs = ys) : same xs ys = true := decide_eq_true h
theorem same_no {xs ys : List Int} (h : ¬ xs = ys) : same xs ys = false := decide_eq_false h
theorem differ2 {xs ys : List Int} {j : Nat} {x y : Int} (hx : xs[j]? = some x) (hy : ys[j]? = some y) (h : ¬ x = y) : ¬ xs = ys := by
  intro e; subst e; rw [hx] at hy; exact h (Option.some.inj hy)
theorem step {xs ys : List Int} {j : Nat} {x : Int} (h : xs.take j = ys.take j) (hx : xs[j]? = some x) (hy : ys[j]? = some x) : xs.take (j + 1) = ys.take (j + 1) := by
  obtain ⟨h1, rfl⟩ := List.getElem?_eq_some_iff.1 hx
  obtain ⟨h2, e2⟩ := List.getElem?_eq_some_iff.1 hy
  rw [List.take_succ_eq_append_getElem h1, List.take_succ_eq_append_getElem h2, h, e2]

def Said (b : Bool) (w : World) (e : Ending) (w' : World) : Prop := e = .returned (.bool b) ∧ Below w.heap.size w w'
theorem said_of {b c : Bool} {w w' : World} (h : b = c) (hb : Below w.heap.size w w') : Said b w (.returned (.bool c)) w' := by subst h; exact ⟨rfl, hb⟩

theorem spec_eqI (w : World) {l h l2 h2 : Nat} {ad ad2 : Option Addr} {n cap n2 cap2 : Nat} {xs ys : List Int} (s : Sl w l h .i64 ad n cap xs) (s2 : Sl w l2 h2 .i64 ad2 n2 cap2 ys) (hn : n ≤ 17592186044416) :
    Calls Tryd.prog 69 #[.slice ad n cap, .slice ad2 n2 cap2] w (Said (same xs ys) w) := by
  have hl := s.len
  have hl2 := s2.len
  by_cases hnn : n = n2
  · subst hnn
    have HL := Lib.hid hl
    have HL2 := Lib.hid hl2
    clear hl hl2
    go_enter Tryd.func69, Tryd.ntmps69
    go_wp2
    go_loopw [5] (fun i wr => ∃ j : Nat, j ≤ n ∧ i = .int .i64 j ∧ Hid (xs.take j = ys.take j) ∧ Below w.heap.size w wr) (fun i _ => n - (intOf i).toNat)
    case atStart => exact ⟨0, Nat.zero_le _, rfl, by simp [Hid], Below.refl _ _⟩
    case round =>
      obtain ⟨j, hj, rfl, HT, hb⟩ := hrel
      by_cases hlt : j < n
      · obtain ⟨a, x, rfl, hx, hc⟩ := (s.below hb (.inr (Nat.le_refl _))).at_ hlt
        obtain ⟨a2, y, rfl, hy, hc2⟩ := (s2.below hb (.inr (Nat.le_refl _))).at_ hlt
        by_cases hxy : x = y
        · subst hxy
          go_wp2
          go_quiet (fail)
          go_wp2
          go_roundw
          case rel => exact ⟨j + 1, by omega, by go_num, step HT.out hx.get hy.get, below_drewN hb _⟩
          case measure => simp [intOf]; omega
        · have HN := Lib.hid (same_no (differ2 hx.get hy.get hxy))
          have hxb : (x == y) = false := by simp [hxy]
          go_wp2
          go_quiet (fail)
          go_wp2
          go_ret
          exact said_of HN.out (below_drewN hb _)
      · obtain rfl : j = n := by omega
        have ht := HT.out
        rw [List.take_of_length_le (Nat.le_of_eq HL.out), List.take_of_length_le (Nat.le_of_eq HL2.out)] at ht
        have HN := Lib.hid (same_yes ht)
        clear ht
        go_wp2
        go_ret
        exact said_of HN.out hb
  · have HN := Lib.hid (same_no (xs := xs) (ys := ys) (fun e => hnn (by rw [← hl, ← hl2, e])))
    have hnb : (n == n2) = false := by simp [hnn]
    clear hl hl2
    go_enter Tryd.func69, Tryd.ntmps69
    go_wp2
    go_ret
    exact said_of HN.out (Below.refl _ _)


/-- The bytes of a list. -/
def bytesOf (xs : List Int) : List UInt8 := xs.map fun x => UInt8.ofNat x.toNat
def str (xs : List Int) : ByteArray := ⟨(bytesOf xs).toArray⟩
end Go.Proofs.YtkhfkccbnhjmjaaDoor.Eq
namespace Go.Proofs.YtkhfkccbnhjmjaaDoor.VecOps
open Go.ChangeShapes Go.WideShapes Go.ChangeAt Go.RowKit
open Go.Proofs.YtkhfkccbnhjmjaaDoor.Seq Go.Proofs.YtkhfkccbnhjmjaaDoor.Help Go.Proofs.YtkhfkccbnhjmjaaDoor.Field Go.Proofs.YtkhfkccbnhjmjaaDoor.FieldW Go.Proofs.YtkhfkccbnhjmjaaDoor.Vec

def AddsOp : Prop := ∀ (w : World) {l h l2 h2 : Nat} {ad ad2 : Option Addr} {n cap n2 cap2 : Nat} {xs ys : List Int}, Sl w l h .i64 ad n cap xs → n ≤ 17592186044416 → Sl w l2 h2 .i64 ad2 n2 cap2 ys → n2 ≤ 17592186044416 → ∀ k : Int,
  Calls Tryd.prog 75 #[.slice ad n cap, .slice ad2 n2 cap2, .int .i64 k] w (Gives .i64 3 (addScaled xs ys k) w)
def CombOp : Prop := ∀ (w : World) {l h l2 h2 : Nat} {ad ad2 : Option Addr} {n cap n2 cap2 : Nat} {xss : List (List Int)} {cs : List Int}, Sls w l h ad n cap xss → n ≤ 1099511627776 → (∀ xs ∈ xss, xs.length ≤ 17592186044416) → Sl w l2 h2 .i64 ad2 n2 cap2 cs → n2 ≤ 17592186044416 →
  Calls Tryd.prog 39 #[.slice ad n cap, .slice ad2 n2 cap2] w (Gives .i64 3 (combine xss cs) w)
end Go.Proofs.YtkhfkccbnhjmjaaDoor.VecOps
namespace Go.Proofs.YtkhfkccbnhjmjaaDoor.UvW
open Go.ChangeShapes Go.WideShapes Go.ChangeAt Go.RowKit
open Go.Proofs.YtkhfkccbnhjmjaaDoor.Seq Go.Proofs.YtkhfkccbnhjmjaaDoor.Help Go.Proofs.YtkhfkccbnhjmjaaDoor.Uv

end Go.Proofs.YtkhfkccbnhjmjaaDoor.UvW
namespace Go.Proofs.YtkhfkccbnhjmjaaDoor.RdW
open Go.ChangeShapes Go.WideShapes Go.ChangeAt Go.RowKit
open Go.Proofs.YtkhfkccbnhjmjaaDoor.Seq Go.Proofs.YtkhfkccbnhjmjaaDoor.Help Go.Proofs.YtkhfkccbnhjmjaaDoor.Uv Go.Proofs.YtkhfkccbnhjmjaaDoor.UvW Go.Proofs.YtkhfkccbnhjmjaaDoor.Rd

end Go.Proofs.YtkhfkccbnhjmjaaDoor.RdW
namespace Go.Proofs.YtkhfkccbnhjmjaaDoor.EncW
open Go.ChangeShapes Go.WideShapes Go.ChangeAt Go.RowKit
open Go.Proofs.YtkhfkccbnhjmjaaDoor.Seq Go.Proofs.YtkhfkccbnhjmjaaDoor.Help Go.Proofs.YtkhfkccbnhjmjaaDoor.Uv Go.Proofs.YtkhfkccbnhjmjaaDoor.UvW Go.Proofs.YtkhfkccbnhjmjaaDoor.Rd Go.Proofs.YtkhfkccbnhjmjaaDoor.RdW Go.Proofs.YtkhfkccbnhjmjaaDoor.Enc

end Go.Proofs.YtkhfkccbnhjmjaaDoor.EncW
namespace Go.Proofs.YtkhfkccbnhjmjaaDoor.HashW
open Go.ChangeShapes Go.WideShapes Go.ChangeAt Go.RowKit
open Go.Proofs.YtkhfkccbnhjmjaaDoor.Seq Go.Proofs.YtkhfkccbnhjmjaaDoor.Help Go.Proofs.YtkhfkccbnhjmjaaDoor.Hash

theorem rem_two (v : Int) : (0 ≤ v.tmod 2147483647 ∧ v.tmod 2147483647 = v % 2147483647) ∨ (v.tmod 2147483647 < 0 ∧ v.tmod 2147483647 = v % 2147483647 - 2147483647) := by
  by_cases h : 0 ≤ v
  · left
    rw [Int.tmod_eq_emod_of_nonneg h]
    omega
  · have h2 : (-v).tmod 2147483647 = (-v) % 2147483647 := Int.tmod_eq_emod_of_nonneg (by omega)
    rw [Int.neg_tmod] at h2
    omega

theorem ret_int {e : Ending} {x y : Int} (h : e = .returned (.int .i64 x)) (hx : x = y) : e = .returned (.int .i64 y) := by rw [h, hx]

theorem impl_mod (w : World) (v : Int) (_ : -9223372036854775808 ≤ v) (_ : v ≤ 9223372036854775807) :
    Calls Tryd.prog 106 #[.int .i64 v, .int .i64 2147483647] w fun e w' => e = .returned (.int .i64 (v % 2147483647)) ∧ w = w' := by
  rcases rem_two v with ⟨hr, e⟩ | ⟨hr, e⟩
  all_goals
    go_enter Tryd.func106, Tryd.ntmps106
    go_wp2
    go_ret
    exact ⟨ret_int rfl (by omega), rfl⟩
theorem spec_mod (w : World) (v : Int) (_ : -9223372036854775808 ≤ v) (_ : v ≤ 9223372036854775807) :
    Calls Tryd.prog 120 #[.int .i64 v, .int .i64 2147483647] w fun e w' => e = .returned (.int .i64 (v % 2147483647)) ∧ w = w' := by
  rcases rem_two v with ⟨hr, e⟩ | ⟨hr, e⟩
  all_goals
    go_enter Tryd.func120, Tryd.ntmps120
    go_wp2
    go_ret
    exact ⟨ret_int rfl (by omega), rfl⟩

/-- An answer that is a number. -/
def Says (x : Int) (w : World) (e : Ending) (w' : World) : Prop := e = .returned (.int .i64 x) ∧ Below w.heap.size w w'

theorem spec_hash (w : World) {l h : Nat} {ad : Option Addr} {n cap : Nat} {xs : List Int} (s : Sl w l h .i64 ad n cap xs) (hn : n ≤ 17592186044416) :
    Calls Tryd.prog 116 #[.slice ad n cap] w (Says (Hash.hash xs) w) := by
  have hcap := s.le
  go_enter Tryd.func116, Tryd.ntmps116
  go_wp2
  go_loopw [3, 4] (fun c i wr => ∃ (j : Nat) (z : Int), j ≤ n ∧ i = .int .i64 j ∧ c = .int .i64 z ∧ 0 ≤ z ∧ z ≤ 2147483646 ∧ Hid (z = Hash.hash (xs.take j)) ∧ Below w.heap.size w wr) (fun _ i _ => n - (intOf i).toNat)
  case atStart => exact ⟨0, 11, Nat.zero_le _, rfl, rfl, by omega, by omega, rfl, Below.refl _ _⟩
  case round =>
    obtain ⟨j, z, hj, rfl, rfl, hz0, hz1, HZ, hb⟩ := hrel
    by_cases hlt : j < n
    · obtain ⟨a, x, rfl, hx, hc⟩ := (s.below hb (.inr (Nat.le_refl _))).at_ hlt
      obtain ⟨hx0, hx1⟩ := fits_i64.1 hx.fits
      go_wp2_with fail
      go_at_call 120
      refine (spec_mod _ x hx0 hx1).mono ?_
      rintro e w' ⟨rfl, rfl⟩
      go_wp2
      go_roundw
      case rel => exact ⟨j + 1, hstep z x, by omega, by go_num, rfl, (hstep_in z x).1, (hstep_in z x).2, (show hstep z x = fold 11 (xs.take (j + 1)) by rw [fold_take hx.get]; exact congrArg (hstep · x) HZ.out), hb⟩
      case measure => simp [intOf]; omega
    · obtain rfl : j = n := by omega
      go_wp2
      go_ret
      refine ⟨ret_int rfl ?_, hb⟩
      rw [HZ.out, ← s.len, List.take_length]
theorem spec_khash (w : World) {l h : Nat} {ad : Option Addr} {n cap : Nat} {xs : List Int} (s : Sl w l h .i64 ad n cap xs) (hn : n ≤ 1000000000000) (k : Int) (hk0 : -9223372036854775808 ≤ k) (hk1 : k ≤ 9223372036854775807) :
    Calls Tryd.prog 112 #[.int .i64 k, .slice ad n cap] w (Says (khash k xs) w) := by
  have hk := fits_i64.2 ⟨hk0, hk1⟩
  have hr0 := Row.new w .i64 3 [k] 1 rfl (by decide) (by simpa using hk)
  have hs0 := s.alloc (.cells #[.int .i64 k] 3)
  go_enter Tryd.func112, Tryd.ntmps112
  have HE := Lib.hid (show Hash.hash (([k] ++ xs) ++ [k]) = khash k xs from rfl)
  go_wp2_with (first
    | (at_builtin; refine wpList_app hr0 hs0 Tryd.underlying27 info_int (by unfold maxLen; omega) (by omega) (by simp) rfl _ _ rfl rfl rfl ?_; intro ad1 cap1 w1 hr1 hm1)
    | (at_builtin; refine wpList_app (hr1.alloc _) (one w1 .i64 3 k hk) Tryd.underlying27 info_int (by unfold maxLen; omega) (by omega) (by have := hm1.size; simp at this ⊢; omega) rfl _ _ rfl rfl rfl ?_; intro ad2 cap2 w2 hr2 hm2)
    | (go_at_call 116; refine (spec_hash w2 hr2.sl (by omega)).mono ?_; rintro e w3 ⟨rfl, hb3⟩))
  go_ret
  have z1 := hm1.size
  have z2 := hm2.size
  simp at z1 z2
  have hb1 : Below w.heap.size w w1 := ((Below.refl _ w).alloc (Nat.le_refl _) _).trans (hm1.below (Nat.le_refl _) (by simp))
  have hb2 : Below w.heap.size w w2 := (hb1.alloc (by omega) _).trans (hm2.below (Nat.le_refl _) (by simp; omega))
  exact ⟨ret_int rfl HE.out, hb2.trans (hb3.mono (by omega))⟩
end Go.Proofs.YtkhfkccbnhjmjaaDoor.HashW
