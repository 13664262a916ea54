/-
  The model's FormatInt returns the decimal numeral of its argument, for every int: walks over the program's text.
-/
import Derived.Test.YtlkonkgfkelojaaDoorChecked
import Derived.Test.YtlkonkgfkelojaaDoorNum
import Derived.WalkKit
import Derived.ProofKit
import Derived.OpenShut
import Derived.Below
import Derived.BigCall
import Derived.Laws.IdiomStrings
namespace Go.Proofs.YtlkonkgfkelojaaDoor.Fmt
open Go.ChangeShapes Go.WideShapes Go.ChangeAt Go.RowKit
open Go.Lib (decDigits itoa nDigits)
open Go.Proofs.YtlkonkgfkelojaaDoor.Num

/-- 'string([]byte{x})' of a new block's one byte. -/
theorem one_byte (w : World) (z : Int) (m : Nat) (hz : z = ((48 + m % 10 : Nat) : Int)) :
    (convert 22 9 (.slice (some ⟨w.heap.size, 0, none⟩) 1 1)).run Tryd.prog (w.alloc (.cells #[.int .u8 z] 5)) = .ok (.string ⟨#[dch m]⟩) (w.alloc (.cells #[.int .u8 z] 5)) := by
  subst hz
  have h := run_convert_bytes_back (P := Tryd.prog) (w.alloc (.cells #[.int .u8 ((48 + m % 10 : Nat) : Int)] 5)) 22 9 5 ⟨w.heap.size, 0, none⟩ 1 [dch m] Tryd.underlying22 Tryd.underlying5 Tryd.underlying9 (fun j hj => by
    have hj0 : j = 0 := by simpa using hj
    subst hj0
    rw [Lib.add_plain, World.cell?_alloc_new]
    unfold dch
    simp only [List.getElem_cons_zero]
    rw [ofNat_toNat (by omega)]
    rfl)
  exact h

theorem push1 (c : UInt8) (acc : List UInt8) : (⟨#[c]⟩ : ByteArray) ++ ⟨acc.toArray⟩ = ⟨(c :: acc).toArray⟩ := by
  apply ByteArray.ext; rw [ByteArray.data_append]; simp
theorem acc_step {m n : Nat} {acc : List UInt8} (h : pre m ++ acc = decDigits n) (h0 : ¬ m = 0) : pre (m / 10) ++ (dch m :: acc) = decDigits n := by
  rw [← h, pre_step h0, List.append_assoc]; rfl
theorem acc_len {a acc : List UInt8} {n : Nat} (h : a ++ acc = decDigits n) (h2 : n ≤ 9223372036854775808) : acc.length ≤ 20 := by
  have := congrArg List.length h
  rw [List.length_append, Lib.decDigits_length] at this
  have := Lib.nDigits_le20 n (by omega)
  omega

theorem pos (n : Nat) (w : World) (h1 : 1 ≤ n) (h2 : n ≤ 9223372036854775807) :
    Calls Tryd.prog 14 #[.int .i64 n] w fun e w' => e = .returned (.string ⟨(itoa n).toArray⟩) ∧ Below w.heap.size w w' := by
  go_enter Tryd.func14, Tryd.ntmps14
  go_wp2
  go_loopw [3, 4] (fun s x wr => ∃ (m : Nat) (acc : List UInt8), m ≤ n ∧ pre m ++ acc = decDigits n ∧ s = .string ⟨acc.toArray⟩ ∧ x = .int .i64 m ∧ Below w.heap.size w wr) (fun _ x _ => (intOf x).toNat)
  case atStart => exact ⟨n, [], Nat.le_refl _, by rw [pre_pos (by omega), List.append_nil], rfl, rfl, Below.refl _ _⟩
  case round =>
    obtain ⟨m, acc, hm, hacc, rfl, rfl, hb⟩ := hrel
    by_cases h0 : m = 0
    · rw [h0, pre_zero, List.nil_append] at hacc
      have h0' : m ≤ 0 := by omega
      have HA := Lib.hid hacc
      clear hacc h0
      go_wp2
      go_ret
      exact ⟨by rw [Lib.itoa_nonneg, HA.out]; rfl, hb⟩
    · have h3 : 1 ≤ m := by omega
      have hcv := fun wr => one_byte wr (48 + (m : Int) % 10) m (by omega)
      have hl := acc_len hacc (by omega)
      have HA := Lib.hid hacc
      clear hacc
      go_wp2
      go_roundw
      case rel => exact ⟨m / 10, dch m :: acc, by omega, acc_step HA.out h0, by rw [push1], by go_num, hb.alloc hb.size _⟩
      case measure => simp [intOf]; omega

theorem neg (n : Nat) (w : World) (h1 : 1 ≤ n) (h2 : n ≤ 9223372036854775808) :
    Calls Tryd.prog 14 #[.int .i64 (-(n : Int))] w fun e w' => e = .returned (.string ⟨(itoa (-(n : Int))).toArray⟩) ∧ Below w.heap.size w w' := by
  go_enter Tryd.func14, Tryd.ntmps14
  go_wp2
  go_loopw [3, 4] (fun s x wr => ∃ (m : Nat) (acc : List UInt8), m ≤ n ∧ pre m ++ acc = decDigits n ∧ s = .string ⟨acc.toArray⟩ ∧ x = .int .i64 (-(m : Int)) ∧ Below w.heap.size w wr) (fun _ x _ => (-(intOf x)).toNat)
  case atStart => exact ⟨n, [], Nat.le_refl _, by rw [pre_pos (by omega), List.append_nil], rfl, rfl, Below.refl _ _⟩
  case round =>
    obtain ⟨m, acc, hm, hacc, rfl, rfl, hb⟩ := hrel
    by_cases h0 : m = 0
    · rw [h0, pre_zero, List.nil_append] at hacc
      have hl := acc_len (a := []) hacc (by omega)
      have h0' : m ≤ 0 := by omega
      have HA := Lib.hid hacc
      clear hacc h0
      go_wp2
      go_ret
      exact ⟨by rw [Lib.itoa_neg _ h1, ← HA.out, ← push1]; rfl, hb⟩
    · have h3 : 1 ≤ m := by omega
      have hcv := fun wr => one_byte wr (48 + (m : Int) % 10) m (by omega)
      have hl := acc_len hacc (by omega)
      have HA := Lib.hid hacc
      clear hacc
      have hcn := fun wr => one_byte wr (48 + -((m : Int) % 10)) m
      by_cases hd : m % 10 = 0
      · have hcw := fun wr => hcn wr (by omega)
        clear hcn
        go_wp2
        go_roundw
        case rel => exact ⟨m / 10, dch m :: acc, by omega, acc_step HA.out h0, by rw [push1], by go_num, hb.alloc hb.size _⟩
        case measure => simp [intOf]; omega
      · clear hcn
        go_wp2
        go_roundw
        case rel => exact ⟨m / 10, dch m :: acc, by omega, acc_step HA.out h0, by rw [push1], by go_num, hb.alloc hb.size _⟩
        case measure => simp [intOf]; omega

/-- The model's FormatInt, at every int. -/
theorem format (n : Int) (w : World) (h1 : -9223372036854775808 ≤ n) (h2 : n ≤ 9223372036854775807) :
    Calls Tryd.prog 14 #[.int .i64 n] w fun e w' => e = .returned (.string ⟨(itoa n).toArray⟩) ∧ Below w.heap.size w w' := by
  rcases Int.lt_trichotomy n 0 with h | h | h
  · obtain ⟨u, rfl⟩ : ∃ u : Nat, n = -(u : Int) := ⟨n.natAbs, by omega⟩
    exact neg u w (by omega) (by omega)
  · subst h
    go_enter Tryd.func14, Tryd.ntmps14
    go_wp2
    go_ret
    exact ⟨by rw [show (0 : Int) = ((0 : Nat) : Int) from rfl, Lib.itoa_nonneg, Lib.decDigits_one (by omega)]; rfl, Below.refl _ _⟩
  · obtain ⟨u, rfl⟩ : ∃ u : Nat, n = (u : Int) := ⟨n.toNat, by omega⟩
    exact pos u w (by omega) (by omega)
end Go.Proofs.YtlkonkgfkelojaaDoor.Fmt
