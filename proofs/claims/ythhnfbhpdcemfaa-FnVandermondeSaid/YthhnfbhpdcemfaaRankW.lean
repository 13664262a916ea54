/-
  Elimination, of the model: the reduced rows and the rank.
-/
import Derived.Test.YthhnfbhpdcemfaaElimR
namespace Go.Proofs.Ythhnfbhpdcemfaa.RedW
open Go.ChangeShapes Go.WideShapes Go.ChangeAt Go.RowKit
open Go.Proofs.Ythhnfbhpdcemfaa.Seq Go.Proofs.Ythhnfbhpdcemfaa.Help Go.Proofs.Ythhnfbhpdcemfaa.Field Go.Proofs.Ythhnfbhpdcemfaa.FieldW Go.Proofs.Ythhnfbhpdcemfaa.Vec Go.Proofs.Ythhnfbhpdcemfaa.VecW Go.Proofs.Ythhnfbhpdcemfaa.Mat Go.Proofs.Ythhnfbhpdcemfaa.MatW Go.Proofs.Ythhnfbhpdcemfaa.MatP Go.Proofs.Ythhnfbhpdcemfaa.Lin Go.Proofs.Ythhnfbhpdcemfaa.Rref

/-- What elimination over all columns leaves are the reduced rows. -/
theorem elim_rref {m : List (List Int)} {A : Nat} {M : Nat → V} {p : Nat → Nat} (hm : isMat m = true) (h : Elim m.length A (colsOf m) M p) (h1 : ∀ l, l < m.length → Span m.length (ent m) (M l)) (h2 : ∀ l, l < m.length → Span m.length M (ent m l)) : mk A (colsOf m) M = rref m :=
  (rref_is invF invF_ok hm ⟨A, M, p, rfl, h.red, h.le, fun i hi => h1 i (Nat.lt_of_lt_of_le hi h.le), fun l hl => h.span (fun l j hl hj => supp_span (fun l _ => ent_supp hm l) (h1 l hl) j hj) (h2 l hl)⟩).symm
theorem few_rref (m : List (List Int)) : (rref m).length ≤ 40 ∧ ∀ xs ∈ rref m, xs.length ≤ 40 := by
  cases hm : isMat m
  · rw [rref_no hm]; exact ⟨Nat.zero_le _, by simp⟩
  · obtain ⟨n, R, p, hr, _, hn, _, _⟩ := rref_red invF invF_ok hm
    have := (isMat_iff.1 hm).2
    rw [hr]
    refine ⟨by rw [mk_len]; omega, fun xs hx => ?_⟩
    obtain ⟨i, _, rfl⟩ := List.mem_map.1 hx
    rw [vec_len]; exact colsOf_le hm
set_option maxRecDepth 100000 in
theorem spec_rref (w : World) {l h : Nat} {ad : Option Addr} {n cap : Nat} {m : List (List Int)} (s : Sls w l h ad n cap m) :
    Calls Try.prog 64 #[.slice ad n cap] w (Reads2 (rref m) w) := by
  have K1 := spec_isMat w s
  cases hm : isMat m
  · rw [hm] at K1
    have HE := Lib.hid (rref_no hm)
    have K1 := Lib.hid K1
    clear hm
    rw [HE.out]
    go_enter Try.func64, Try.ntmps64
    go_wp2_with fail
    go_at_call 16
    refine K1.out.mono ?_
    rintro e w1 ⟨rfl, q, rfl⟩
    go_wp2
    go_ret
    exact ⟨_, _, _, rfl, (Grid.nil _ _ _ 3 30 _).sls, (below_drewN (Below.refl _ _) q).alloc (Nat.le_refl _) _⟩
  rw [hm] at K1
  have K1 := Lib.hid K1
  have K2 := Lib.hid (fun q => spec_cols (w.drewN q) (s.drewN q))
  have K3 := Lib.hid (fun q => spec_reduce (w.drewN q) (s.drewN q) hm (colsOf m) (Nat.le_refl _))
  have HE := Lib.hid (fun (A : Nat) (M : Nat → V) (p : Nat → Nat) => elim_rref (A := A) (M := M) (p := p) hm)
  clear hm
  go_enter Try.func64, Try.ntmps64
  go_wp2_with fail
  go_at_call 16
  refine K1.out.mono ?_
  rintro e w1 ⟨rfl, q, rfl⟩
  go_wp2_with fail
  go_at_call 17
  refine (K2.out _).mono ?_
  rintro e w' ⟨rfl, rfl⟩
  go_wp2_with fail
  go_at_call 84
  refine (K3.out _).mono ?_
  rintro e w2 ⟨A, M, p, h1, h2, h3, ad2, n2, cap2, rfl, r2, b2⟩
  rw [HE.out A M p h1 h2 h3] at r2
  have HR := Lib.hid r2
  have HB := Lib.hid ((below_drewN (Below.refl w.heap.size w) q).trans b2)
  clear h1 h2 h3 r2 b2
  go_wp2
  go_ret
  exact ⟨_, _, _, rfl, HR.out, HB.out⟩
theorem spec_rank (w : World) {l h : Nat} {ad : Option Addr} {n cap : Nat} {m : List (List Int)} (s : Sls w l h ad n cap m) :
    Calls Try.prog 27 #[.slice ad n cap] w fun e w' => e = .returned (.int .i64 (rref m).length) ∧ Below w.heap.size w w' := by
  have K := Lib.hid (spec_rref w s)
  go_enter Try.func27, Try.ntmps27
  go_wp2_with fail
  go_at_call 64
  refine K.out.mono ?_
  rintro e w2 ⟨ad2, n2, cap2, rfl, r2, b2⟩
  have HL := Lib.hid r2.len
  clear r2
  go_wp2
  go_ret
  exact ⟨by rw [HL.out]; rfl, b2⟩
end Go.Proofs.Ythhnfbhpdcemfaa.RedW
