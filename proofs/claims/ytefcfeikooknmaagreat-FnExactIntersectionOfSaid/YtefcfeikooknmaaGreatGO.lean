/-
  Arguments of the exact laws opened: a struct of a number and rows; a slice of integers, as the shapes have it.
-/
import Derived.Test.YtefcfeikooknmaaGreatGM
import Derived.Lib.SmallJoins
namespace Go.Proofs.YtefcfeikooknmaaGreat.Open
open Go.ChangeShapes Go.WideShapes Go.ChangeAt Go.RowKit Go.Lib Go.Deep Go.Joins
open Go.Proofs.YtefcfeikooknmaaGreat.Seq Go.Proofs.YtefcfeikooknmaaGreat.Help Go.Proofs.YtefcfeikooknmaaGreat.Shape

section
variable {H : Type} {enc : TypeId × Value → H} {P : Program}
theorem rows_trod {k : IntKind} {t e q : TypeId} {W : World} {v : Value} {fuel : Nat} {x : DataW H × List MemPlace} (ht : P.underlying t = some (.slice e)) (he : P.underlying e = some (.slice q)) (hq : P.underlying q = some (.int k))
    (ce : P.cellsOf e = 1) (cq : P.cellsOf q = 1) (h : DataW.trod enc P W 0 (fun _ => true) true fuel t [v] = some x) : ∃ ad n cap, RowsAt k W v ad n cap := by
  rcases Deep.open_int_rows ht he hq ce cq h with ⟨h1, _⟩ | ⟨ad, len, cap, A, L, C, Z, h1, _, h3, h4, _, h6⟩
  · have h1' : v = .slice none 0 0 := by simpa using h1
    exact ⟨_, _, _, h1', Nat.le_refl _, fun _ => rfl, Nat.zero_le _, fun j hj => by omega⟩
  · have h1' : v = .slice (some ad) len cap := by simpa using h1
    refine ⟨_, _, _, h1', h3, fun h => by simp at h, h4, fun j hj => ?_⟩
    obtain ⟨g1, g2, g3, g4, g5, g6, g7⟩ := h6 j (by omega)
    refine ⟨ad, A j, L j, C j, rfl, g1, rfl, g2, g6, g3, fun i hi => ?_⟩
    have hA : ∃ a', A j = some a' := by
      cases hh : A j with
      | none => have := g6 hh; omega
      | some a' => exact ⟨a', rfl⟩
    obtain ⟨a', ha⟩ := hA
    have hz : i < (Z j).length := by omega
    refine ⟨a', (Z j).getD i 0, ha, ?_, (g7 a' ha).2 i (by omega)⟩
    rw [List.getD_eq_getElem?_getD, List.getElem?_eq_getElem hz]
    exact g5 _ (by simp)
theorem basis_at {t e q : TypeId} {f0 f1 : Field} {W : World} {r : Reach} {b0 : Nat} {v : Value} {d : DataW H} {ps : List MemPlace} (hs : P.underlying t = some (.struct #[f0, f1])) (hone : oneCellFields P #[f0, f1] = true) (hC : P.cellsOf t = 2)
    (h0 : P.underlying f0.type = some (.int .i64)) (ht : P.underlying f1.type = some (.slice e)) (he : P.underlying e = some (.slice q)) (hq : P.underlying q = some (.int .i64)) (ce : P.cellsOf e = 1) (cq : P.cellsOf q = 1)
    (hval : Value.okWide P W r b0 t v) (h : DataW.Trod enc P W 0 (fun _ => true) true t v d ps) : ∃ x, BasisI W 0 W.heap.size v x := by
  obtain ⟨v0, v1, y0, y1, n, rfl, _, _, t0, t1⟩ := open_agg2 hs hone hC hval h
  obtain ⟨W0, e0, _, hw⟩ := DataW.trod_int h0 t0
  obtain rfl : v0 = .int .i64 W0 := by simpa using e0
  obtain ⟨ad, m, cap, s⟩ := rows_trod ht he hq ce cq t1
  obtain ⟨xss, e1, s'⟩ := of_rows s
  exact ⟨(W0, xss), v1, rfl, fits_i64.1 hw, ad, m, cap, e1, s'⟩
end
theorem ints_in {w : World} {v : Value} {ad : Option Addr} {n cap : Nat} (h : Kit.IntsAt .i64 w v ad n cap) : ∃ x, IntSI w 0 w.heap.size v x := by
  obtain ⟨xs, e, s⟩ := of_ints h
  exact ⟨xs, ad, n, cap, e, s⟩
theorem rows_in {w : World} {v : Value} {ad : Option Addr} {n cap : Nat} (h : RowsAt .i64 w v ad n cap) : ∃ x, IntSSI w 0 w.heap.size v x := by
  obtain ⟨xss, e, s⟩ := of_rows h
  exact ⟨xss, ad, n, cap, e, s⟩
end Go.Proofs.YtefcfeikooknmaaGreat.Open
