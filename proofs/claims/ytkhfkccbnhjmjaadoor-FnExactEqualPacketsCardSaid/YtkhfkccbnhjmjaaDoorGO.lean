/-
  Arguments of the exact laws opened: a struct of a number and rows; a slice of integers, as the shapes have it.
  Arguments of any shape opened: slices of structs, structs, slices within slices. No program.
  Arguments of the exact laws from stage 10 on: slices of bytes too.
  A packet as an argument of a statement.
-/
import Derived.Test.YtkhfkccbnhjmjaaDoorGE
import Derived.Lib.SmallJoins
import Derived.Test.YtkhfkccbnhjmjaaDoorGF
namespace Go.Proofs.YtkhfkccbnhjmjaaDoor.Open
open Go.ChangeShapes Go.WideShapes Go.ChangeAt Go.RowKit Go.Lib Go.Deep Go.Joins
open Go.Proofs.YtkhfkccbnhjmjaaDoor.Seq Go.Proofs.YtkhfkccbnhjmjaaDoor.Help Go.Proofs.YtkhfkccbnhjmjaaDoor.Shape

section
variable {H : Type} {enc : TypeId × Value → H} {P : Program}
theorem rows_trod {k : IntKind} {t e q : TypeId} {W : World} {v : Value} {fuel : Nat} {x : DataW H × List MemPlace} (ht : P.underlying t = some (.slice e)) (he : P.underlying e = some (.slice q)) (hq : P.underlying q = some (.int k))
    (ce : P.cellsOf e = 1) (cq : P.cellsOf q = 1) (h : DataW.trod enc P W 0 (fun _ => true) true fuel t [v] = some x) : ∃ ad n cap, RowsAt k W v ad n cap := by
  rcases Deep.open_int_rows ht he hq ce cq h with ⟨h1, _⟩ | ⟨ad, len, cap, A, L, C, Z, h1, _, h3, h4, _, h6⟩
  · have h1' : v = .slice none 0 0 := by simpa using h1
    exact ⟨_, _, _, h1', Nat.le_refl _, fun _ => rfl, Nat.zero_le _, fun j hj => by omega⟩
  · have h1' : v = .slice (some ad) len cap := by simpa using h1
    refine ⟨_, _, _, h1', h3, fun h => by simp at h, h4, fun j hj => ?_⟩
    obtain ⟨g1, g2, g3, g4, g5, g6, g7⟩ := h6 j (by omega)
    refine ⟨ad, A j, L j, C j, rfl, g1, rfl, g2, g6, g3, fun i hi => ?_⟩
    have hA : ∃ a', A j = some a' := by
      cases hh : A j with
      | none => have := g6 hh; omega
      | some a' => exact ⟨a', rfl⟩
    obtain ⟨a', ha⟩ := hA
    have hz : i < (Z j).length := by omega
    refine ⟨a', (Z j).getD i 0, ha, ?_, (g7 a' ha).2 i (by omega)⟩
    rw [List.getD_eq_getElem?_getD, List.getElem?_eq_getElem hz]
    exact g5 _ (by simp)
theorem basis_at {t e q : TypeId} {f0 f1 : Field} {W : World} {r : Reach} {b0 : Nat} {v : Value} {d : DataW H} {ps : List MemPlace} (hs : P.underlying t = some (.struct #[f0, f1])) (hone : oneCellFields P #[f0, f1] = true) (hC : P.cellsOf t = 2)
    (h0 : P.underlying f0.type = some (.int .i64)) (ht : P.underlying f1.type = some (.slice e)) (he : P.underlying e = some (.slice q)) (hq : P.underlying q = some (.int .i64)) (ce : P.cellsOf e = 1) (cq : P.cellsOf q = 1)
    (hval : Value.okWide P W r b0 t v) (h : DataW.Trod enc P W 0 (fun _ => true) true t v d ps) : ∃ x, BasisI W 0 W.heap.size v x := by
  obtain ⟨v0, v1, y0, y1, n, rfl, _, _, t0, t1⟩ := open_agg2 hs hone hC hval h
  obtain ⟨W0, e0, _, hw⟩ := DataW.trod_int h0 t0
  obtain rfl : v0 = .int .i64 W0 := by simpa using e0
  obtain ⟨ad, m, cap, s⟩ := rows_trod ht he hq ce cq t1
  obtain ⟨xss, e1, s'⟩ := of_rows s
  exact ⟨(W0, xss), v1, rfl, fits_i64.1 hw, ad, m, cap, e1, s'⟩
end
theorem ints_in {w : World} {v : Value} {ad : Option Addr} {n cap : Nat} (h : Kit.IntsAt .i64 w v ad n cap) : ∃ x, IntSI w 0 w.heap.size v x := by
  obtain ⟨xs, e, s⟩ := of_ints h
  exact ⟨xs, ad, n, cap, e, s⟩
theorem rows_in {w : World} {v : Value} {ad : Option Addr} {n cap : Nat} (h : RowsAt .i64 w v ad n cap) : ∃ x, IntSSI w 0 w.heap.size v x := by
  obtain ⟨xss, e, s⟩ := of_rows h
  exact ⟨xss, ad, n, cap, e, s⟩
end Go.Proofs.YtkhfkccbnhjmjaaDoor.Open
namespace Go.Proofs.YtkhfkccbnhjmjaaDoor.Open
open Go.ChangeShapes Go.WideShapes Go.ChangeAt Go.RowKit Go.Lib Go.Deep Go.Joins
open Go.Proofs.YtkhfkccbnhjmjaaDoor.Seq Go.Proofs.YtkhfkccbnhjmjaaDoor.Deep

/-- A type of the program has a shape: a type by itself, or a struct's fields from an offset on. -/
inductive Fit (P : Program) : T → TypeId ⊕ (List Field × Nat) → Prop
  | num {k : IntKind} {t : TypeId} : P.underlying t = some (.int k) → Fit P (.i k) (.inl t)
  | list {a : T} {t e : TypeId} : P.underlying t = some (.slice e) → P.cellsOf e = a.K → Fit P a (.inl e) → Fit P (.l a) (.inl t)
  | struct {a b : T} {t : TypeId} {fs : List Field} : P.underlying t = some (.struct ⟨fs⟩) → P.cellsOf t = a.K + b.K → Fit P (.p a b) (.inr (fs, 0)) → Fit P (.p a b) (.inl t)
  | last {a : T} {f : Field} {o : Nat} : f.offset = o → P.cellsOf f.type = a.K → Fit P a (.inl f.type) → Fit P a (.inr ([f], o))
  | more {a b : T} {f : Field} {fs : List Field} {o : Nat} : f.offset = o → P.cellsOf f.type = a.K → Fit P a (.inl f.type) → Fit P b (.inr (fs, o + a.K)) → Fit P (.p a b) (.inr (f :: fs, o))
def dflt : (t : T) → t.den
  | .i _ => (0 : Int)
  | .l _ => []
  | .p a b => (dflt a, dflt b)
section
variable {H : Type} {enc : TypeId × Value → H} {P : Program} {w : World} {sp : Nat → Bool} {hd : Bool}
/-- The cells lie where pl says. -/
def Lies (w : World) (pl : Option Addr) (cs : List Value) : Prop := ∀ a, pl = some a → ∀ (i : Nat) (c : Value), cs[i]? = some c → w.cell? (a.add i) = some c
def Opens {H : Type} (enc : TypeId × Value → H) (P : Program) (w : World) (sp : Nat → Bool) (hd : Bool) (t : T) : TypeId ⊕ (List Field × Nat) → Prop
  | .inl ty => ∀ (fuel : Nat) (cs : List Value) (y : DataW H × List MemPlace) (pl : Option Addr), DataW.trod enc P w 0 sp hd fuel ty cs = some y → Lies w pl cs → ∃ x, Rd w 0 w.heap.size t pl cs x
  | .inr (fs, o) => ∀ (cs : List Value) (pl : Option Addr), o + t.K ≤ cs.length → Lies w pl cs → (∀ f ∈ fs, ∃ n y, DataW.trod enc P w 0 sp hd n f.type ((cs.drop f.offset).take (P.cellsOf f.type)) = some y) →
      ∃ x, Rd w 0 w.heap.size t (pl.map (·.add o)) ((cs.drop o).take t.K) x
theorem Lies.cut {pl : Option Addr} {cs : List Value} (h : Lies w pl cs) (o k : Nat) : Lies w (pl.map (·.add o)) ((cs.drop o).take k) := by
  intro a ha i c hc
  cases pl with
  | none => cases ha
  | some A =>
    obtain rfl := Option.some.inj ha
    rw [List.getElem?_take] at hc
    split at hc
    · rw [List.getElem?_drop] at hc
      rw [Addr.add_add]
      exact h A rfl _ _ hc
    · cases hc
theorem Lies.one {pl : Option Addr} {c : Value} (h : Lies w pl [c]) : ∀ a, pl = some a → 0 ≤ a.block ∧ a.block < w.heap.size ∧ w.cell? a = some c := by
  intro a ha
  have h1 := h a ha 0 c rfl
  rw [Deep.add_zero] at h1
  exact ⟨Nat.zero_le _, World.block_lt_of_cell? _ _ h1, h1⟩
theorem opens {t : T} {s : TypeId ⊕ (List Field × Nat)} (h : Fit P t s) : Opens enc P w sp hd t s := by
  induction h with
  | num ht =>
    intro fuel cs y pl hy hl
    obtain ⟨n, rfl, _, hw⟩ := DataW.trod_int ht hy
    exact ⟨n, rfl, hw, hl.one⟩
  | @list a t e ht hc _ ih =>
    intro fuel cs y pl hy hl
    rcases open_slice ht hy with ⟨rfl, _⟩ | ⟨A, len, cap, m, n, D, Pl, rfl, _, h1, h2, h3, _, h4⟩
    · exact ⟨[], none, 0, 0, rfl, rfl, Nat.le_refl _, Nat.zero_le _, fun _ => rfl, hl.one, fun j x hx => by simp at hx⟩
    · have hm : len ≤ m := by rw [h3]; split <;> omega
      have : Inhabited a.den := ⟨dflt a⟩
      obtain ⟨f, hf⟩ := choose_lt (n := len) (p := fun j (x : a.den) => ∃ es, Rd w 0 w.heap.size a (some (A.add (j * a.K))) es x) (fun j hj => by
        obtain ⟨cs', c1, c2⟩ := h4 j (by omega)
        rw [hc] at c1
        obtain ⟨_, c3, c4⟩ := World.cells?_some c1
        obtain ⟨x, hx⟩ := ih n cs' _ (some (A.add (j * a.K))) c2 (fun a' ha' i c hci => by
          obtain rfl := Option.some.inj ha'
          have hi : i < cs'.length := (List.getElem?_eq_some_iff.1 hci).1
          rw [c4 i (by omega)]; exact hci)
        exact ⟨x, cs', hx⟩)
      refine ⟨(List.range len).map f, some A, len, cap, rfl, by simp, h1, h2, fun h => (by cases h), hl.one, fun j x hx => ?_⟩
      rw [List.getElem?_map] at hx
      obtain ⟨j', hj', rfl⟩ := Option.map_eq_some_iff.1 hx
      have hlt : j < len := by
        have := (List.getElem?_eq_some_iff.1 hj').1
        simpa using this
      rw [List.getElem?_range hlt] at hj'
      obtain rfl := Option.some.inj hj'
      obtain ⟨es, r⟩ := hf j hlt
      exact ⟨A, es, rfl, r⟩
  | @struct a b t fs ht hc _ ih =>
    intro fuel cs y pl hy hl
    obtain ⟨xs, n, _, _, hlen, hxs, hf⟩ := DataW.trod_struct ht hy
    have hK : cs.length = (T.p a b).K := hlen.trans hc
    obtain ⟨x, r⟩ := ih cs pl (by omega) hl (fun f hfm => by
      obtain ⟨i, hi⟩ := List.mem_iff_getElem?.1 hfm
      have h1 := hf i f (by simpa using hi)
      have h2 : i < xs.length := by rw [hxs]; exact (List.getElem?_eq_some_iff.1 hi).1
      rw [List.getElem?_eq_getElem h2] at h1
      exact ⟨n, _, h1⟩)
    refine ⟨x, ?_⟩
    rw [List.drop_zero, List.take_of_length_le (Nat.le_of_eq hK)] at r
    rw [show (fun a : Addr => a.add 0) = id from funext Deep.add_zero, Option.map_id] at r
    exact r
  | @last a f o ho hc _ ih =>
    intro cs pl hK hl hf
    obtain ⟨n, y, hy⟩ := hf f (by simp)
    rw [ho, hc] at hy
    exact ih n _ y (pl.map (·.add o)) hy (hl.cut o a.K)
  | @more a b f fs o ho hc _ _ ih1 ih2 =>
    intro cs pl hK hl hf
    have hK' : o + (a.K + b.K) ≤ cs.length := hK
    obtain ⟨n, y, hy⟩ := hf f (by simp)
    rw [ho, hc] at hy
    obtain ⟨x1, r1⟩ := ih1 n _ y (pl.map (·.add o)) hy (hl.cut o a.K)
    obtain ⟨x2, r2⟩ := ih2 cs pl (by omega) hl fun g hg => hf g (by simp [hg])
    refine ⟨(x1, x2), (cs.drop o).take a.K, (cs.drop (o + a.K)).take b.K, ?_, r1, ?_⟩
    · show (cs.drop o).take (a.K + b.K) = _
      rw [List.take_add, List.drop_drop]
    · rw [Option.map_map]
      rw [show ((fun x : Addr => x.add a.K) ∘ fun x => x.add o) = fun x : Addr => x.add (o + a.K) from funext fun x => Addr.add_add _ _ _]
      exact r2
/-- A slice of anything, as an argument. -/
theorem list_at {a : T} {t : TypeId} (hf : Fit P (.l a) (.inl t)) {e : TypeId} (ht : P.underlying t = some (.slice e)) {r : Reach} {b0 : Nat} {v : Value} {d : DataW H} {ps : List MemPlace} (hval : Value.okWide P w r b0 t v) (h : DataW.Trod enc P w 0 sp hd t v d ps) :
    ∃ x, Rd w 0 w.heap.size (.l a) none [v] x := by
  obtain ⟨ad, n, cap, rfl⟩ := okWide_slice ht hval
  obtain ⟨fuel, hy⟩ := h
  exact opens hf fuel _ _ none hy fun _ h => by cases h
/-- A struct, as an argument. -/
theorem struct_at {a b : T} {t : TypeId} (hf : Fit P (.p a b) (.inl t)) {fs : Array Field} (ht : P.underlying t = some (.struct fs)) {r : Reach} {b0 : Nat} {v : Value} {d : DataW H} {ps : List MemPlace} (hval : Value.okWide P w r b0 t v) (h : DataW.Trod enc P w 0 sp hd t v d ps) :
    ∃ cs x, v = .agg cs ∧ Rd w 0 w.heap.size (.p a b) none cs.toList x := by
  obtain ⟨cs, rfl, _⟩ := okWide_struct ht hval
  obtain ⟨fuel, hy⟩ := h
  obtain ⟨x, r⟩ := opens hf fuel _ _ none hy fun _ h => by cases h
  exact ⟨cs, x, rfl, r⟩
end
end Go.Proofs.YtkhfkccbnhjmjaaDoor.Open
namespace Go.Proofs.YtkhfkccbnhjmjaaDoor.Open
open Go.ChangeShapes Go.WideShapes Go.ChangeAt Go.RowKit Go.Lib
open Go.Proofs.YtkhfkccbnhjmjaaDoor.Seq Go.Proofs.YtkhfkccbnhjmjaaDoor.Help Go.Proofs.YtkhfkccbnhjmjaaDoor.Shape Go.Proofs.YtkhfkccbnhjmjaaDoor.Deep

theorem bytes_in {w : World} {v : Value} {ad : Option Addr} {n cap : Nat} (h : Kit.IntsAt .u8 w v ad n cap) : ∃ x, ByteSI w 0 w.heap.size v x := by
  obtain ⟨xs, e, s⟩ := of_ints h
  exact ⟨xs, ad, n, cap, e, s⟩
end Go.Proofs.YtkhfkccbnhjmjaaDoor.Open
namespace Go.Proofs.YtkhfkccbnhjmjaaDoor.Open
open Go.RowKit
open Go.Proofs.YtkhfkccbnhjmjaaDoor.Seq Go.Proofs.YtkhfkccbnhjmjaaDoor.Shape Go.Proofs.YtkhfkccbnhjmjaaDoor.Deep

theorem packet_in {w : World} {v : Value} (h : ∃ cs x, v = .agg cs ∧ Rd w 0 w.heap.size tPkt none cs.toList x) : ∃ x, CodedPacketI w 0 w.heap.size v x := by
  obtain ⟨cs, x, rfl, r⟩ := h
  have hl : cs.toList.length = 3 := r.len
  obtain ⟨c0, c1, c2, e⟩ : ∃ c0 c1 c2, cs.toList = [c0, c1, c2] := by
    match cs.toList, hl with
    | [a, b, c], _ => exact ⟨a, b, c, rfl⟩
  have ec : cs = #[c0, c1, c2] := by
    rw [← Array.toArray_toList (xs := cs), e]
  subst ec
  exact ⟨x, c0, c1, c2, rfl, r⟩
end Go.Proofs.YtkhfkccbnhjmjaaDoor.Open
