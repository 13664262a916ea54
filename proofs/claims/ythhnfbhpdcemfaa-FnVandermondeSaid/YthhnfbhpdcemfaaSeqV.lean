/-
  Slices of one-cell values in memory (slices of slices, of strings): one that reads as a list of values (SlV), one that the call itself has made (RowV), and what append, make and a store do to them. No program.
-/
import Derived.Test.YthhnfbhpdcemfaaSeq
namespace Go.Proofs.Ythhnfbhpdcemfaa.Seq
open Go.RowKit

/-- The slice with this address, length and capacity reads as the list us; its cells lie in blocks from l up to (not with) h. -/
structure SlV (w : World) (l h : Nat) (ad : Option Addr) (n cap : Nat) (us : List Value) : Prop where
  len : us.length = n
  le : n ≤ cap
  big : cap ≤ maxLen
  nil : ad = none → cap = 0
  one : ∀ u ∈ us, u.oneCell' = true
  cells : ∀ j u, us[j]? = some u → ∃ a, ad = some a ∧ l ≤ a.block ∧ a.block < h ∧ w.cell? (a.add j) = some u

section
variable {w w' : World} {l h l' h' : Nat} {ad : Option Addr} {n cap : Nat} {us vs : List Value}
theorem SlV.at_ (s : SlV w l h ad n cap us) {j : Nat} (hj : j < n) : ∃ a u, ad = some a ∧ us[j]? = some u ∧ l ≤ a.block ∧ a.block < h ∧ w.cell? (a.add j) = some u := by
  have hl : j < us.length := by rw [s.len]; exact hj
  obtain ⟨a, e, h1, h2, h3⟩ := s.cells j us[j] (List.getElem?_eq_getElem hl)
  exact ⟨a, us[j], e, List.getElem?_eq_getElem hl, h1, h2, h3⟩
theorem SlV.keep (s : SlV w l h ad n cap us) (hk : ∀ p : Addr, l ≤ p.block → p.block < h → ∀ u, w.cell? p = some u → w'.cell? p = some u) : SlV w' l h ad n cap us :=
  ⟨s.len, s.le, s.big, s.nil, s.one, fun j x hx => by
    obtain ⟨a, e, h1, h2, h3⟩ := s.cells j x hx
    exact ⟨a, e, h1, h2, hk _ (by rw [add_block]; exact h1) (by rw [add_block]; exact h2) _ h3⟩⟩
theorem SlV.mv (s : SlV w l h ad n cap us) (m : Mv w w' l' h') (hd : h ≤ l' ∨ h' ≤ l) : SlV w' l h ad n cap us :=
  s.keep fun p h1 h2 u hu => (World.cell?_of_block (m.block p.block (World.block_lt_of_cell? w p hu) (by omega))).trans hu
theorem SlV.below {B : Nat} (s : SlV w l h ad n cap us) (m : Below B w w') (hB : h ≤ B ∨ w.heap.size ≤ B) : SlV w' l h ad n cap us :=
  s.keep fun p h1 h2 u hu => (m.cell (by have := World.block_lt_of_cell? w p hu; omega)).trans hu
theorem SlV.mono (s : SlV w l h ad n cap us) (h1 : l' ≤ l) (h2 : h ≤ h') : SlV w l' h' ad n cap us :=
  ⟨s.len, s.le, s.big, s.nil, s.one, fun j x hx => by
    obtain ⟨a, e, g1, g2, g3⟩ := s.cells j x hx
    exact ⟨a, e, by omega, by omega, g3⟩⟩
theorem SlV.drewN (s : SlV w l h ad n cap us) (m : Nat) : SlV (w.drewN m) l h ad n cap us := ⟨s.len, s.le, s.big, s.nil, s.one, s.cells⟩
theorem SlV.alloc (s : SlV w l h ad n cap us) (o : Obj) : SlV (w.alloc o) l h ad n cap us := s.mv ((Mv.refl w 0 0).alloc o) (.inr (Nat.zero_le _))
theorem SlV.lt {B : Nat} (s : SlV w l h ad n cap us) (hB : w.heap.size ≤ B) : SlV w l B ad n cap us :=
  ⟨s.len, s.le, s.big, s.nil, s.one, fun j x hx => by
    obtain ⟨a, e, g1, g2, g3⟩ := s.cells j x hx
    have := World.block_lt_of_cell? w _ g3
    rw [add_block] at this
    exact ⟨a, e, g1, by omega, g3⟩⟩
end

/-- A slice that the call itself has made. -/
structure RowV (w : World) (l h : Nat) (e : TypeId) (ad : Option Addr) (n cap : Nat) (us : List Value) : Prop where
  len : us.length = n
  le : n ≤ cap
  big : cap ≤ maxLen
  one : ∀ u ∈ us, u.oneCell' = true
  own : (n = 0 ∧ cap = 0) ∨ ∃ g, ad = some ⟨g, 0, none⟩ ∧ l ≤ g ∧ g < h ∧ w.ownsRow l e 1 (.slice ad n cap) n us

section
variable {w w' : World} {l h l' h' : Nat} {e : TypeId} {ad : Option Addr} {n cap : Nat} {us vs : List Value}
theorem RowV.sl (r : RowV w l h e ad n cap us) : SlV w l h ad n cap us := by
  refine ⟨r.len, r.le, r.big, ?_, r.one, ?_⟩
  · intro hn
    rcases r.own with ⟨_, h⟩ | ⟨g, h, _⟩
    · exact h
    · rw [hn] at h; cases h
  · intro j x hx
    rcases r.own with ⟨h0, _⟩ | ⟨g, rfl, h1, h2, h3⟩
    · have := r.len
      rw [List.getElem?_eq_none (by omega)] at hx; cases hx
    · exact ⟨_, rfl, h1, h2, h3.cells (g := g) rfl j _ hx⟩
theorem RowV.mono (r : RowV w l h e ad n cap us) (h2 : h ≤ h') : RowV w l h' e ad n cap us :=
  ⟨r.len, r.le, r.big, r.one, r.own.imp id fun ⟨g, a, b, c, d⟩ => ⟨g, a, b, by omega, d⟩⟩
theorem RowV.mv (r : RowV w l h e ad n cap us) (m : Mv w w' l' h') (hd : h ≤ l' ∨ h' ≤ l) : RowV w' l h e ad n cap us :=
  ⟨r.len, r.le, r.big, r.one, r.own.imp id fun ⟨g, a, b, c, d⟩ => ⟨g, a, b, c, by
    subst a
    exact owns_keep d fun g' hg => by
      obtain rfl : g = g' := by simpa [Value.ownBlock] using hg
      exact m.block g (owns_lt d) (by omega)⟩⟩
theorem RowV.below {B : Nat} (r : RowV w l h e ad n cap us) (m : Below B w w') (hB : h ≤ B ∨ w.heap.size ≤ B) : RowV w' l h e ad n cap us :=
  ⟨r.len, r.le, r.big, r.one, r.own.imp id fun ⟨g, a, b, c, d⟩ => ⟨g, a, b, c, by
    subst a
    exact owns_keep d fun g' hg => by
      obtain rfl : g = g' := by simpa [Value.ownBlock] using hg
      exact m.block g (by have := owns_lt d; omega)⟩⟩
theorem RowV.drewN (r : RowV w l h e ad n cap us) (m : Nat) : RowV (w.drewN m) l h e ad n cap us := ⟨r.len, r.le, r.big, r.one, r.own⟩
theorem RowV.alloc (r : RowV w l h e ad n cap us) (o : Obj) : RowV (w.alloc o) l h e ad n cap us := r.mv ((Mv.refl w 0 0).alloc o) (.inr (Nat.zero_le _))
theorem RowV.nil (w : World) (l h : Nat) (e : TypeId) (ad : Option Addr) : RowV w l h e ad 0 0 [] := ⟨rfl, Nat.le_refl _, Nat.zero_le _, by simp, .inl ⟨rfl, rfl⟩⟩
theorem RowV.lo (r : RowV w l h e ad n cap us) (hl : l' ≤ l) : RowV w l' h e ad n cap us :=
  ⟨r.len, r.le, r.big, r.one, r.own.imp id fun ⟨g, a, b, c, d⟩ => ⟨g, a, by omega, c, by subst a; exact owns_base d (by omega)⟩⟩
theorem RowV.lt (r : RowV w l h e ad n cap us) : RowV w l w.heap.size e ad n cap us :=
  ⟨r.len, r.le, r.big, r.one, r.own.imp id fun ⟨g, a, b, c, d⟩ => ⟨g, a, b, by subst a; exact owns_lt d, d⟩⟩
theorem RowV.new (w : World) (e : TypeId) (us : List Value) (n : Nat) (hn : us.length = n) (hm : n ≤ maxLen) (ho : ∀ u ∈ us, u.oneCell' = true) :
    RowV (w.alloc (.cells us.toArray e)) w.heap.size (w.heap.size + 1) e (some ⟨w.heap.size, 0, none⟩) n n us := by
  refine ⟨hn, Nat.le_refl _, hm, ho, .inr ⟨w.heap.size, rfl, Nat.le_refl _, Nat.lt_succ_self _, ?_⟩⟩
  have h := World.ownsRow_lit (base := w.heap.size) (e := e) (size := 1) w us.toArray n (Nat.le_refl _) hm (by simp [hn])
  simpa using h
theorem RowV.pos (r : RowV w l h e ad n cap us) (hn : 0 < n) : ∃ g, ad = some ⟨g, 0, none⟩ ∧ l ≤ g ∧ g < h := by
  rcases r.own with ⟨h0, _⟩ | ⟨g, h1, h2, h3, _⟩
  · omega
  · exact ⟨g, h1, h2, h3⟩
theorem RowV.there {g j : Nat} (r : RowV w l h e (some ⟨g, 0, none⟩) n cap us) (hj : j < n) : ∃ u, us[j]? = some u ∧ w.cell? ⟨g, j, none⟩ = some u ∧ w.frozen? ⟨g, j, none⟩ = false := by
  have hl : j < us.length := by rw [r.len]; exact hj
  refine ⟨us[j], List.getElem?_eq_getElem hl, ?_, ?_⟩
  · obtain ⟨a, ha, _, _, h3⟩ := r.sl.cells j _ (List.getElem?_eq_getElem hl)
    obtain rfl := Option.some.inj ha
    rw [Addr.add_lit, Nat.zero_add] at h3
    exact h3
  · rcases r.own with ⟨h0, _⟩ | ⟨g', h1, h2, h3, h4⟩
    · omega
    · exact h4.frozenAt j
theorem RowV.set {g j : Nat} {u : Value} (r : RowV w l h e (some ⟨g, 0, none⟩) n cap us) (hj : j < n) (hu : u.oneCell' = true) :
    RowV (w.setCell ⟨g, j, none⟩ u) l h e (some ⟨g, 0, none⟩) n cap (us.set j u) ∧ Mv w (w.setCell ⟨g, j, none⟩ u) l h := by
  rcases r.own with ⟨h0, _⟩ | ⟨g', h1, h2, h3, h4⟩
  · omega
  · obtain rfl : g = g' := by simpa using h1
    obtain ⟨o, m⟩ := h4.stored j u
    refine ⟨⟨by rw [List.length_set]; exact r.len, r.le, r.big, ?_, .inr ⟨g, rfl, h2, h3, o⟩⟩, (Mv.refl _ _ _).setCell h2 h3 _⟩
    intro y hy
    rcases List.mem_or_eq_of_mem_set hy with h | rfl
    · exact r.one y h
    · exact hu

/-- What 'append' does: the source is any slice that reads. -/
theorem run_appV {P : Program} {t ty : TypeId} {i : TypeInfo} {z : Value} {bytes : Nat} (ht : P.underlying t = some (.slice e)) (hi : P.info? e = some i) (hz : i.zero = some z) (hs : i.size = 1) (hb : i.bytes = bytes) (hzs : z.cells.size = 1)
    (r : RowV w l h e ad n cap us) {l1 h1 m c : Nat} {A : Option Addr} (s : SlV w l1 h1 A m c vs) (h63 : n + m ≤ maxLen) (hby : (n + m) * bytes ≤ 140737488355328) (hl : l ≤ w.heap.size) :
    ∃ ad' cap' w', (Builtin.append_ #[t, t] ty #[.slice ad n cap, .slice A m c]).run P w = .ok (.slice ad' (n + m) cap') w' ∧ RowV w' l w'.heap.size e ad' (n + m) cap' (us ++ vs) ∧ Mv w w' l h := by
  have ho : ∀ u ∈ us ++ vs, u.oneCell' = true := fun x hx => (List.mem_append.1 hx).elim (r.one x) (s.one x)
  have hlen : (us ++ vs).length = n + m := by rw [List.length_append, r.len, s.len]
  have hvs : vs.length = m * 1 := by rw [s.len, Nat.mul_one]
  have fin : ∀ v' w', w'.ownsRow l e 1 v' (n + m) (us ++ vs) → ∃ ad' cap', v' = .slice ad' (n + m) cap' ∧ RowV w' l w'.heap.size e ad' (n + m) cap' (us ++ vs) := by
    intro v' w' o
    rcases o.2 with ⟨rfl, h0⟩ | ⟨g, c', cur, rfl, g1, g2, g3, g4, g5⟩
    · exact ⟨none, 0, by rw [h0], ⟨hlen, by omega, Nat.zero_le _, ho, .inl ⟨h0, rfl⟩⟩⟩
    · exact ⟨_, c', rfl, hlen, g3, g4, ho, .inr ⟨g, rfl, g1, owns_lt o, o⟩⟩
  have src : ∀ a, A = some a → ∀ j u, vs[j]? = some u → w.cell? (a.add j) = some u := by
    intro a ha j u hu
    obtain ⟨a', e', _, _, hc⟩ := s.cells j u hu
    rw [ha] at e'
    obtain rfl := Option.some.inj e'
    exact hc
  cases A with
  | none =>
    have hc0 := s.nil rfl
    have hm0 : m = 0 := by have := s.le; omega
    subst hc0
    subst hm0
    have hy0 : vs = [] := List.eq_nil_of_length_eq_zero s.len
    subst hy0
    refine ⟨ad, cap, w, ?_, by rw [List.append_nil]; exact r.lt, Mv.refl _ _ _⟩
    rcases r.own with ⟨rfl, rfl⟩ | ⟨g, rfl, g1, g2, o⟩
    · simp [Builtin.append_, run_underlying ht, sizeOf, typeInfo, hi, Builtin.lenOf, Builtin.firstCells]
      cases ad <;> simp [storeCells]
    · exact run_append_owned_none w l t ty e i 1 ht hi _ n _ o
  | some a =>
    rcases r.own with ⟨rfl, rfl⟩ | ⟨g, rfl, g1, g2, o⟩
    · have hx0 : us = [] := List.eq_nil_of_length_eq_zero r.len
      subst hx0
      by_cases hm : m = 0
      · subst hm
        have hy0 : vs = [] := List.eq_nil_of_length_eq_zero s.len
        subst hy0
        refine ⟨ad, 0, w, ?_, RowV.nil _ _ _ _ _, Mv.refl _ _ _⟩
        simp [Builtin.append_, run_underlying ht, sizeOf, typeInfo, hi, Builtin.lenOf, Builtin.firstCells, loadCells, loadCellsFrom]
        cases ad <;> simp [storeCells]
      · cases ad with
        | none =>
          obtain ⟨v', w', hr, ho, hg, _⟩ := run_append_own (P := P) w l t ty e i z 1 bytes ht hi hz hs hb hzs (by decide) (.slice none 0 0) 0 [] (World.ownsRow_nil w _ e 1) a m c _ hvs (src a rfl) s.one h63 hby hl
          obtain ⟨ad', cap', rfl, hrow⟩ := fin v' w' (by simpa using ho)
          exact ⟨ad', cap', w', hr, hrow, ⟨hg.os, hg.tape, hg.output, hg.size, fun k hk _ => hg.block k hk (by simp [Value.ownBlock])⟩⟩
        | some b =>
          obtain ⟨v', w', hr, ho, hg⟩ := run_append_arg_grows (P := P) w t ty e i z 1 bytes ht hi hz hs hb hzs (by decide) b 0 0 [] rfl (by simp) a m c _ hvs (src a rfl) (by omega) h63 hby
          have hsz := (ho.lt)
          obtain ⟨ad', cap', rfl, hrow⟩ := fin v' w' (by
            rcases ho.2 with ⟨rfl, h0⟩ | ⟨g, c', cur, rfl, q1, q2, q3⟩
            · omega
            · have := owns_base (base' := l) ho (by omega)
              simpa using this)
          exact ⟨ad', cap', w', hr, hrow, ⟨hg.os, hg.tape, hg.output, hg.size, fun k hk _ => hg.block k hk (by simp)⟩⟩
    · obtain ⟨v', w', hr, ho, hg, _⟩ := run_append_own (P := P) w l t ty e i z 1 bytes ht hi hz hs hb hzs (by decide) (.slice (some ⟨g, 0, none⟩) n cap) n _ o a m c _ hvs (src a rfl) s.one h63 hby hl
      obtain ⟨ad', cap', rfl, hrow⟩ := fin v' w' ho
      exact ⟨ad', cap', w', hr, hrow, ⟨hg.os, hg.tape, hg.output, hg.size, fun k hk hk2 => hg.block k hk (by simp [Value.ownBlock]; omega)⟩⟩
end

/-- 'append' of one-cell values, as the walk meets it. 'hinfo': the element type's row of the table. -/
theorem wpList_appV {P : Program} {w : World} {ops : Array Oper} {rest : List Oper} {o : Oper} {a : Act} {Q : Exit → Act → World → Prop} {l h : Nat} {e : TypeId} {ad : Option Addr} {n cap : Nat} {us vs : List Value}
    {l1 h1 m c : Nat} {A : Option Addr} (r : RowV w l h e ad n cap us) (s : SlV w l1 h1 A m c vs) {t : TypeId} (ht : P.underlying t = some (.slice e)) {z : Value} {bytes : Nat}
    (hinfo : (P.info? e).map (fun i => (i.zero, i.size, i.bytes)) = some (some z, 1, bytes)) (hzs : z.cells.size = 1) (h63 : n + m ≤ maxLen) (hby : (n + m) * bytes ≤ 140737488355328) (hl : l ≤ w.heap.size)
    (hg : o.guard = none) (p q : Operand) (hop : o.op = Op.call { callee := Callee.builtin Builtin.append, args := #[p, q], argTypes := #[t, t] }) (hp : a.eval p = .slice ad n cap) (hq : a.eval q = .slice A m c)
    (hK : ∀ ad' cap' w', RowV w' l w'.heap.size e ad' (n + m) cap' (us ++ vs) → Mv w w' l h → wpList P ops Q rest (a.put o.dst (.slice ad' (n + m) cap')) w') : wpList P ops Q (o :: rest) a w := by
  obtain ⟨i, hi, hz, hs, hb⟩ := info_parts hinfo
  refine wpList_plain hg fun K hK' => ?_
  obtain ⟨ad', cap', w', hrun, hr, hm⟩ := run_appV (P := P) (t := t) (ty := o.type) ht hi hz hs hb hzs r s h63 hby hl
  unfold Oper.wp
  simp [execOp, hop, resolve, invoke, builtin, hp, hq, hrun, Result.andThen]
  exact hK' _ _ (hK ad' cap' w' hr hm)

/-- The block of one element that 'append(out, x)' lays first. -/
theorem oneV (w : World) (e : TypeId) (u : Value) (hu : u.oneCell' = true) : SlV (w.alloc (.cells #[u] e)) w.heap.size (w.heap.size + 1) (some ⟨w.heap.size, 0, none⟩) 1 1 [u] :=
  (RowV.new w e [u] 1 rfl (by decide) (by simpa using hu)).sl

/-- 'make([]T, n)' of one-cell values, as the walk meets it. -/
theorem wpList_mkV {P : Program} {w : World} {ops : Array Oper} {rest : List Oper} {o : Oper} {a : Act} {Q : Exit → Act → World → Prop} {e : TypeId} {n : Nat} {t : TypeId} (ht : P.underlying t = some (.slice e)) {z : Value} {bytes : Nat}
    (hinfo : (P.info? e).map (fun i => (i.zero, i.size, i.bytes)) = some (some z, 1, bytes)) (hz1 : z.oneCell' = true) (hzc : z.cells = #[z]) (h63 : n ≤ maxLen) (hby : bytes * n ≤ 281474976710656)
    (hg : o.guard = none) (p q : Operand) (hop : o.op = Op.makeSlice t p q) {kl kc : IntKind} (hp : a.eval p = .int kl (n : Int)) (hq : a.eval q = .int kc (n : Int))
    (hK : ∀ w', RowV w' w.heap.size w'.heap.size e (some ⟨w.heap.size, 0, none⟩) n n (List.replicate n z) → Below w.heap.size w w' → wpList P ops Q rest (a.put o.dst (.slice (some ⟨w.heap.size, 0, none⟩) n n)) w') : wpList P ops Q (o :: rest) a w := by
  obtain ⟨i, hi, hz, hs, hb⟩ := info_parts hinfo
  refine wpList_make_full w hg p q t hop w.heap.size e i z 1 ht hi hz hs kl kc n n n hp hq rfl rfl (by rw [hb]; exact hby) h63 (Nat.le_refl _) fun w' ho hgr => ?_
  refine hK w' ⟨by simp, Nat.le_refl _, h63, fun x hx => by rw [List.eq_of_mem_replicate hx]; exact hz1, .inr ⟨_, rfl, Nat.le_refl _, owns_lt ho, ?_⟩⟩ ⟨hgr.os, hgr.tape, hgr.output, hgr.size, fun k hk => hgr.block k hk (by simp)⟩
  have e1 : (madeCells z.cells (n * 1)).toList = List.replicate n z := by
    rw [hzc, Nat.mul_one]
    exact toList_madeCells_one _ _
  rw [e1] at ho
  exact ho

section
variable {w w' : World} {l h : Nat} {e : TypeId} {ad : Option Addr} {n cap : Nat} {us : List Value} {u : Value}
/-- One element is appended: in place, in the slice's own block; or everything lies in a new block. -/
theorem run_snoc {P : Program} {t ty : TypeId} {i : TypeInfo} {z : Value} {bytes : Nat} (ht : P.underlying t = some (.slice e)) (hi : P.info? e = some i) (hz : i.zero = some z) (hs : i.size = 1) (hb : i.bytes = bytes) (hzs : z.cells.size = 1)
    (r : RowV w l h e ad n cap us) {a : Addr} (hu : w.cell? a = some u) (hu1 : u.oneCell' = true) (h63 : n + 1 ≤ maxLen) (hby : (n + 1) * bytes ≤ 140737488355328) :
    ∃ g cap' w', (Builtin.append_ #[t, t] ty #[.slice ad n cap, .slice (some a) 1 1]).run P w = .ok (.slice (some ⟨g, 0, none⟩) (n + 1) cap') w' ∧ RowV w' g (g + 1) e (some ⟨g, 0, none⟩) (n + 1) cap' (us ++ [u]) ∧
      ((ad = some ⟨g, 0, none⟩ ∧ l ≤ g ∧ g < h ∧ g < w.heap.size ∧ Mv w w' g (g + 1)) ∨ (w.heap.size ≤ g ∧ Below w.heap.size w w')) := by
  have hlen : (us ++ [u]).length = n + 1 := by rw [List.length_append, r.len]; rfl
  have hone : ∀ v ∈ us ++ [u], v.oneCell' = true := fun v hv => (List.mem_append.1 hv).elim (r.one v) (fun h => by rw [List.mem_singleton.1 h]; exact hu1)
  have src : ∀ j v, [u][j]? = some v → w.cell? (a.add j) = some v := by
    intro j v hv
    cases j with
    | zero =>
      obtain rfl : u = v := by simpa using hv
      have : a.add 0 = a := by unfold Addr.add; simp
      rw [this]; exact hu
    | succ j => simp at hv
  have hnews : ∀ v ∈ [u], v.oneCell' = true := by simpa using hu1
  have fin : ∀ v' w' base, w'.ownsRow base e 1 v' (n + 1) (us ++ [u]) → ∃ g cap', v' = .slice (some ⟨g, 0, none⟩) (n + 1) cap' ∧ base ≤ g ∧ RowV w' g (g + 1) e (some ⟨g, 0, none⟩) (n + 1) cap' (us ++ [u]) := by
    intro v' w' base o
    rcases o.2 with ⟨rfl, h0⟩ | ⟨g, c', cur, rfl, g1, g2, g3, g4, g5⟩
    · omega
    · refine ⟨g, c', rfl, g1, hlen, g3, g4, hone, .inr ⟨g, rfl, Nat.le_refl _, Nat.lt_succ_self _, o.1, .inr ⟨g, c', cur, rfl, Nat.le_refl _, g2, g3, g4, g5⟩⟩⟩
  rcases r.own with ⟨rfl, rfl⟩ | ⟨g, rfl, g1, g2, o⟩
  · have hx0 : us = [] := List.eq_nil_of_length_eq_zero r.len
    subst hx0
    cases ad with
    | none =>
      obtain ⟨v', w', hr, ho, hg, _⟩ := run_append_own (P := P) w w.heap.size t ty e i z 1 bytes ht hi hz hs hb hzs (by decide) (.slice none 0 0) 0 [] (World.ownsRow_nil w _ e 1) a 1 1 [u] rfl src hnews h63 hby (Nat.le_refl _)
      obtain ⟨g, cap', rfl, hge, hrow⟩ := fin v' w' _ (by simpa using ho)
      exact ⟨g, cap', w', by simpa using hr, hrow, .inr ⟨hge, hg.os, hg.tape, hg.output, hg.size, fun k hk => hg.block k hk (by simp [Value.ownBlock])⟩⟩
    | some b =>
      obtain ⟨v', w', hr, ho, hg⟩ := run_append_arg_grows (P := P) w t ty e i z 1 bytes ht hi hz hs hb hzs (by decide) b 0 0 [] rfl (by simp) a 1 1 [u] rfl src (by omega) h63 hby
      obtain ⟨g, cap', rfl, hge, hrow⟩ := fin v' w' _ (by simpa using ho)
      exact ⟨g, cap', w', by simpa using hr, hrow, .inr ⟨hge, hg.os, hg.tape, hg.output, hg.size, fun k hk => hg.block k hk (by simp)⟩⟩
  · by_cases hroom : n + 1 ≤ cap
    · obtain ⟨w', hr, ho, hg⟩ := run_append_fits (P := P) w l t ty e i 1 ht hi hs g n cap us o a 1 1 [u] rfl src hnews hroom
      obtain ⟨g', cap', hv, _, hrow⟩ := fin _ w' _ ho
      obtain ⟨rfl, rfl⟩ : g = g' ∧ cap = cap' := by simpa using hv
      exact ⟨g, cap, w', hr, hrow, .inl ⟨rfl, g1, g2, owns_lt o, hg.os, hg.tape, hg.output, hg.size, fun k hk hk2 => hg.block k hk (by simp; omega)⟩⟩
    · obtain ⟨v', w', hr, ho, hg⟩ := run_append_arg_grows (P := P) w t ty e i z 1 bytes ht hi hz hs hb hzs (by decide) ⟨g, 0, none⟩ n cap us (by rw [r.len, Nat.mul_one]) (fun j v hv => o.cells (g := g) rfl j v hv) a 1 1 [u] rfl src (by omega) h63 hby
      obtain ⟨g', cap', rfl, hge, hrow⟩ := fin v' w' _ ho
      exact ⟨g', cap', w', hr, hrow, .inr ⟨hge, hg.os, hg.tape, hg.output, hg.size, fun k hk => hg.block k hk (by simp)⟩⟩
end

/-- Where the list lies behind the append of one element. -/
def Put (w w' : World) (l h : Nat) (ad : Option Addr) (g : Nat) : Prop :=
  (ad = some ⟨g, 0, none⟩ ∧ l ≤ g ∧ g < h ∧ g < w.heap.size ∧ Mv w w' g (g + 1)) ∨ (w.heap.size ≤ g ∧ Below w.heap.size w w')
/-- 'append(l, u)' of a one-cell value, as the walk meets it. -/
theorem wpList_snoc {P : Program} {w : World} {ops : Array Oper} {rest : List Oper} {o : Oper} {a : Act} {Q : Exit → Act → World → Prop} {l h : Nat} {e : TypeId} {ad : Option Addr} {n cap : Nat} {us : List Value} {u : Value}
    (r : RowV w l h e ad n cap us) {A : Addr} (hu : w.cell? A = some u) (hu1 : u.oneCell' = true) {t : TypeId} (ht : P.underlying t = some (.slice e)) {z : Value} {bytes : Nat}
    (hinfo : (P.info? e).map (fun i => (i.zero, i.size, i.bytes)) = some (some z, 1, bytes)) (hzs : z.cells.size = 1) (h63 : n + 1 ≤ maxLen) (hby : (n + 1) * bytes ≤ 140737488355328)
    (hg : o.guard = none) (p q : Operand) (hop : o.op = Op.call { callee := Callee.builtin Builtin.append, args := #[p, q], argTypes := #[t, t] }) (hp : a.eval p = .slice ad n cap) (hq : a.eval q = .slice (some A) 1 1)
    (hK : ∀ g cap' w', RowV w' g (g + 1) e (some ⟨g, 0, none⟩) (n + 1) cap' (us ++ [u]) → Put w w' l h ad g → wpList P ops Q rest (a.put o.dst (.slice (some ⟨g, 0, none⟩) (n + 1) cap')) w') : wpList P ops Q (o :: rest) a w := by
  obtain ⟨i, hi, hz, hs, hb⟩ := info_parts hinfo
  refine wpList_plain hg fun K hK' => ?_
  obtain ⟨g, cap', w', hrun, hr, hm⟩ := run_snoc (P := P) (t := t) (ty := o.type) ht hi hz hs hb hzs r hu hu1 h63 hby
  unfold Oper.wp
  simp [execOp, hop, resolve, invoke, builtin, hp, hq, hrun, Result.andThen]
  exact hK' _ _ (hK g cap' w' hr hm)
theorem Put.below {w w' : World} {l h B : Nat} {ad : Option Addr} {g : Nat} (p : Put w w' l h ad g) (h1 : B ≤ l) (h2 : B ≤ w.heap.size) : Below B w w' := by
  rcases p with ⟨_, a, b, c, m⟩ | ⟨_, b⟩
  · exact m.below (by omega) h2
  · exact b.mono h2
theorem Put.size {w w' : World} {l h : Nat} {ad : Option Addr} {g : Nat} (p : Put w w' l h ad g) : w.heap.size ≤ w'.heap.size := by
  rcases p with ⟨_, _, _, _, m⟩ | ⟨_, b⟩
  · exact m.size
  · exact b.size
theorem Put.mv {w w' : World} {l h : Nat} {ad : Option Addr} {g : Nat} (p : Put w w' l h ad g) : Mv w w' l h := by
  rcases p with ⟨_, a, b, c, m⟩ | ⟨_, b⟩
  · exact m.mono a (by omega)
  · exact Mv.of_below b (Nat.le_refl _)
/-- 'append(l, u)' at a step of a region that draws its order. -/
theorem step_snoc {P : Program} {w : World} {ops : Array Oper} {o : Oper} {a : Act} {K : Act → World → Prop} {Q : Exit → Act → World → Prop} {E : Prop} {l h : Nat} {e : TypeId} {ad : Option Addr} {n cap : Nat} {us : List Value} {u : Value}
    (r : RowV w l h e ad n cap us) {A : Addr} (hu : w.cell? A = some u) (hu1 : u.oneCell' = true) {t : TypeId} (ht : P.underlying t = some (.slice e)) {z : Value} {bytes : Nat}
    (hinfo : (P.info? e).map (fun i => (i.zero, i.size, i.bytes)) = some (some z, 1, bytes)) (hzs : z.cells.size = 1) (h63 : n + 1 ≤ maxLen) (hby : (n + 1) * bytes ≤ 140737488355328)
    (hg : o.guard = none) (p q : Operand) (hop : o.op = Op.call { callee := Callee.builtin Builtin.append, args := #[p, q], argTypes := #[t, t] }) (hp : a.eval p = .slice ad n cap) (hq : a.eval q = .slice (some A) 1 1)
    (hK : ∀ g cap' w', RowV w' g (g + 1) e (some ⟨g, 0, none⟩) (n + 1) cap' (us ++ [u]) → Put w w' l h ad g → K (a.put o.dst (.slice (some ⟨g, 0, none⟩) (n + 1) cap')) w') :
    if Region.wanted o (yielded ops a.tmps) = true then Oper.wp P o a w K Q else E := by
  have hw : Region.wanted o (yielded ops a.tmps) = true := by simp [Region.wanted, hg]
  rw [if_pos hw]
  obtain ⟨i, hi, hz, hs, hb⟩ := info_parts hinfo
  obtain ⟨g, cap', w', hrun, hr, hm⟩ := run_snoc (P := P) (t := t) (ty := o.type) ht hi hz hs hb hzs r hu hu1 h63 hby
  unfold Oper.wp
  simp [execOp, hop, resolve, invoke, builtin, hp, hq, hrun, Result.andThen]
  exact hK _ _ _ hr hm
/-- The elements that were there stay there. -/
theorem Put.keep {w w' : World} {l h g : Nat} {e : TypeId} {a : Addr} {n cap cap' j : Nat} {us : List Value} {u v : Value} (p : Put w w' l h (some a) g) (r : RowV w l h e (some a) n cap us) (o : RowV w' g (g + 1) e (some ⟨g, 0, none⟩) (n + 1) cap' (us ++ [u]))
    (hj : j < n) (hc : w.cell? (a.add j) = some v) : w'.cell? (a.add j) = some v := by
  rcases p with ⟨ea, _, _, _, m⟩ | ⟨_, b⟩
  · obtain rfl := Option.some.inj ea
    obtain ⟨a1, u1, e1, h1, _, _, c1⟩ := r.sl.at_ hj
    obtain rfl := Option.some.inj e1
    obtain ⟨a2, u2, e2, h2, _, _, c2⟩ := o.sl.at_ (j := j) (by omega)
    obtain rfl := Option.some.inj e2
    rw [List.getElem?_append_left (by rw [r.len]; exact hj), h1] at h2
    obtain rfl := Option.some.inj h2
    rw [c2, ← c1, hc]
  · exact (b.cell (World.block_lt_of_cell? _ _ hc)).trans hc
end Go.Proofs.Ythhnfbhpdcemfaa.Seq
