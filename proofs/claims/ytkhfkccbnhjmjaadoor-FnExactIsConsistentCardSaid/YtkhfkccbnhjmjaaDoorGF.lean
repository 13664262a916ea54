/-
  Symbols and generations as lists: what the functions of chapter 10 answer. No program.
  Values of any shape (numbers, structs, slices, one within another), by what they read as: read (Rd); the call's own (Ow: the cells that hold numbers, and those that hold slices, as lists of addresses); numbers stamped in order. No program.
  The shapes of before (slices of numbers, slices of those, structs of a number and rows) as values of any shape. No program.
  Values of any shape: what the walks of the laws' helpers ask, element by element. No program.
  The laws' helpers over slices of numbers and slices of those, as values of any shape: marking (which cells, in which order), asking for stamps, measuring, comparing, copying.
  Slices of bytes, as a column of shapes.
  Blocks of any number of cells; pairs of own values; the laws' helpers over slices of integers, as values of any shape.
  The laws' helpers over structs and slices of them, as values of any shape (printed by gen_struct.py).
-/
import Derived.Test.YtkhfkccbnhjmjaaDoorGD
import Derived.Test.YtkhfkccbnhjmjaaDoorGB
import Derived.Test.YtkhfkccbnhjmjaaDoorGE
import Derived.Test.YtkhfkccbnhjmjaaDoorGA
namespace Go.Proofs.YtkhfkccbnhjmjaaDoor.Gen
open Go.RowKit
open Go.Proofs.YtkhfkccbnhjmjaaDoor.Seq Go.Proofs.YtkhfkccbnhjmjaaDoor.Field Go.Proofs.YtkhfkccbnhjmjaaDoor.Vec Go.Proofs.YtkhfkccbnhjmjaaDoor.Mat Go.Proofs.YtkhfkccbnhjmjaaDoor.Uv Go.Proofs.YtkhfkccbnhjmjaaDoor.Rd Go.Proofs.YtkhfkccbnhjmjaaDoor.UvR

abbrev G2 := Int × List (List Int)
def isGen (g : G2) : Bool := (decide (0 ≤ g.1) && decide (g.1 ≤ 1000000000000)) && (decide (1 ≤ g.2.length) && decide (g.2.length ≤ 8)) && isMat g.2 && (decide (1 ≤ colsOf g.2) && decide (colsOf g.2 ≤ 16))
def sameG (a b : G2) : Bool := (a.1 == b.1) && MatW.sameM a.2 b.2
/-- Row i of what is cut into rows of w, filled up with zeros. -/
def rowAt (w : Nat) (xs : List Int) (i : Nat) : List Int := (List.range w).map fun k => xs[i * w + k]?.getD 0
def cuts (w n : Nat) : Nat := (n + w - 1) / w
def sym (w : Nat) (xs : List Int) : List (List Int) := (List.range (cuts w xs.length)).map (rowAt w xs)
def symOk (W : Int) (n : Nat) : Bool := (decide (1 ≤ W) && decide (W ≤ 16)) && decide (n ≤ 400)
def toSym (data : List Int) (W : Int) : List (List Int) := bif symOk W data.length then sym W.toNat (uv data.length ++ data) else []
def isByte (x : Int) : Bool := decide (0 ≤ x) && decide (x ≤ 255)
def toData (m : List (List Int)) : List Int × Bool :=
  bif m.flatten.all isByte then
    bif (rdv m.flatten 0).2.2 && decide ((rdv m.flatten 0).1 ≤ m.flatten.length - (rdv m.flatten 0).2.1) then
      let d := (m.flatten.drop (rdv m.flatten 0).2.1.toNat).take (rdv m.flatten 0).1.toNat
      bif decide (toSym d (colsOf m) = m) then (d, true) else ([], false)
    else ([], false)
  else ([], false)
def splitOk (S F : Int) : Bool := (decide (1 ≤ S) && decide (S ≤ 8)) && (decide (0 ≤ F) && decide (F ≤ 999999999590))
def part (s : Nat) (l : List (List Int)) (i : Nat) : List (List Int) := (l.drop (i * s)).take s
def split (data : List Int) (W S F : Int) : List G2 := bif splitOk S F then (List.range (cuts S.toNat (toSym data W).length)).map fun (i : Nat) => (F + (i : Int), part S.toNat (toSym data W) i) else []
def chain (gs : List G2) (n : Nat) : Bool := (List.range n).all fun i => isGen (gs.getD i (0, [])) && (decide (i = 0) || decide ((gs.getD i (0, [])).1 = (gs.getD (i - 1) (0, [])).1 + 1))
def join (gs : List G2) : List Int × Bool := bif chain gs gs.length then toData (gs.flatMap (·.2)) else ([], false)

/-! rows -/
theorem rowAt_len (w : Nat) (xs : List Int) (i : Nat) : (rowAt w xs i).length = w := by simp [rowAt]
theorem cuts_le {w n : Nat} (hw : 0 < w) : n ≤ cuts w n * w := by
  unfold cuts
  have h1 := Nat.div_add_mod (n + w - 1) w
  have h2 := Nat.mod_lt (n + w - 1) hw
  rw [Nat.mul_comm] at h1
  omega
theorem cuts_lt {w n j : Nat} (hw : 0 < w) : j < cuts w n ↔ j * w < n := by
  unfold cuts
  rw [← Nat.succ_le_iff, Nat.le_div_iff_mul_le hw, Nat.succ_mul]
  omega
theorem cuts_pos {w n : Nat} (hw : 0 < w) (hn : 0 < n) : 0 < cuts w n := (cuts_lt hw).2 (by omega)
theorem cuts_of {w n j : Nat} (hw : 0 < w) (h1 : n ≤ j * w) (h2 : ∀ i, i < j → i * w < n) : cuts w n = j := by
  rcases Nat.lt_trichotomy (cuts w n) j with h | h | h
  · have := h2 _ h
    have := cuts_le (n := n) hw
    omega
  · exact h
  · have := (cuts_lt hw).1 h
    omega
theorem flat_rows (w : Nat) (xs : List Int) : ∀ j : Nat, ((List.range j).map (rowAt w xs)).flatten = (List.range (j * w)).map fun i => xs[i]?.getD 0
  | 0 => by simp
  | j + 1 => by
    rw [List.range_succ, List.map_append, List.flatten_append, flat_rows w xs j, Nat.succ_mul, List.range_add, List.map_append]
    congr 1
    simp [rowAt, List.map_map, Function.comp_def]
theorem range_pad (xs : List Int) {n : Nat} (h : xs.length ≤ n) : ((List.range n).map fun i => xs[i]?.getD 0) = xs ++ List.replicate (n - xs.length) 0 := by
  apply List.ext_getElem?
  intro i
  rw [List.getElem?_map]
  by_cases h1 : i < n
  · rw [List.getElem?_range h1]
    by_cases h2 : i < xs.length
    · rw [List.getElem?_append_left h2]; simp [List.getElem?_eq_getElem h2]
    · rw [List.getElem?_append_right (by omega), List.getElem?_replicate, if_pos (by omega)]; simp [List.getElem?_eq_none (by omega : xs.length ≤ i)]
  · rw [List.getElem?_eq_none (by simp; omega), List.getElem?_eq_none (by simp; omega)]; rfl
theorem sym_flat {w : Nat} (hw : 0 < w) (xs : List Int) : (sym w xs).flatten = xs ++ List.replicate (cuts w xs.length * w - xs.length) 0 := by
  unfold sym
  rw [flat_rows, range_pad _ (cuts_le hw)]
theorem sym_len (w : Nat) (xs : List Int) : (sym w xs).length = cuts w xs.length := by simp [sym]
theorem sym_row {w : Nat} {xs r : List Int} (h : r ∈ sym w xs) : r.length = w := by
  obtain ⟨i, _, rfl⟩ := List.mem_map.1 h
  exact rowAt_len _ _ _
theorem sym_cols {w : Nat} (hw : 0 < w) {xs : List Int} (h : 0 < xs.length) : colsOf (sym w xs) = w := by
  have h1 := cuts_pos hw h
  rw [← sym_len] at h1
  have e : (sym w xs)[0]? = some ((sym w xs)[0]'h1) := List.getElem?_eq_getElem h1
  rw [colsOf_get e]
  exact sym_row (List.getElem_mem h1)
theorem symOk_iff {W : Int} {n : Nat} : symOk W n = true ↔ (1 ≤ W ∧ W ≤ 16) ∧ n ≤ 400 := by simp [symOk]
theorem toSym_ok {d : List Int} {W : Int} (h : symOk W d.length = true) : toSym d W = sym W.toNat (uv d.length ++ d) := by unfold toSym; rw [h]; rfl
theorem toSym_no {d : List Int} {W : Int} (h : symOk W d.length = false) : toSym d W = [] := by unfold toSym; rw [h]; rfl
theorem fits_byte {x : Int} : Fits .u8 x ↔ isByte x = true := by rw [fits_u8]; simp [isByte]

/-- Bytes are restored from their symbols. -/
theorem back {d : List Int} {W : Int} (h : symOk W d.length = true) (hf : ∀ x ∈ d, Fits .u8 x) : toData (toSym d W) = (d, true) ∧ 0 < (toSym d W).length ∧ colsOf (toSym d W) = W.toNat := by
  obtain ⟨⟨h1, h2⟩, h3⟩ := symOk_iff.1 h
  have hw : 0 < W.toNat := by omega
  have hu := uv_pos d.length
  have hx : 0 < (uv d.length ++ d).length := by rw [List.length_append]; omega
  have hc : colsOf (toSym d W) = W.toNat := by rw [toSym_ok h, sym_cols hw hx]
  have hl : (toSym d W).flatten = uv d.length ++ (d ++ List.replicate (cuts W.toNat (uv d.length ++ d).length * W.toNat - (uv d.length ++ d).length) 0) := by
    rw [toSym_ok h, sym_flat hw, List.append_assoc]
  have hr : rdv (toSym d W).flatten 0 = ((d.length : Int), (((uv d.length).length : Nat) : Int), true) := by
    have := rdv_uv (ys := (toSym d W).flatten) (p := 0) (m := d.length) (by omega) (rest := d ++ List.replicate (cuts W.toNat (uv d.length ++ d).length * W.toNat - (uv d.length ++ d).length) 0) (by rw [List.drop_zero]; exact hl)
    rw [Nat.zero_add] at this
    exact this
  refine ⟨?_, by rw [toSym_ok h, sym_len]; exact cuts_pos hw hx, hc⟩
  have ha : (toSym d W).flatten.all isByte = true := by
    rw [List.all_eq_true, hl]
    intro x hx
    rcases List.mem_append.1 hx with h | h
    · exact fits_byte.1 (uv_fits _ x h)
    rcases List.mem_append.1 h with h | h
    · exact fits_byte.1 (hf x h)
    · obtain rfl := List.eq_of_mem_replicate h; rfl
  unfold toData
  rw [ha, hr]
  have hn : decide ((d.length : Int) ≤ (toSym d W).flatten.length - (((uv d.length).length : Nat) : Int)) = true := by
    rw [hl]; simp; omega
  have ht : ((toSym d W).flatten.drop (((uv d.length).length : Nat) : Int).toNat).take (d.length : Int).toNat = d := by
    rw [hl, Int.toNat_natCast, Int.toNat_natCast, List.drop_left, List.take_left]
  have hW : ((W.toNat : Nat) : Int) = W := by omega
  simp only [hn, ht, hc, hW, Bool.true_and, cond_true, decide_true]
theorem toData_back {m : List (List Int)} {d : List Int} (h : toData m = (d, true)) : toSym d (colsOf m) = m := by
  unfold toData at h
  cases e1 : m.flatten.all isByte
  · rw [e1] at h; simp at h
  rw [e1] at h
  simp only [cond_true] at h
  cases e2 : (rdv m.flatten 0).2.2 && decide ((rdv m.flatten 0).1 ≤ m.flatten.length - (rdv m.flatten 0).2.1)
  · rw [e2] at h; simp at h
  rw [e2] at h
  simp only [cond_true] at h
  by_cases e3 : toSym ((m.flatten.drop (rdv m.flatten 0).2.1.toNat).take (rdv m.flatten 0).1.toNat) (colsOf m) = m
  · rw [decide_eq_true e3] at h
    simp only [cond_true, Prod.mk.injEq, and_true] at h
    rw [← h]; exact e3
  · rw [decide_eq_false e3] at h; simp at h

/-! messages -/
theorem part_take (s : Nat) (m : List (List Int)) : ∀ j : Nat, ((List.range j).map (part s m)).flatten = m.take (j * s)
  | 0 => by simp
  | j + 1 => by
    rw [List.range_succ, List.map_append, List.flatten_append, part_take s m j, Nat.succ_mul, List.take_add]
    simp [part]
theorem part_len (s : Nat) (m : List (List Int)) (i : Nat) : (part s m i).length = min s (m.length - i * s) := by simp [part]
theorem part_mem {s i : Nat} {m : List (List Int)} {r : List Int} (h : r ∈ part s m i) : r ∈ m := List.mem_of_mem_drop (List.mem_of_mem_take h)
theorem splitOk_iff {S F : Int} : splitOk S F = true ↔ (1 ≤ S ∧ S ≤ 8) ∧ (0 ≤ F ∧ F ≤ 999999999590) := by simp [splitOk]
theorem split_no {d : List Int} {W S F : Int} (h : splitOk S F = false ∨ symOk W d.length = false) : split d W S F = [] := by
  unfold split
  cases e : splitOk S F
  · rfl
  · rcases h with h | h
    · rw [e] at h; cases h
    · obtain ⟨⟨h1, _⟩, _⟩ := splitOk_iff.1 e
      rw [toSym_no h]
      have : cuts S.toNat 0 = 0 := by
        unfold cuts
        exact Nat.div_eq_of_lt (by omega)
      simp [this]
theorem sym_el {d : List Int} {W : Int} (h : symOk W d.length = true) (hf : ∀ x ∈ d, Fits .u8 x) {r : List Int} (hr : r ∈ toSym d W) : isVec r = true ∧ r.length = W.toNat := by
  obtain ⟨⟨h1, h2⟩, h3⟩ := symOk_iff.1 h
  rw [toSym_ok h] at hr
  have hl := sym_row hr
  refine ⟨isVec_iff.2 ⟨fun x hx => ?_, by omega⟩, hl⟩
  have hm : x ∈ (sym W.toNat (uv d.length ++ d)).flatten := List.mem_flatten.2 ⟨r, hr, hx⟩
  rw [sym_flat (by omega)] at hm
  have hb : isByte x = true := by
    rcases List.mem_append.1 hm with hm | hm
    · rcases List.mem_append.1 hm with hm | hm
      · exact fits_byte.1 (uv_fits _ x hm)
      · exact fits_byte.1 (hf x hm)
    · obtain rfl := List.eq_of_mem_replicate hm; rfl
  simp [isByte] at hb
  simp [isEl]; omega
theorem sym_most {d : List Int} {W : Int} (h : symOk W d.length = true) : (toSym d W).length ≤ 406 ∧ (uv d.length ++ d).length ≤ (toSym d W).length * W.toNat := by
  obtain ⟨⟨h1, h2⟩, h3⟩ := symOk_iff.1 h
  have hu := uv_len6 (n := d.length) (by omega)
  have hw : 0 < W.toNat := by omega
  rw [toSym_ok h, sym_len]
  refine ⟨?_, cuts_le hw⟩
  have hc : (uv d.length ++ d).length ≤ 406 := by rw [List.length_append]; omega
  rcases Nat.lt_or_ge 406 (cuts W.toNat (uv d.length ++ d).length) with h | h
  · have := (cuts_lt hw).1 h
    have := Nat.le_mul_of_pos_right 406 hw
    omega
  · exact h
theorem part_gen {d : List Int} {W S F : Int} (h : symOk W d.length = true) (hs : splitOk S F = true) (hf : ∀ x ∈ d, Fits .u8 x) {i : Nat} (hi : i < cuts S.toNat (toSym d W).length) :
    isGen (F + (i : Int), part S.toNat (toSym d W) i) = true ∧ colsOf (part S.toNat (toSym d W) i) = W.toNat ∧ (i + 1 < cuts S.toNat (toSym d W).length → (part S.toNat (toSym d W) i).length = S.toNat) := by
  obtain ⟨⟨h1, h2⟩, h3⟩ := symOk_iff.1 h
  obtain ⟨⟨s1, s2⟩, f1, f2⟩ := splitOk_iff.1 hs
  have hS : 0 < S.toNat := by omega
  obtain ⟨hm, _⟩ := sym_most h
  have h5 := (cuts_lt hS).1 hi
  have hl := part_len S.toNat (toSym d W) i
  have hpos : 0 < (part S.toNat (toSym d W) i).length := by omega
  have hc : colsOf (part S.toNat (toSym d W) i) = W.toNat := by
    rw [colsOf_get (List.getElem?_eq_getElem hpos)]
    exact (sym_el h hf (part_mem (List.getElem_mem hpos))).2
  have hi2 : i ≤ i * S.toNat := Nat.le_mul_of_pos_right i hS
  refine ⟨?_, hc, fun hi1 => ?_⟩
  · have hM : isMat (part S.toNat (toSym d W) i) = true := isMat_iff.2 ⟨fun r hr => ⟨(sym_el h hf (part_mem hr)).1, by rw [hc]; exact (sym_el h hf (part_mem hr)).2⟩, by omega⟩
    unfold isGen
    simp only [hM, hc, Bool.and_eq_true, decide_eq_true_eq, and_true]
    omega
  · have := (cuts_lt hS).1 hi1
    rw [Nat.succ_mul] at this
    omega
theorem split_get {d : List Int} {W S F : Int} (hs : splitOk S F = true) : (split d W S F).length = cuts S.toNat (toSym d W).length ∧ ∀ i, i < cuts S.toNat (toSym d W).length → (split d W S F)[i]? = some (F + (i : Int), part S.toNat (toSym d W) i) := by
  unfold split
  rw [hs]
  refine ⟨by simp, fun i hi => ?_⟩
  rw [cond_true, List.getElem?_map, List.getElem?_range hi]; rfl
theorem chain_iff {gs : List G2} {n : Nat} : chain gs n = true ↔ ∀ i, i < n → isGen (gs.getD i (0, [])) = true ∧ (i = 0 ∨ (gs.getD i (0, [])).1 = (gs.getD (i - 1) (0, [])).1 + 1) := by
  unfold chain; simp
theorem split_law {d : List Int} {W S F : Int} (h : symOk W d.length = true) (hs : splitOk S F = true) (hf : ∀ x ∈ d, Fits .u8 x) :
    join (split d W S F) = (d, true) ∧ (1 < (split d W S F).length → (join ((split d W S F).take 1 ++ (split d W S F).drop 2)).2 = true → (split d W S F).length = 2 ∧ (d.length : Int) < 2 * W * S) := by
  obtain ⟨⟨h1, h2⟩, h3⟩ := symOk_iff.1 h
  obtain ⟨⟨s1, s2⟩, f1, f2⟩ := splitOk_iff.1 hs
  have hS : 0 < S.toNat := by omega
  obtain ⟨hl, hg⟩ := split_get (d := d) (W := W) hs
  constructor
  · have hc : chain (split d W S F) (split d W S F).length = true := by
      rw [chain_iff]
      intro i hi
      rw [hl] at hi
      rw [List.getD_eq_getElem?_getD, hg i hi]
      refine ⟨(part_gen h hs hf hi).1, ?_⟩
      rcases Nat.eq_zero_or_pos i with h0 | h0
      · exact .inl h0
      · right
        rw [List.getD_eq_getElem?_getD, hg (i - 1) (by omega)]
        simp only [Option.getD_some]
        omega
    unfold join
    rw [hc, cond_true]
    have e : (split d W S F).flatMap (·.2) = toSym d W := by
      unfold split
      rw [hs, cond_true, List.flatMap_def, List.map_map]
      have : ((fun g : G2 => g.2) ∘ fun (i : Nat) => (F + (i : Int), part S.toNat (toSym d W) i)) = part S.toNat (toSym d W) := rfl
      rw [this, part_take, List.take_of_length_le (cuts_le hS)]
    rw [e]
    exact (back h hf).1
  · intro h2l hj
    have hn : (split d W S F).length = 2 := by
      rcases Nat.lt_or_ge 2 (split d W S F).length with h3l | h3l
      · exfalso
        have hc : chain ((split d W S F).take 1 ++ (split d W S F).drop 2) ((split d W S F).take 1 ++ (split d W S F).drop 2).length = true := by
          cases e : chain ((split d W S F).take 1 ++ (split d W S F).drop 2) ((split d W S F).take 1 ++ (split d W S F).drop 2).length
          · unfold join at hj
            rw [e] at hj; simp at hj
          · rfl
        have h5 := (chain_iff.1 hc 1 (by simp; omega)).2
        have l1 : ((split d W S F).take 1).length = 1 := by simp; omega
        rw [List.getD_eq_getElem?_getD, List.getD_eq_getElem?_getD, List.getElem?_append_right (by omega), List.getElem?_append_left (by omega), l1, List.getElem?_drop, List.getElem?_take_of_lt (by omega), hg _ (by omega), hg _ (by omega)] at h5
        simp only [Option.getD_some] at h5
        omega
      · omega
    refine ⟨hn, ?_⟩
    rw [hl] at hn
    have hle := cuts_le (n := (toSym d W).length) hS
    rw [hn] at hle
    obtain ⟨_, hm⟩ := sym_most h
    rw [List.length_append] at hm
    have hu := uv_pos d.length
    have h6 : (toSym d W).length * W.toNat ≤ 2 * S.toNat * W.toNat := Nat.mul_le_mul_right _ hle
    have h7 : d.length < 2 * S.toNat * W.toNat := by omega
    have eS : ((S.toNat : Nat) : Int) = S := by omega
    have eW : ((W.toNat : Nat) : Int) = W := by omega
    have h8 : (d.length : Int) < ((2 * S.toNat * W.toNat : Nat) : Int) := by exact_mod_cast h7
    rw [Int.natCast_mul, Int.natCast_mul, eS, eW] at h8
    have e9 : 2 * W * S = ((2 : Nat) : Int) * S * W := by rw [Int.mul_assoc, Int.mul_assoc, Int.mul_comm W S]; rfl
    omega
end Go.Proofs.YtkhfkccbnhjmjaaDoor.Gen
namespace Go.Proofs.YtkhfkccbnhjmjaaDoor.Deep
open Go.RowKit Go.WideShapes Go.Proofs.YtkhfkccbnhjmjaaDoor.Seq

/-- A type: a number of a kind, a slice, two fields one behind the other. -/
inductive T where
  | i (k : IntKind)
  | l (t : T)
  | p (a b : T)
@[reducible] def T.den : T → Type
  | .i _ => Int
  | .l t => List t.den
  | .p a b => a.den × b.den
@[reducible] def T.K : T → Nat
  | .i _ => 1
  | .l _ => 1
  | .p a b => a.K + b.K
theorem T.K_pos : ∀ t : T, 0 < t.K
  | .i _ => Nat.one_pos
  | .l _ => Nat.one_pos
  | .p a b => by have := T.K_pos a; show 0 < a.K + b.K; omega

/-- Cells that read as x; pl: where in memory they lie, if they do. -/
def Rd (w : World) (lo hi : Nat) : (t : T) → Option Addr → List Value → t.den → Prop
  | .i k, pl, cs, x => cs = [.int k x] ∧ Fits k x ∧ ∀ a, pl = some a → lo ≤ a.block ∧ a.block < hi ∧ w.cell? a = some (.int k x)
  | .l t, pl, cs, xs => ∃ ad n cap, cs = [.slice ad n cap] ∧ xs.length = n ∧ n ≤ cap ∧ cap ≤ maxLen ∧ (ad = none → cap = 0) ∧ (∀ a, pl = some a → lo ≤ a.block ∧ a.block < hi ∧ w.cell? a = some (.slice ad n cap)) ∧
      ∀ j x, xs[j]? = some x → ∃ a es, ad = some a ∧ Rd w lo hi t (some (a.add (j * t.K))) es x
  | .p a b, pl, cs, x => ∃ c1 c2, cs = c1 ++ c2 ∧ Rd w lo hi a pl c1 x.1 ∧ Rd w lo hi b (pl.map (·.add a.K)) c2 x.2

section
variable {w w' : World} {lo hi lo' hi' : Nat}
theorem Rd.keep : ∀ {t : T} {pl : Option Addr} {cs : List Value} {x : t.den}, Rd w lo hi t pl cs x → (∀ p : Addr, lo ≤ p.block → p.block < hi → ∀ u, w.cell? p = some u → lo' ≤ p.block ∧ p.block < hi' ∧ w'.cell? p = some u) → Rd w' lo' hi' t pl cs x
  | .i k, pl, cs, x, ⟨h1, h2, h3⟩, hk => ⟨h1, h2, fun a e => by obtain ⟨b1, b2, b3⟩ := h3 a e; exact hk a b1 b2 _ b3⟩
  | .l t, pl, cs, xs, ⟨ad, n, cap, h1, h2, h3, h4, h5, h6, h7⟩, hk => ⟨ad, n, cap, h1, h2, h3, h4, h5, fun a e => by obtain ⟨b1, b2, b3⟩ := h6 a e; exact hk a b1 b2 _ b3, fun j x hx => by
      obtain ⟨a, es, e, r⟩ := h7 j x hx
      exact ⟨a, es, e, r.keep hk⟩⟩
  | .p a b, pl, cs, x, ⟨c1, c2, h1, r1, r2⟩, hk => ⟨c1, c2, h1, r1.keep hk, r2.keep hk⟩
theorem Rd.mv {t : T} {pl : Option Addr} {cs : List Value} {x : t.den} (r : Rd w lo hi t pl cs x) (m : Mv w w' lo' hi') (hd : hi ≤ lo' ∨ hi' ≤ lo) : Rd w' lo hi t pl cs x :=
  r.keep fun p h1 h2 _ hc => ⟨h1, h2, (World.cell?_of_block (m.block p.block (World.block_lt_of_cell? _ _ hc) (by omega))).trans hc⟩
theorem Rd.below {B : Nat} {t : T} {pl : Option Addr} {cs : List Value} {x : t.den} (r : Rd w lo hi t pl cs x) (m : Below B w w') (hB : hi ≤ B ∨ w.heap.size ≤ B) : Rd w' lo hi t pl cs x :=
  r.keep fun p h1 h2 _ hc => ⟨h1, h2, (m.cell (by have := World.block_lt_of_cell? _ _ hc; omega)).trans hc⟩
theorem Rd.mono {t : T} {pl : Option Addr} {cs : List Value} {x : t.den} (r : Rd w lo hi t pl cs x) (h1 : lo' ≤ lo) (h2 : hi ≤ hi') : Rd w lo' hi' t pl cs x :=
  r.keep fun p a b _ hc => ⟨by omega, by omega, hc⟩
theorem Rd.lt {t : T} {pl : Option Addr} {cs : List Value} {x : t.den} (r : Rd w lo hi t pl cs x) : Rd w lo w.heap.size t pl cs x :=
  r.keep fun _ a _ _ hc => ⟨a, World.block_lt_of_cell? _ _ hc, hc⟩
theorem Rd.len : ∀ {t : T} {pl : Option Addr} {cs : List Value} {x : t.den}, Rd w lo hi t pl cs x → cs.length = t.K
  | .i k, pl, cs, x, ⟨h1, _⟩ => by rw [h1]; rfl
  | .l t, pl, cs, xs, ⟨_, _, _, h1, _⟩ => by rw [h1]; rfl
  | .p a b, pl, cs, x, ⟨c1, c2, h1, r1, r2⟩ => by rw [h1, List.length_append, r1.len, r2.len]
/-- The cells themselves. -/
theorem Rd.cell : ∀ {t : T} {a : Addr} {cs : List Value} {x : t.den}, Rd w lo hi t (some a) cs x → ∀ {i : Nat} {c : Value}, cs[i]? = some c → lo ≤ a.block ∧ a.block < hi ∧ w.cell? (a.add i) = some c
  | .i k, a, cs, x, ⟨h1, _, h3⟩, i, c, hc => by
    subst h1
    obtain ⟨b1, b2, b3⟩ := h3 a rfl
    cases i with
    | zero => rw [show a.add 0 = a by unfold Addr.add; simp]; simp at hc; subst hc; exact ⟨b1, b2, b3⟩
    | succ i => simp at hc
  | .l t, a, cs, xs, ⟨_, _, _, h1, _, _, _, _, h6, _⟩, i, c, hc => by
    subst h1
    obtain ⟨b1, b2, b3⟩ := h6 a rfl
    cases i with
    | zero => rw [show a.add 0 = a by unfold Addr.add; simp]; simp at hc; subst hc; exact ⟨b1, b2, b3⟩
    | succ i => simp at hc
  | .p s t, a, cs, x, ⟨c1, c2, h1, r1, r2⟩, i, c, hc => by
    subst h1
    have hl := r1.len
    by_cases hi : i < s.K
    · rw [List.getElem?_append_left (by omega)] at hc
      exact r1.cell hc
    · rw [List.getElem?_append_right (by omega), hl] at hc
      have := r2.cell hc
      rw [add_block, add_add, show s.K + (i - s.K) = i by omega] at this
      exact this
/-- Cells of a register are read wherever they are copied to. -/
theorem Rd.place : ∀ {t : T} {cs : List Value} {x : t.den} {pl : Option Addr} {a : Addr}, Rd w lo hi t pl cs x → (∀ i c, cs[i]? = some c → w.cell? (a.add i) = some c) → lo ≤ a.block → a.block < hi → Rd w lo hi t (some a) cs x
  | .i k, cs, x, pl, a, ⟨h1, h2, _⟩, hc, b1, b2 => ⟨h1, h2, fun a' e => by
      obtain rfl := Option.some.inj e
      have := hc 0 (.int k x) (by rw [h1]; rfl)
      rw [show a.add 0 = a by unfold Addr.add; simp] at this
      exact ⟨b1, b2, this⟩⟩
  | .l t, cs, xs, pl, a, ⟨ad, n, cap, h1, h2, h3, h4, h5, _, h7⟩, hc, b1, b2 => ⟨ad, n, cap, h1, h2, h3, h4, h5, fun a' e => by
      obtain rfl := Option.some.inj e
      have := hc 0 (.slice ad n cap) (by rw [h1]; rfl)
      rw [show a.add 0 = a by unfold Addr.add; simp] at this
      exact ⟨b1, b2, this⟩, h7⟩
  | .p s t, cs, x, pl, a, ⟨c1, c2, h1, r1, r2⟩, hc, b1, b2 => by
    subst h1
    have hl := r1.len
    refine ⟨c1, c2, rfl, r1.place (fun i c h => hc i c (by rw [List.getElem?_append_left (by have := (List.getElem?_eq_some_iff.1 h).1; omega)]; exact h)) b1 b2, ?_⟩
    refine r2.place (fun i c h => ?_) (by rw [add_block]; exact b1) (by rw [add_block]; exact b2)
    rw [add_add]
    refine hc (s.K + i) c ?_
    rw [List.getElem?_append_right (by omega), hl, Nat.add_sub_cancel_left]
    exact h
/-- A cell in memory may be forgotten. -/
theorem Rd.free : ∀ {t : T} {pl : Option Addr} {cs : List Value} {x : t.den}, Rd w lo hi t pl cs x → Rd w lo hi t none cs x
  | .i k, pl, cs, x, ⟨h1, h2, _⟩ => ⟨h1, h2, fun a e => by cases e⟩
  | .l t, pl, cs, xs, ⟨ad, n, cap, h1, h2, h3, h4, h5, _, h7⟩ => ⟨ad, n, cap, h1, h2, h3, h4, h5, fun a e => (by cases e), h7⟩
  | .p a b, pl, cs, x, ⟨c1, c2, h1, r1, r2⟩ => ⟨c1, c2, h1, r1.free, r2.free⟩
end

/-! stamps -/
/-- Numbers written into cells one after another. -/
def stampW (w : World) : List (Addr × IntKind) → Int → World
  | [], _ => w
  | z :: zs, m => stampW (w.setCell z.1 (.int z.2 (stamp z.2 m))) zs (m + 1)
/-- How many numbers lie in memory. -/
def Cn : (t : T) → Bool → t.den → Nat
  | .i _, m, _ => m.toNat
  | .l t, _, xs => (xs.map (Cn t true)).sum
  | .p a b, m, x => Cn a m x.1 + Cn b m x.2
def stL {α : Type} (f : Int → α → α) (c : α → Nat) : Int → List α → List α
  | _, [] => []
  | s, x :: xs => f s x :: stL f c (s + c x) xs
/-- What reads behind it. -/
def St : (t : T) → Bool → Int → t.den → t.den
  | .i k, m, s, x => bif m then stamp k s else x
  | .l t, _, s, xs => stL (St t true) (Cn t true) s xs
  | .p a b, m, s, x => (St a m s x.1, St b m (s + Cn a m x.1) x.2)
theorem stL_len {α : Type} (f : Int → α → α) (c : α → Nat) : ∀ (s : Int) (xs : List α), (stL f c s xs).length = xs.length
  | _, [] => rfl
  | s, x :: xs => by rw [stL, List.length_cons, stL_len f c, List.length_cons]
theorem stL_get {α : Type} (f : Int → α → α) (c : α → Nat) : ∀ (s : Int) (xs : List α) (j : Nat), (stL f c s xs)[j]? = (xs[j]?).map (f (s + ((xs.take j).map c).sum))
  | _, [], _ => by simp [stL]
  | s, x :: xs, 0 => by simp [stL]
  | s, x :: xs, j + 1 => by
    rw [stL, List.getElem?_cons_succ, stL_get f c, List.getElem?_cons_succ, List.take_succ_cons, List.map_cons, List.sum_cons]
    congr 2
    omega
section
variable {w w' : World} {lo hi lo' hi' : Nat}
theorem stampW_size : ∀ (zs : List (Addr × IntKind)) (w : World) (m : Int), (stampW w zs m).heap.size = w.heap.size
  | [], _, _ => rfl
  | z :: zs, w, m => by rw [stampW, stampW_size zs]; simp [World.setCell]
theorem stampW_frozen : ∀ (zs : List (Addr × IntKind)) (w : World) (m : Int) (a : Addr), (stampW w zs m).frozen? a = w.frozen? a
  | [], _, _, _ => rfl
  | z :: zs, w, m, a => by rw [stampW, stampW_frozen zs, World.frozen?_setCell]
theorem stampW_out : ∀ (zs : List (Addr × IntKind)) (w : World) (m : Int) (a : Addr), a ∉ zs.map Prod.fst → (stampW w zs m).cell? a = w.cell? a
  | [], _, _, _, _ => rfl
  | z :: zs, w, m, a, h => by
    rw [List.map_cons, List.mem_cons, not_or] at h
    rw [stampW, stampW_out zs _ _ _ h.2, World.cell?_setCell_other _ _ _ _ (fun e => h.1 e.symm)]
theorem stampW_app : ∀ (zs ys : List (Addr × IntKind)) (w : World) (m : Int), stampW w (zs ++ ys) m = stampW (stampW w zs m) ys (m + zs.length)
  | [], _, _, _ => by simp [stampW]
  | z :: zs, ys, w, m => by
    rw [List.cons_append, stampW, stampW_app zs, stampW, List.length_cons]
    congr 1
    omega
theorem stampW_in (zs ys : List (Addr × IntKind)) (z : Addr × IntKind) (w : World) (m : Int) (hn : ((zs ++ z :: ys).map Prod.fst).Nodup) (hc : (w.cell? z.1).isSome = true) : (stampW w (zs ++ z :: ys) m).cell? z.1 = some (.int z.2 (stamp z.2 (m + zs.length))) := by
  rw [List.map_append, List.map_cons, List.nodup_append] at hn
  obtain ⟨_, h2, h3⟩ := hn
  rw [List.nodup_cons] at h2
  rw [stampW_app, stampW, stampW_out _ _ _ _ h2.1]
  refine World.cell?_setCell_same' _ _ _ ?_
  rw [stampW_out _ _ _ _ (fun hm => h3 _ hm _ (by simp) rfl)]
  exact hc
theorem stampW_mv : ∀ (zs : List (Addr × IntKind)) (w : World) (m : Int), (∀ z ∈ zs, lo ≤ z.1.block ∧ z.1.block < hi) → Mv w (stampW w zs m) lo hi
  | [], w, _, _ => Mv.refl _ _ _
  | z :: zs, w, m, h => ((Mv.refl w lo hi).setCell (h z (by simp)).1 (h z (by simp)).2 _).trans (stampW_mv zs _ _ fun y hy => h y (by simp [hy]))
end

/-- Cells that the call itself has made, and that read as x: ws are those in memory that hold numbers, hs those that hold slices. -/
def Ow (w : World) (lo hi : Nat) : (t : T) → Option Addr → List Value → t.den → List (Addr × IntKind) → List Addr → Prop
  | .i k, pl, cs, x, ws, hs => cs = [.int k x] ∧ Fits k x ∧ ws = (pl.map fun a => (a, k)).toList ∧ hs = [] ∧ ∀ a, pl = some a → lo ≤ a.block ∧ a.block < hi ∧ w.cell? a = some (.int k x) ∧ w.frozen? a = false
  | .l t, pl, cs, xs, ws, hs => ∃ ad n cap, cs = [.slice ad n cap] ∧ xs.length = n ∧ n ≤ cap ∧ cap ≤ maxLen ∧ (ad = none → cap = 0) ∧ (∀ a, pl = some a → lo ≤ a.block ∧ a.block < hi ∧ w.cell? a = some (.slice ad n cap)) ∧
      ∃ (wss : List (List (Addr × IntKind))) (hss : List (List Addr)), wss.length = n ∧ hss.length = n ∧ ws = wss.flatten ∧ hs = pl.toList ++ hss.flatten ∧
        ∀ j x, xs[j]? = some x → ∃ a es w1 h1, ad = some a ∧ wss[j]? = some w1 ∧ hss[j]? = some h1 ∧ Ow w lo hi t (some (a.add (j * t.K))) es x w1 h1
  | .p a b, pl, cs, x, ws, hs => ∃ c1 c2 w1 w2 h1 h2, cs = c1 ++ c2 ∧ ws = w1 ++ w2 ∧ hs = h1 ++ h2 ∧ Ow w lo hi a pl c1 x.1 w1 h1 ∧ Ow w lo hi b (pl.map (·.add a.K)) c2 x.2 w2 h2

section
variable {w w' : World} {lo hi lo' hi' : Nat}
theorem Ow.rd : ∀ {t : T} {pl : Option Addr} {cs : List Value} {x : t.den} {ws : List (Addr × IntKind)} {hs : List Addr}, Ow w lo hi t pl cs x ws hs → Rd w lo hi t pl cs x
  | .i k, pl, cs, x, ws, hs, ⟨h1, h2, _, _, h3⟩ => ⟨h1, h2, fun a e => by obtain ⟨b1, b2, b3, _⟩ := h3 a e; exact ⟨b1, b2, b3⟩⟩
  | .l t, pl, cs, xs, ws, hs, ⟨ad, n, cap, h1, h2, h3, h4, h5, h6, wss, hss, _, _, _, _, h7⟩ => ⟨ad, n, cap, h1, h2, h3, h4, h5, h6, fun j x hx => by
      obtain ⟨a, es, w1, h1, e, _, _, r⟩ := h7 j x hx
      exact ⟨a, es, e, r.rd⟩⟩
  | .p a b, pl, cs, x, ws, hs, ⟨c1, c2, w1, w2, h1, h2, e1, _, _, r1, r2⟩ => ⟨c1, c2, e1, r1.rd, r2.rd⟩
/-- The cells where numbers lie, and those where slices lie, are cells of it. -/
theorem Ow.inside : ∀ {t : T} {pl : Option Addr} {cs : List Value} {x : t.den} {ws : List (Addr × IntKind)} {hs : List Addr}, Ow w lo hi t pl cs x ws hs →
    (∀ z ∈ ws, lo ≤ z.1.block ∧ z.1.block < hi ∧ (w.cell? z.1).isSome = true ∧ w.frozen? z.1 = false) ∧ ∀ z ∈ hs, lo ≤ z.block ∧ z.block < hi ∧ (w.cell? z).isSome = true
  | .i k, pl, cs, x, ws, hs, ⟨h1, h2, e1, e2, h3⟩ => by
    subst e1; subst e2
    refine ⟨fun z hz => ?_, fun z hz => by simp at hz⟩
    cases pl with
    | none => simp at hz
    | some a =>
      simp at hz
      subst hz
      obtain ⟨b1, b2, b3, b4⟩ := h3 a rfl
      exact ⟨b1, b2, by rw [b3]; rfl, b4⟩
  | .l t, pl, cs, xs, ws, hs, ⟨ad, n, cap, h1, h2, h3, h4, h5, h6, wss, hss, l1, l2, e1, e2, h7⟩ => by
    subst e1; subst e2
    have hj : ∀ j, j < n → ∃ a es x w1 h1, wss[j]? = some w1 ∧ hss[j]? = some h1 ∧ Ow w lo hi t (some a) es x w1 h1 := fun j hj => by
      obtain ⟨a, es, w1, h1, _, a1, a2, r⟩ := h7 j xs[j] (List.getElem?_eq_getElem (by omega))
      exact ⟨_, es, _, w1, h1, a1, a2, r⟩
    refine ⟨fun z hz => ?_, fun z hz => ?_⟩
    · obtain ⟨w1, hw, hz⟩ := List.mem_flatten.1 hz
      obtain ⟨j, hjw⟩ := List.mem_iff_getElem?.1 hw
      obtain ⟨a, es, x, w2, h2, a1, _, r⟩ := hj j (by rw [← l1]; exact (List.getElem?_eq_some_iff.1 hjw).1)
      obtain rfl := Option.some.inj (hjw.symm.trans a1)
      exact r.inside.1 z hz
    · rcases List.mem_append.1 hz with hz | hz
      · cases pl with
        | none => simp at hz
        | some a =>
          simp at hz
          subst hz
          obtain ⟨b1, b2, b3⟩ := h6 z rfl
          exact ⟨b1, b2, by rw [b3]; rfl⟩
      · obtain ⟨w1, hw, hz⟩ := List.mem_flatten.1 hz
        obtain ⟨j, hjw⟩ := List.mem_iff_getElem?.1 hw
        obtain ⟨a, es, x, w2, h2, _, a2, r⟩ := hj j (by rw [← l2]; exact (List.getElem?_eq_some_iff.1 hjw).1)
        obtain rfl := Option.some.inj (hjw.symm.trans a2)
        exact r.inside.2 z hz
  | .p a b, pl, cs, x, ws, hs, ⟨c1, c2, w1, w2, h1, h2, _, e1, e2, r1, r2⟩ => by
    subst e1; subst e2
    refine ⟨fun z hz => (List.mem_append.1 hz).elim (r1.inside.1 z) (r2.inside.1 z), fun z hz => (List.mem_append.1 hz).elim (r1.inside.2 z) (r2.inside.2 z)⟩
theorem Ow.keep : ∀ {t : T} {pl : Option Addr} {cs : List Value} {x : t.den} {ws : List (Addr × IntKind)} {hs : List Addr}, Ow w lo hi t pl cs x ws hs →
    (∀ p : Addr, p ∈ ws.map Prod.fst ∨ p ∈ hs → lo ≤ p.block → p.block < hi → ∀ u, w.cell? p = some u → lo' ≤ p.block ∧ p.block < hi' ∧ w'.cell? p = some u) → (∀ p ∈ ws.map Prod.fst, w.frozen? p = false → w'.frozen? p = false) → Ow w' lo' hi' t pl cs x ws hs
  | .i k, pl, cs, x, ws, hs, ⟨h1, h2, e1, e2, h3⟩, hk, hf => ⟨h1, h2, e1, e2, fun a e => by
      obtain ⟨b1, b2, b3, b4⟩ := h3 a e
      have hm : a ∈ ws.map Prod.fst := by rw [e1, e]; simp
      obtain ⟨c1, c2, c3⟩ := hk a (.inl hm) b1 b2 _ b3
      exact ⟨c1, c2, c3, hf a hm b4⟩⟩
  | .l t, pl, cs, xs, ws, hs, ⟨ad, n, cap, h1, h2, h3, h4, h5, h6, wss, hss, l1, l2, e1, e2, h7⟩, hk, hf => by
    subst e1; subst e2
    refine ⟨ad, n, cap, h1, h2, h3, h4, h5, fun a e => ?_, wss, hss, l1, l2, rfl, rfl, fun j x hx => ?_⟩
    · obtain ⟨b1, b2, b3⟩ := h6 a e
      exact hk a (.inr (by rw [e]; simp)) b1 b2 _ b3
    · obtain ⟨a, es, w1, h1, ea, a1, a2, r⟩ := h7 j x hx
      refine ⟨a, es, w1, h1, ea, a1, a2, r.keep (fun p hp => hk p ?_) fun p hp => hf p ?_⟩
      · rcases hp with hp | hp
        · obtain ⟨z, hz, rfl⟩ := List.mem_map.1 hp
          exact .inl (List.mem_map.2 ⟨z, List.mem_flatten.2 ⟨w1, List.mem_of_getElem? a1, hz⟩, rfl⟩)
        · exact .inr (List.mem_append.2 (.inr (List.mem_flatten.2 ⟨h1, List.mem_of_getElem? a2, hp⟩)))
      · obtain ⟨z, hz, rfl⟩ := List.mem_map.1 hp
        exact List.mem_map.2 ⟨z, List.mem_flatten.2 ⟨w1, List.mem_of_getElem? a1, hz⟩, rfl⟩
  | .p a b, pl, cs, x, ws, hs, ⟨c1, c2, w1, w2, h1, h2, e0, e1, e2, r1, r2⟩, hk, hf => by
    subst e1; subst e2
    refine ⟨c1, c2, w1, w2, h1, h2, e0, rfl, rfl, r1.keep (fun p hp => hk p (hp.imp (fun h => by rw [List.map_append]; exact List.mem_append_left _ h) fun h => List.mem_append_left _ h)) fun p hp => hf p (by rw [List.map_append]; exact List.mem_append_left _ hp),
      r2.keep (fun p hp => hk p (hp.imp (fun h => by rw [List.map_append]; exact List.mem_append_right _ h) fun h => List.mem_append_right _ h)) fun p hp => hf p (by rw [List.map_append]; exact List.mem_append_right _ hp)⟩
theorem frozen_block {p : Addr} (h : w'.heap[p.block]? = w.heap[p.block]?) : w'.frozen? p = w.frozen? p := by simp [World.frozen?, h]
theorem Ow.mv {t : T} {pl : Option Addr} {cs : List Value} {x : t.den} {ws : List (Addr × IntKind)} {hs : List Addr} (r : Ow w lo hi t pl cs x ws hs) (m : Mv w w' lo' hi') (hd : hi ≤ lo' ∨ hi' ≤ lo) : Ow w' lo hi t pl cs x ws hs :=
  r.keep (fun p _ h1 h2 _ hc => ⟨h1, h2, (World.cell?_of_block (m.block p.block (World.block_lt_of_cell? _ _ hc) (by omega))).trans hc⟩) fun p hp hf => by
    obtain ⟨z, hz, rfl⟩ := List.mem_map.1 hp
    obtain ⟨b1, b2, b3, _⟩ := r.inside.1 z hz
    obtain ⟨u, hu⟩ := Option.isSome_iff_exists.1 b3
    rw [frozen_block (m.block z.1.block (World.block_lt_of_cell? _ _ hu) (by omega))]; exact hf
theorem Ow.below {B : Nat} {t : T} {pl : Option Addr} {cs : List Value} {x : t.den} {ws : List (Addr × IntKind)} {hs : List Addr} (r : Ow w lo hi t pl cs x ws hs) (m : Below B w w') (hB : hi ≤ B ∨ w.heap.size ≤ B) : Ow w' lo hi t pl cs x ws hs :=
  r.keep (fun p _ h1 h2 _ hc => ⟨h1, h2, (m.cell (by have := World.block_lt_of_cell? _ _ hc; omega)).trans hc⟩) fun p hp hf => by
    obtain ⟨z, hz, rfl⟩ := List.mem_map.1 hp
    obtain ⟨b1, b2, b3, _⟩ := r.inside.1 z hz
    obtain ⟨u, hu⟩ := Option.isSome_iff_exists.1 b3
    have := World.block_lt_of_cell? _ _ hu
    rw [frozen_block (m.block z.1.block (by omega))]; exact hf
theorem Ow.mono {t : T} {pl : Option Addr} {cs : List Value} {x : t.den} {ws : List (Addr × IntKind)} {hs : List Addr} (r : Ow w lo hi t pl cs x ws hs) (h1 : lo' ≤ lo) (h2 : hi ≤ hi') : Ow w lo' hi' t pl cs x ws hs :=
  r.keep (fun p _ a b _ hc => ⟨by omega, by omega, hc⟩) fun _ _ h => h
theorem Ow.cnt : ∀ {t : T} {pl : Option Addr} {cs : List Value} {x : t.den} {ws : List (Addr × IntKind)} {hs : List Addr}, Ow w lo hi t pl cs x ws hs → ws.length = Cn t pl.isSome x
  | .i k, pl, cs, x, ws, hs, ⟨_, _, e1, _, _⟩ => by rw [e1]; cases pl <;> rfl
  | .l t, pl, cs, xs, ws, hs, ⟨ad, n, cap, _, h2, _, _, _, _, wss, hss, l1, _, e1, _, h7⟩ => by
    rw [e1, List.length_flatten]
    show _ = (xs.map (Cn t true)).sum
    congr 1
    apply List.ext_getElem?
    intro j
    rw [List.getElem?_map, List.getElem?_map]
    by_cases hj : j < n
    · have hx := List.getElem?_eq_getElem (l := xs) (i := j) (by omega)
      obtain ⟨a, es, w1, h1, _, a1, _, r⟩ := h7 j _ hx
      rw [hx, a1, Option.map_some, Option.map_some, r.cnt]; rfl
    · rw [List.getElem?_eq_none (by omega), List.getElem?_eq_none (by omega)]; rfl
  | .p a b, pl, cs, x, ws, hs, ⟨c1, c2, w1, w2, h1, h2, _, e1, _, r1, r2⟩ => by
    rw [e1, List.length_append, r1.cnt, r2.cnt]
    cases pl <;> rfl
/-- Kinds that are stamped. -/
def T.Ok : T → Prop
  | .i k => k = .u8 ∨ k = .i64
  | .l t => t.Ok
  | .p a b => a.Ok ∧ b.Ok
theorem flat_split {α : Type} {L : List (List α)} {j : Nat} {x : List α} (h : L[j]? = some x) : L.flatten = (L.take j).flatten ++ x ++ (L.drop (j + 1)).flatten := by
  have hj := (List.getElem?_eq_some_iff.1 h).1
  have e : L = L.take j ++ x :: L.drop (j + 1) := by
    conv => lhs; rw [← List.take_append_drop j L]
    rw [List.drop_eq_getElem_cons hj, (List.getElem?_eq_some_iff.1 h).2]
  conv => lhs; rw [e]
  rw [List.flatten_append, List.flatten_cons, List.append_assoc]
theorem flat_take {α : Type} {L : List (List α)} {j : Nat} {x : List α} (h : L[j]? = some x) : (L.take (j + 1)).flatten = (L.take j).flatten ++ x := by
  rw [List.take_add_one, h, List.flatten_append]; simp
/-- The elements ahead of one: how many numbers. -/
theorem cnt_take {t : T} {n : Nat} {xs : List t.den} {wss : List (List (Addr × IntKind))} (hl : xs.length = n) (hw : wss.length = n) (h : ∀ (j : Nat) (x : t.den), xs[j]? = some x → ∃ w1 : List (Addr × IntKind), wss[j]? = some w1 ∧ w1.length = Cn t true x) (j : Nat) : ((wss.take j).flatten).length = ((xs.take j).map (Cn t true)).sum := by
  rw [List.length_flatten]
  congr 1
  apply List.ext_getElem?
  intro i
  rw [List.getElem?_map, List.getElem?_map, List.getElem?_take, List.getElem?_take]
  by_cases hi : i < j
  · rw [if_pos hi, if_pos hi]
    by_cases hn : i < n
    · have hx := List.getElem?_eq_getElem (l := xs) (i := i) (by omega)
      obtain ⟨w1, a1, c1⟩ := h i _ hx
      rw [hx, a1, Option.map_some, Option.map_some, c1]
    · rw [List.getElem?_eq_none (by omega), List.getElem?_eq_none (by omega)]; rfl
  · rw [if_neg hi, if_neg hi]; rfl
theorem stampW_mid {pre post : List (Addr × IntKind)} {z : Addr × IntKind} {m : Int} (hn : ((pre ++ [z] ++ post).map Prod.fst).Nodup) (hc : (w.cell? z.1).isSome = true) : (stampW w (pre ++ [z] ++ post) m).cell? z.1 = some (.int z.2 (stamp z.2 (m + pre.length))) := by
  rw [List.append_assoc, List.singleton_append] at hn ⊢
  exact stampW_in _ _ _ _ _ hn hc
/-- What all its numbers read as behind stamps. -/
theorem Ow.stamped : ∀ {t : T} {pl : Option Addr} {cs : List Value} {x : t.den} {ws : List (Addr × IntKind)} {hs : List Addr} (_ : Ow w lo hi t pl cs x ws hs) (_ : t.Ok) (pre post : List (Addr × IntKind)) (m : Int), 0 ≤ m → m + (pre ++ ws ++ post).length ≤ 9223372036854775807 →
    ((pre ++ ws ++ post).map Prod.fst).Nodup → (∀ z ∈ hs, z ∉ (pre ++ ws ++ post).map Prod.fst) → ∃ cs', Ow (stampW w (pre ++ ws ++ post) m) lo hi t pl cs' (St t pl.isSome (m + pre.length) x) ws hs ∧ (pl = none → cs' = cs)
  | .i k, pl, cs, x, ws, hs, ⟨h1, h2, e1, e2, h3⟩, hok, pre, post, m, m0, m1, hn, hh => by
    cases pl with
    | none => exact ⟨cs, ⟨h1, h2, e1, e2, fun a e => by cases e⟩, fun _ => rfl⟩
    | some a =>
      obtain ⟨b1, b2, b3, b4⟩ := h3 a rfl
      have e1 : ws = [(a, k)] := e1
      subst e1
      have hc := stampW_mid (m := m) hn (by rw [b3]; rfl)
      refine ⟨[.int k (stamp k (m + pre.length))], ⟨rfl, stamp_fits hok (by omega) (by simp at m1; omega), rfl, e2, fun a' e => ?_⟩, fun e => by cases e⟩
      obtain rfl := Option.some.inj e
      exact ⟨b1, b2, hc, by rw [stampW_frozen]; exact b4⟩
  | .l t, pl, cs, xs, ws, hs, ⟨ad, n, cap, h1, h2, h3, h4, h5, h6, wss, hss, l1, l2, e1, e2, h7⟩, hok, pre, post, m, m0, m1, hn, hh => by
    subst e1; subst e2
    refine ⟨cs, ⟨ad, n, cap, h1, by show (stL _ _ _ xs).length = n; rw [stL_len]; exact h2, h3, h4, h5, fun a e => ?_, wss, hss, l1, l2, rfl, rfl, fun j y hy => ?_⟩, fun _ => rfl⟩
    · obtain ⟨b1, b2, b3⟩ := h6 a e
      exact ⟨b1, b2, (stampW_out _ _ _ _ (hh a (by rw [e]; simp))).trans b3⟩
    · have hy : (stL (St t true) (Cn t true) (m + pre.length) xs)[j]? = some y := hy
      rw [stL_get] at hy
      obtain ⟨x, hx, rfl⟩ := Option.map_eq_some_iff.1 hy
      obtain ⟨a, es, w1, h1, ea, a1, a2, r⟩ := h7 j x hx
      have hct := cnt_take h2 l1 (fun j x hx => by obtain ⟨_, _, w1, _, _, a1, _, r⟩ := h7 j x hx; exact ⟨w1, a1, r.cnt⟩) j
      have e : pre ++ wss.flatten ++ post = (pre ++ (wss.take j).flatten) ++ w1 ++ ((wss.drop (j + 1)).flatten ++ post) := by
        rw [flat_split a1]; simp [List.append_assoc]
      rw [e] at hn hh m1 ⊢
      obtain ⟨cs', r', _⟩ := r.stamped hok (pre ++ (wss.take j).flatten) ((wss.drop (j + 1)).flatten ++ post) m m0 m1 hn fun z hz => hh z (List.mem_append_right _ (List.mem_flatten.2 ⟨h1, List.mem_of_getElem? a2, hz⟩))
      refine ⟨a, cs', w1, h1, ea, a1, a2, ?_⟩
      have e3 : m + (pre.length : Int) + (((xs.take j).map (Cn t true)).sum : Nat) = m + ((pre ++ (wss.take j).flatten).length : Nat) := by
        rw [List.length_append, hct]; omega
      rw [e3]
      exact r'
  | .p a b, pl, cs, x, ws, hs, ⟨c1, c2, w1, w2, h1, h2, e0, e1, e2, r1, r2⟩, hok, pre, post, m, m0, m1, hn, hh => by
    subst e1; subst e2; subst e0
    have ea : pre ++ (w1 ++ w2) ++ post = pre ++ w1 ++ (w2 ++ post) := by simp [List.append_assoc]
    have eb : pre ++ (w1 ++ w2) ++ post = (pre ++ w1) ++ w2 ++ post := by simp [List.append_assoc]
    obtain ⟨d1, s1, q1⟩ := r1.stamped hok.1 pre (w2 ++ post) m m0 (by rw [← ea]; exact m1) (by rw [← ea]; exact hn) fun z hz => by rw [← ea]; exact hh z (List.mem_append_left _ hz)
    obtain ⟨d2, s2, q2⟩ := r2.stamped hok.2 (pre ++ w1) post m m0 (by rw [← eb]; exact m1) (by rw [← eb]; exact hn) fun z hz => by rw [← eb]; exact hh z (List.mem_append_right _ hz)
    rw [← ea] at s1
    rw [← eb] at s2
    refine ⟨d1 ++ d2, ⟨d1, d2, w1, w2, h1, h2, rfl, rfl, rfl, s1, ?_⟩, fun e => by rw [q1 e, q2 (by rw [e]; rfl)]⟩
    have hc := r1.cnt
    have e3 : m + ((pre ++ w1).length : Nat) = m + (pre.length : Int) + (Cn a pl.isSome x.1 : Nat) := by rw [List.length_append, hc]; omega
    rw [e3] at s2
    have e4 : (pl.map (·.add a.K)).isSome = pl.isSome := by cases pl <;> rfl
    rw [e4] at s2
    exact s2
/-- What is not stamped yet stands as it stood. -/
theorem Ow.rest {t : T} {pl : Option Addr} {cs : List Value} {x : t.den} {ws : List (Addr × IntKind)} {hs : List Addr} (r : Ow w lo hi t pl cs x ws hs) (P : List (Addr × IntKind)) (m : Int) (h1 : ∀ z ∈ ws.map Prod.fst, z ∉ P.map Prod.fst) (h2 : ∀ z ∈ hs, z ∉ P.map Prod.fst) : Ow (stampW w P m) lo hi t pl cs x ws hs :=
  r.keep (fun p hp b1 b2 _ hc => ⟨b1, b2, (stampW_out _ _ _ _ (hp.elim (h1 p) (h2 p))).trans hc⟩) fun p _ hf => by rw [stampW_frozen]; exact hf
end
/-- The call's own, apart. -/
def Own (w : World) (lo hi : Nat) (t : T) (cs : List Value) (x : t.den) : Prop := ∃ ws hs, Ow w lo hi t none cs x ws hs ∧ (ws.map Prod.fst).Nodup ∧ ∀ z ∈ hs, z ∉ ws.map Prod.fst
/-- What marking leaves: the stamps, and new memory. -/
def MarksD (ws : List (Addr × IntKind)) (m : Int) (w : World) (e : Ending) (w' : World) : Prop := e = .returned (.int .i64 (m + ws.length)) ∧ Below w.heap.size (stampW w ws m) w'
section
variable {w w' : World} {lo hi lo' hi' : Nat} {t : T} {cs : List Value} {x : t.den}
theorem Own.rd (r : Own w lo hi t cs x) : Rd w lo hi t none cs x := by obtain ⟨ws, hs, r, _, _⟩ := r; exact r.rd
theorem Own.mv (r : Own w lo hi t cs x) (m : Mv w w' lo' hi') (hd : hi ≤ lo' ∨ hi' ≤ lo) : Own w' lo hi t cs x := by obtain ⟨ws, hs, r, a, b⟩ := r; exact ⟨ws, hs, r.mv m hd, a, b⟩
theorem Own.below {B : Nat} (r : Own w lo hi t cs x) (m : Below B w w') (hB : hi ≤ B ∨ w.heap.size ≤ B) : Own w' lo hi t cs x := by obtain ⟨ws, hs, r, a, b⟩ := r; exact ⟨ws, hs, r.below m hB, a, b⟩
theorem Own.mono (r : Own w lo hi t cs x) (h1 : lo' ≤ lo) (h2 : hi ≤ hi') : Own w lo' hi' t cs x := by obtain ⟨ws, hs, r, a, b⟩ := r; exact ⟨ws, hs, r.mono h1 h2, a, b⟩
/-! a value of a register laid into memory -/
def pw : T → Addr → List (Addr × IntKind)
  | .i k, a => [(a, k)]
  | .l _, _ => []
  | .p s t, a => pw s a ++ pw t (a.add s.K)
def ph : T → Addr → List Addr
  | .i _, _ => []
  | .l _, a => [a]
  | .p s t, a => ph s a ++ ph t (a.add s.K)
theorem add_zero (a : Addr) : a.add 0 = a := by unfold Addr.add; simp
theorem place_in : ∀ (t : T) (a : Addr), (∀ z ∈ pw t a, ∃ i, i < t.K ∧ z.1 = a.add i) ∧ ∀ z ∈ ph t a, ∃ i, i < t.K ∧ z = a.add i
  | .i k, a => ⟨fun z hz => ⟨0, Nat.one_pos, by rw [add_zero]; simp [pw] at hz; rw [hz]⟩, fun z hz => by simp [ph] at hz⟩
  | .l t, a => ⟨fun z hz => by simp [pw] at hz, fun z hz => ⟨0, Nat.one_pos, by rw [add_zero]; simpa [ph] using hz⟩⟩
  | .p s t, a => by
    obtain ⟨h1, h2⟩ := place_in s a
    obtain ⟨h3, h4⟩ := place_in t (a.add s.K)
    refine ⟨fun z hz => ?_, fun z hz => ?_⟩
    · rcases List.mem_append.1 hz with hz | hz
      · obtain ⟨i, hi, e⟩ := h1 z hz
        exact ⟨i, by show i < s.K + t.K; omega, e⟩
      · obtain ⟨i, hi, e⟩ := h3 z hz
        exact ⟨s.K + i, by show s.K + i < s.K + t.K; omega, by rw [e, add_add]⟩
    · rcases List.mem_append.1 hz with hz | hz
      · obtain ⟨i, hi, e⟩ := h2 z hz
        exact ⟨i, by show i < s.K + t.K; omega, e⟩
      · obtain ⟨i, hi, e⟩ := h4 z hz
        exact ⟨s.K + i, by show s.K + i < s.K + t.K; omega, by rw [e, add_add]⟩
theorem add_inj {a : Addr} {i j : Nat} (h : a.add i = a.add j) : i = j := by
  unfold Addr.add at h
  split at h <;> split at h
  · omega
  · rename_i h1 h2
    have := congrArg Addr.off h; simp at this; omega
  · rename_i h1 h2
    have := congrArg Addr.off h; simp at this; omega
  · have := congrArg Addr.off h; simp at this; exact this
theorem add_spot {a : Addr} (ha : a.spot = none) (i : Nat) : (a.add i).spot = none := by unfold Addr.add; split <;> simp [ha]
theorem place_nodup : ∀ (t : T) (a : Addr), a.spot = none → ((pw t a).map Prod.fst ++ ph t a).Nodup
  | .i k, a, _ => by simp [pw, ph]
  | .l t, a, _ => by simp [pw, ph]
  | .p s t, a, ha => by
    have n1 := place_nodup s a ha
    have n2 := place_nodup t (a.add s.K) (add_spot ha _)
    obtain ⟨h1, h2⟩ := place_in s a
    obtain ⟨h3, h4⟩ := place_in t (a.add s.K)
    have hp : ((pw (.p s t) a).map Prod.fst ++ ph (.p s t) a).Perm (((pw s a).map Prod.fst ++ ph s a) ++ ((pw t (a.add s.K)).map Prod.fst ++ ph t (a.add s.K))) := by
      show ((pw s a ++ pw t (a.add s.K)).map Prod.fst ++ (ph s a ++ ph t (a.add s.K))).Perm _
      rw [List.map_append, List.append_assoc, List.append_assoc]
      refine List.Perm.append_left _ ?_
      rw [← List.append_assoc, ← List.append_assoc]
      exact List.Perm.append_right _ List.perm_append_comm
    rw [hp.nodup_iff, List.nodup_append]
    refine ⟨n1, n2, fun x hx y hy e => ?_⟩
    subst e
    have e1 : ∃ i, i < s.K ∧ x = a.add i := (List.mem_append.1 hx).elim (fun h => by obtain ⟨z, hz, rfl⟩ := List.mem_map.1 h; exact h1 z hz) (h2 x)
    have e2 : ∃ i, i < t.K ∧ x = (a.add s.K).add i := (List.mem_append.1 hy).elim (fun h => by obtain ⟨z, hz, rfl⟩ := List.mem_map.1 h; exact h3 z hz) (h4 x)
    obtain ⟨i, hi, e1⟩ := e1
    obtain ⟨j, hj, e2⟩ := e2
    rw [add_add] at e2
    have := add_inj (e1.symm.trans e2)
    omega
theorem Ow.place : ∀ {t : T} {cs : List Value} {x : t.den} {ws : List (Addr × IntKind)} {hs : List Addr} (a : Addr), Ow w lo hi t none cs x ws hs → (∀ i c, cs[i]? = some c → w.cell? (a.add i) = some c) → (∀ i, i < t.K → w.frozen? (a.add i) = false) → lo ≤ a.block → a.block < hi →
    ∃ ws' hs', Ow w lo hi t (some a) cs x ws' hs' ∧ ws'.Perm (ws ++ pw t a) ∧ hs'.Perm (hs ++ ph t a)
  | .i k, cs, x, ws, hs, a, ⟨h1, h2, e1, e2, _⟩, hc, hf, b1, b2 => by
    have e1 : ws = [] := e1
    subst e1; subst e2
    have := hc 0 (.int k x) (by rw [h1]; rfl)
    have hf := hf 0 Nat.one_pos
    rw [add_zero] at this hf
    exact ⟨[(a, k)], [], ⟨h1, h2, rfl, rfl, fun a' e => by obtain rfl := Option.some.inj e; exact ⟨b1, b2, this, hf⟩⟩, List.Perm.refl _, List.Perm.refl _⟩
  | .l t, cs, xs, ws, hs, a, ⟨ad, n, cap, h1, h2, h3, h4, h5, _, wss, hss, l1, l2, e1, e2, h7⟩, hc, _, b1, b2 => by
    have e2 : hs = hss.flatten := e2
    subst e1; subst e2
    have := hc 0 (.slice ad n cap) (by rw [h1]; rfl)
    rw [add_zero] at this
    exact ⟨wss.flatten, a :: hss.flatten, ⟨ad, n, cap, h1, h2, h3, h4, h5, fun a' e => by obtain rfl := Option.some.inj e; exact ⟨b1, b2, this⟩, wss, hss, l1, l2, rfl, rfl, h7⟩, by rw [pw, List.append_nil], by rw [ph]; exact List.perm_append_singleton _ _ |>.symm⟩
  | .p s t, cs, x, ws, hs, a, ⟨c1, c2, w1, w2, h1, h2, e0, e1, e2, r1, r2⟩, hc, hf, b1, b2 => by
    subst e1; subst e2; subst e0
    have hl := r1.rd.len
    obtain ⟨v1, g1, q1, p1, o1⟩ := r1.place a (fun i c h => hc i c (by rw [List.getElem?_append_left (by have := (List.getElem?_eq_some_iff.1 h).1; omega)]; exact h)) (fun i hi => hf i (by show i < s.K + t.K; omega)) b1 b2
    obtain ⟨v2, g2, q2, p2, o2⟩ := r2.place (a.add s.K) (fun i c h => by
      rw [add_add]
      refine hc (s.K + i) c ?_
      rw [List.getElem?_append_right (by omega), hl, Nat.add_sub_cancel_left]
      exact h) (fun i hi => by rw [add_add]; exact hf _ (by show s.K + i < s.K + t.K; omega)) (by rw [add_block]; exact b1) (by rw [add_block]; exact b2)
    refine ⟨v1 ++ v2, g1 ++ g2, ⟨c1, c2, v1, v2, g1, g2, rfl, rfl, rfl, q1, q2⟩, (p1.append p2).trans ?_, (o1.append o2).trans ?_⟩
    · show List.Perm (w1 ++ pw s a ++ (w2 ++ pw t (a.add s.K))) (w1 ++ w2 ++ (pw s a ++ pw t (a.add s.K)))
      rw [List.append_assoc, List.append_assoc]
      refine List.Perm.append_left _ ?_
      rw [← List.append_assoc, ← List.append_assoc]
      exact List.Perm.append_right _ List.perm_append_comm
    · show List.Perm (h1 ++ ph s a ++ (h2 ++ ph t (a.add s.K))) (h1 ++ h2 ++ (ph s a ++ ph t (a.add s.K)))
      rw [List.append_assoc, List.append_assoc]
      refine List.Perm.append_left _ ?_
      rw [← List.append_assoc, ← List.append_assoc]
      exact List.Perm.append_right _ List.perm_append_comm
/-- A list out of its elements. -/
theorem Ow.list {ad : Option Addr} {n cap : Nat} {xs : List t.den} (h2 : xs.length = n) (h3 : n ≤ cap) (h4 : cap ≤ maxLen) (h5 : ad = none → cap = 0) {P : Nat → List (Addr × IntKind) → List Addr → Prop}
    (hel : ∀ (j : Nat) (x : t.den), xs[j]? = some x → ∃ a es w1 h1, ad = some a ∧ Ow w lo hi t (some (a.add (j * t.K))) es x w1 h1 ∧ P j w1 h1) :
    ∃ (wss : List (List (Addr × IntKind))) (hss : List (List Addr)), Ow w lo hi (.l t) none [.slice ad n cap] xs wss.flatten hss.flatten ∧ wss.length = n ∧ hss.length = n ∧ ∀ j w1 h1, wss[j]? = some w1 → hss[j]? = some h1 → P j w1 h1 := by
  obtain ⟨ps, hl, hp⟩ := build n (fun j (q : List (Addr × IntKind) × List Addr) => ∃ x a es, xs[j]? = some x ∧ ad = some a ∧ Ow w lo hi t (some (a.add (j * t.K))) es x q.1 q.2 ∧ P j q.1 q.2) fun j hj => by
    have hx := List.getElem?_eq_getElem (l := xs) (i := j) (by omega)
    obtain ⟨a, es, w1, h1, e, r, p⟩ := hel j _ hx
    exact ⟨(w1, h1), _, a, es, hx, e, r, p⟩
  refine ⟨ps.map Prod.fst, ps.map Prod.snd, ⟨ad, n, cap, rfl, h2, h3, h4, h5, fun a e => (by cases e), ps.map Prod.fst, ps.map Prod.snd, by simp [hl], by simp [hl], rfl, rfl, fun j x hx => ?_⟩, by simp [hl], by simp [hl], fun j w1 h1 hw hh => ?_⟩
  · have hj : j < ps.length := by have := (List.getElem?_eq_some_iff.1 hx).1; omega
    have hq := List.getElem?_eq_getElem hj
    obtain ⟨x', a, es, hx', e, r, _⟩ := hp j _ hq
    obtain rfl := Option.some.inj (hx.symm.trans hx')
    exact ⟨a, es, _, _, e, by rw [List.getElem?_map, hq]; rfl, by rw [List.getElem?_map, hq]; rfl, r⟩
  · rw [List.getElem?_map] at hw hh
    obtain ⟨q, hq, rfl⟩ := Option.map_eq_some_iff.1 hw
    rw [hq] at hh
    obtain rfl := Option.some.inj hh
    obtain ⟨_, _, _, _, _, _, p⟩ := hp j _ hq
    exact p
/-- Apart, where the elements are. -/
theorem flat_nodup {wss : List (List (Addr × IntKind))} (h1 : ∀ (j : Nat) (w1 : List (Addr × IntKind)), wss[j]? = some w1 → (w1.map Prod.fst).Nodup) (h2 : ∀ (i j : Nat) (w1 w2 : List (Addr × IntKind)), i < j → wss[i]? = some w1 → wss[j]? = some w2 → ∀ z ∈ w1.map Prod.fst, z ∉ w2.map Prod.fst) : (wss.flatten.map Prod.fst).Nodup := by
  rw [List.map_flatten]
  unfold List.Nodup
  rw [List.pairwise_flatten]
  refine ⟨fun l hl => ?_, ?_⟩
  · obtain ⟨w1, hw, rfl⟩ := List.mem_map.1 hl
    obtain ⟨j, hj⟩ := List.mem_iff_getElem?.1 hw
    exact h1 j w1 hj
  · rw [List.pairwise_map, List.pairwise_iff_getElem]
    intro i j hi hj hij z hz y hy e
    subst e
    exact h2 i j _ _ hij (List.getElem?_eq_getElem hi) (List.getElem?_eq_getElem hj) z hz hy
/-- The laws' way to say it. -/
theorem marked {ws : List (Addr × IntKind)} {hs : List Addr} (r : Ow w lo hi t none cs x ws hs) (hok : t.Ok) (hn : (ws.map Prod.fst).Nodup) (hh : ∀ z ∈ hs, z ∉ ws.map Prod.fst) {m : Int} (m0 : 0 ≤ m) (m1 : m + ws.length ≤ 9223372036854775807) {e : Ending} (h : MarksD ws m w e w') :
    e = .returned (.int .i64 (m + Cn t false x)) ∧ Own w' lo hi t cs (St t false m x) ∧ Mv w w' lo hi := by
  obtain ⟨rfl, b⟩ := h
  have hc := r.cnt
  obtain ⟨cs', s, q⟩ := r.stamped hok [] [] m m0 (by simpa using m1) (by simpa using hn) (by simpa using hh)
  simp only [List.nil_append, List.append_nil, List.length_nil, Int.natCast_zero, Int.add_zero] at s
  obtain rfl := q rfl
  have hm : Mv w (stampW w ws m) lo hi := stampW_mv ws w m fun z hz => ⟨(r.inside.1 z hz).1, (r.inside.1 z hz).2.1⟩
  have hz := stampW_size ws w m
  exact ⟨by rw [hc]; rfl, ⟨ws, hs, s.below b (.inr (by omega)), hn, hh⟩, hm.trans (Mv.of_below b (by omega))⟩
end
end Go.Proofs.YtkhfkccbnhjmjaaDoor.Deep
namespace Go.Proofs.YtkhfkccbnhjmjaaDoor.Deep
open Go.RowKit Go.WideShapes Go.Proofs.YtkhfkccbnhjmjaaDoor.Seq Go.Proofs.YtkhfkccbnhjmjaaDoor.Shape

abbrev tI : T := .i .i64
abbrev tB : T := .i .u8
abbrev tBs : T := .l tB
abbrev tIs : T := .l tI
abbrev tIss : T := .l tIs
abbrev tBas : T := .p tI tIss
section
variable {w : World} {lo hi : Nat} {k : IntKind} {e : TypeId} {ad : Option Addr} {n cap : Nat} {u v : Value} {xs : List Int} {us : List Value} {xss : List (List Int)}
theorem sl_rd (s : Sl w lo hi k ad n cap xs) : Rd w lo hi (.l (.i k)) none [.slice ad n cap] xs :=
  ⟨ad, n, cap, rfl, s.len, s.le, s.big, s.nil, fun a e => (by cases e), fun j x hx => by
    obtain ⟨a, e, b1, b2, hc⟩ := s.cells j x hx
    refine ⟨a, [.int k x], e, rfl, s.fits x (List.mem_of_getElem? hx), fun a' e' => ?_⟩
    obtain rfl := Option.some.inj e'
    rw [show j * T.K (.i k) = j from Nat.mul_one j]
    exact ⟨by rw [add_block]; exact b1, by rw [add_block]; exact b2, hc⟩⟩
theorem rd_sl {cs : List Value} {pl : Option Addr} (r : Rd w lo hi (.l (.i k)) pl cs xs) : ∃ ad n cap, cs = [.slice ad n cap] ∧ Sl w lo hi k ad n cap xs := by
  obtain ⟨ad, n, cap, h1, h2, h3, h4, h5, _, h7⟩ := r
  refine ⟨ad, n, cap, h1, h2, h3, h4, h5, fun x hx => ?_, fun j x hx => ?_⟩
  · obtain ⟨j, hj⟩ := List.mem_iff_getElem?.1 hx
    obtain ⟨a, es, _, _, hf, _⟩ := h7 j x hj
    exact hf
  · obtain ⟨a, es, e, _, _, hc⟩ := h7 j x hx
    have := hc _ rfl
    rw [show j * T.K (.i k) = j from Nat.mul_one j, add_block] at this
    exact ⟨a, e, this⟩
theorem ints_rd (s : IsInts w lo hi u xs) : Rd w lo hi tIs none [u] xs := by obtain ⟨_, _, _, rfl, s⟩ := s; exact sl_rd s
theorem rd_ints {pl : Option Addr} (r : Rd w lo hi tIs pl [u] xs) : IsInts w lo hi u xs := by
  obtain ⟨ad, n, cap, e, s⟩ := rd_sl r
  simp at e
  exact ⟨ad, n, cap, e, s⟩
theorem sls_rd (s : Sls w lo hi ad n cap xss) : Rd w lo hi tIss none [.slice ad n cap] xss :=
  ⟨ad, n, cap, rfl, s.len, s.le, s.big, s.nil, fun a e => (by cases e), fun j x hx => by
    obtain ⟨a, u, e, b1, b2, hc, hs⟩ := s.cells j x hx
    refine ⟨a, [u], e, (ints_rd hs).place (fun i c h => ?_) (by rw [add_block]; exact b1) (by rw [add_block]; exact b2)⟩
    cases i with
    | zero => simp at h; subst h; rw [show j * T.K (.l tI) = j from Nat.mul_one j, add_zero]; exact hc
    | succ i => simp at h⟩
theorem rd_sls {cs : List Value} {pl : Option Addr} (r : Rd w lo hi tIss pl cs xss) : ∃ ad n cap, cs = [.slice ad n cap] ∧ Sls w lo hi ad n cap xss := by
  obtain ⟨ad, n, cap, h1, h2, h3, h4, h5, _, h7⟩ := r
  refine ⟨ad, n, cap, h1, h2, h3, h4, h5, fun j x hx => ?_⟩
  obtain ⟨a, es, e, q⟩ := h7 j x hx
  obtain ⟨u, rfl⟩ : ∃ u, es = [u] := by
    have hl : es.length = 1 := q.len
    cases es with
    | nil => simp at hl
    | cons u es => cases es with
      | nil => exact ⟨u, rfl⟩
      | cons _ _ => simp at hl
  have hc := q.cell (i := 0) (c := u) rfl
  rw [add_zero, show j * T.K (.l tI) = j from Nat.mul_one j, add_block] at hc
  exact ⟨a, u, e, hc.1, hc.2.1, hc.2.2, rd_ints q⟩
theorem ISS_rd (s : IntSSI w lo hi v xss) : Rd w lo hi tIss none [v] xss := by obtain ⟨_, _, _, rfl, s⟩ := s; exact sls_rd s
theorem rd_ISS {pl : Option Addr} (r : Rd w lo hi tIss pl [v] xss) : IntSSI w lo hi v xss := by
  obtain ⟨ad, n, cap, e, s⟩ := rd_sls r
  simp at e
  exact ⟨ad, n, cap, e, s⟩
theorem Ow.atl {t : T} {x : (T.l t).den} {ws : List (Addr × IntKind)} {hs : List Addr} {a : Addr} (o : Ow w lo hi (.l t) none [v] x ws hs) (hc : w.cell? a = some v) (b1 : lo ≤ a.block) (b2 : a.block < hi) : Ow w lo hi (.l t) (some a) [v] x ws (a :: hs) := by
  obtain ⟨ad, n, cap, h1, h2, h3, h4, h5, _, wss, hss, l1, l2, e1, e2, h7⟩ := o
  have e2 : hs = hss.flatten := e2
  simp at h1
  subst h1; subst e2
  exact ⟨ad, n, cap, rfl, h2, h3, h4, h5, fun a' e => (by obtain rfl := Option.some.inj e; exact ⟨b1, b2, hc⟩), wss, hss, l1, l2, e1, rfl, h7⟩
theorem tail_ow (s : OwnTail w lo hi e u xs) : ∃ ws, Ow w lo hi tIs none [u] xs ws [] ∧ (ws.map Prod.fst).Nodup ∧ ∀ z ∈ ws.map Prod.fst, blockOf u = some z.block := by
  obtain ⟨ad, n, cap, rfl, h1, h2, h3, ⟨rfl, rfl⟩ | ⟨hn, g, C, pre, rfl, b1, b2, r⟩⟩ := s
  · exact ⟨[], ⟨ad, 0, cap, rfl, rfl, h1, h2, h3, fun a e => (by cases e), [], [], rfl, rfl, rfl, rfl, fun j x hx => by simp at hx⟩, List.nodup_nil, by simp⟩
  · have hl : xs.length = n := by have := r.len; rw [List.length_append] at this; omega
    have hg : ∀ (j : Nat) (x : Int), xs[j]? = some x → (pre ++ xs)[pre.length + j]? = some x := fun j x hx => by rw [List.getElem?_append_right (by omega), Nat.add_sub_cancel_left]; exact hx
    have ha : ∀ j, (⟨g, pre.length, none⟩ : Addr).add j = ⟨g, pre.length + j, none⟩ := fun j => Addr.add_lit _ _ _
    obtain ⟨wss, hss, o, l1, l2, hp⟩ := Ow.list (w := w) (lo := lo) (hi := hi) (t := tI) (ad := some ⟨g, pre.length, none⟩) hl h1 h2 h3 (P := fun j w1 h1 => w1 = [((⟨g, pre.length, none⟩ : Addr).add j, .i64)] ∧ h1 = []) (fun j x hx => by
      refine ⟨_, [.int .i64 x], [((⟨g, pre.length, none⟩ : Addr).add j, .i64)], [], rfl, ⟨rfl, r.fits x (List.mem_of_getElem? (hg j x hx)), ?_, rfl, fun a e => ?_⟩, rfl, rfl⟩
      · rw [show j * T.K tI = j from Nat.mul_one j]; rfl
      · obtain rfl := Option.some.inj e
        have hj := (List.getElem?_eq_some_iff.1 hx).1
        obtain ⟨_, _, _, _, hf⟩ := r.there (j := pre.length + j) (by omega)
        rw [show j * T.K tI = j from Nat.mul_one j, ha]
        exact ⟨b1, b2, r.cell (hg j x hx), hf⟩)
    have hs0 : hss.flatten = [] := by
      rw [List.flatten_eq_nil_iff]
      intro q hq
      obtain ⟨j, hj⟩ := List.mem_iff_getElem?.1 hq
      have hjn := (List.getElem?_eq_some_iff.1 hj).1
      exact (hp j _ q (List.getElem?_eq_getElem (by omega)) hj).2
    rw [hs0] at o
    have hw : ∀ j w1, wss[j]? = some w1 → w1 = [((⟨g, pre.length, none⟩ : Addr).add j, .i64)] := fun j w1 hj => by
      have hjn := (List.getElem?_eq_some_iff.1 hj).1
      exact (hp j w1 _ hj (List.getElem?_eq_getElem (by omega))).1
    refine ⟨wss.flatten, o, flat_nodup (fun j w1 hj => by rw [hw j w1 hj]; simp) fun i j w1 w2 hij hi hj z hz hz2 => ?_, fun z hz => ?_⟩
    · rw [hw i w1 hi] at hz
      rw [hw j w2 hj] at hz2
      simp at hz hz2
      have := add_inj (hz.symm.trans hz2)
      omega
    · obtain ⟨q, hq, rfl⟩ := List.mem_map.1 hz
      obtain ⟨w1, hw1, hq⟩ := List.mem_flatten.1 hq
      obtain ⟨j, hj⟩ := List.mem_iff_getElem?.1 hw1
      rw [hw j w1 hj] at hq
      simp at hq
      subst hq
      have hn' : n ≠ 0 := by omega
      simp [blockOf, hn', add_block]
theorem net_own (r : Net w lo hi e ad n cap us xss) : Own w lo hi tIss [.slice ad n cap] xss := by
  obtain ⟨wss, hss, o, l1, l2, hp⟩ := Ow.list (w := w) (lo := lo) (hi := hi) (t := tIs) (ad := ad) r.len r.out.le r.out.big r.out.nil (P := fun j w1 h1 => ∃ u a, us[j]? = some u ∧ ad = some a ∧ (w1.map Prod.fst).Nodup ∧ (∀ z ∈ w1.map Prod.fst, blockOf u = some z.block) ∧ h1 = [a.add j]) (fun j x hx => by
    have hj : j < n := by have := r.len; have := (List.getElem?_eq_some_iff.1 hx).1; omega
    obtain ⟨u, xs, a, hu, hx', ho, ea, hc⟩ := r.row hj
    obtain rfl := Option.some.inj (hx.symm.trans hx')
    obtain ⟨ws, o, h1, h2⟩ := tail_ow ho
    obtain ⟨a', u', e', hu', b1, b2, hc'⟩ := r.out.at_ hj
    obtain rfl := Option.some.inj (ea.symm.trans e')
    refine ⟨a, [u], ws, [a.add j], ea, ?_, u, a, hu, ea, h1, h2, rfl⟩
    rw [show j * T.K tIs = j from Nat.mul_one j]
    exact o.atl hc (by rw [add_block]; exact b1) (by rw [add_block]; exact b2))
  have hw : ∀ (j : Nat) (w1 : List (Addr × IntKind)), wss[j]? = some w1 → ∃ u, us[j]? = some u ∧ (w1.map Prod.fst).Nodup ∧ ∀ z ∈ w1.map Prod.fst, blockOf u = some z.block := fun j w1 hj => by
    have hjn := (List.getElem?_eq_some_iff.1 hj).1
    obtain ⟨u, a, h1, _, h2, h3, _⟩ := hp j w1 _ hj (List.getElem?_eq_getElem (by omega))
    exact ⟨u, h1, h2, h3⟩
  refine ⟨wss.flatten, hss.flatten, o, flat_nodup (fun j w1 hj => (hw j w1 hj).elim fun _ h => h.2.1) fun i j w1 w2 hij hi hj z hz hz2 => ?_, fun z hz hz2 => ?_⟩
  · obtain ⟨u, hu, _, h1⟩ := hw i w1 hi
    obtain ⟨v, hv, _, h2⟩ := hw j w2 hj
    exact r.apart i j u v z.block (by omega) hu hv (h1 z hz) (h2 z hz2)
  · obtain ⟨q, hq, hz⟩ := List.mem_flatten.1 hz
    obtain ⟨j, hj⟩ := List.mem_iff_getElem?.1 hq
    have hjn := (List.getElem?_eq_some_iff.1 hj).1
    obtain ⟨_, a, _, ea, _, _, rfl⟩ := hp j _ q (List.getElem?_eq_getElem (by omega)) hj
    simp at hz
    subst hz
    obtain ⟨q, hq, e⟩ := List.mem_map.1 hz2
    obtain ⟨w1, hw1, hq⟩ := List.mem_flatten.1 hq
    obtain ⟨i, hi⟩ := List.mem_iff_getElem?.1 hw1
    obtain ⟨u, hu, _, h1⟩ := hw i w1 hi
    have := h1 q.1 (List.mem_map.2 ⟨q, hq, rfl⟩)
    rw [e, add_block] at this
    exact r.away i u a.block a hu this ea rfl
theorem ISO_own (s : IntSO w lo hi v xs) : Own w lo hi tIs [v] xs := by
  obtain ⟨ws, o, h1, _⟩ := tail_ow s
  exact ⟨ws, [], o, h1, by simp⟩
theorem ISSO_own (s : IntSSO w lo hi v xss) : Own w lo hi tIss [v] xss := by obtain ⟨_, _, _, _, rfl, s⟩ := s; exact net_own s
/-- A number in front. -/
theorem Own.num {t : T} {cs : List Value} {x : t.den} {y : Int} (h : Fits k y) (o : Own w lo hi t cs x) : Own w lo hi (.p (.i k) t) (.int k y :: cs) (y, x) := by
  obtain ⟨ws, hs, o, h1, h2⟩ := o
  exact ⟨ws, hs, ⟨[.int k y], cs, [], ws, [], hs, rfl, rfl, rfl, ⟨rfl, h, rfl, rfl, fun a e => (by cases e)⟩, o⟩, h1, h2⟩
theorem Rd.num {t : T} {cs : List Value} {x : t.den} {y : Int} (h : Fits k y) (r : Rd w lo hi t none cs x) : Rd w lo hi (.p (.i k) t) none (.int k y :: cs) (y, x) :=
  ⟨[.int k y], cs, rfl, ⟨rfl, h, fun a e => (by cases e)⟩, r⟩
end
end Go.Proofs.YtkhfkccbnhjmjaaDoor.Deep
namespace Go.Proofs.YtkhfkccbnhjmjaaDoor.Deep
open Go.RowKit Go.WideShapes Go.Proofs.YtkhfkccbnhjmjaaDoor.Seq

/-- How much is measured; and how many numbers that can be. -/
def Sz : (t : T) → t.den → Nat
  | .i _, _ => 0
  | .l t, xs => xs.length + (xs.map (Sz t)).sum
  | .p a b, x => Sz a x.1 + Sz b x.2
def T.N : T → Nat
  | .i _ => 1
  | .l t => t.N
  | .p a b => a.N + b.N
theorem sum_le {α : Type} (f g : α → Nat) (c : Nat) : ∀ xs : List α, (∀ x ∈ xs, f x ≤ c * (1 + g x)) → (xs.map f).sum ≤ c * (xs.length + (xs.map g).sum)
  | [], _ => by simp
  | x :: xs, h => by
    have h1 := h x (by simp)
    have h2 := sum_le f g c xs fun y hy => h y (by simp [hy])
    simp only [List.map_cons, List.sum_cons, List.length_cons]
    have e : c * (xs.length + 1 + (g x + (xs.map g).sum)) = c * (1 + g x) + c * (xs.length + (xs.map g).sum) := by
      rw [← Nat.mul_add]; congr 1; omega
    omega
theorem Cn_le : ∀ (t : T) (m : Bool) (x : t.den), Cn t m x ≤ t.N * (1 + Sz t x)
  | .i k, m, x => by cases m <;> simp [Cn, T.N, Sz]
  | .l t, m, xs => by
    have h := sum_le (Cn t true) (Sz t) t.N xs fun x _ => Cn_le t true x
    have e : t.N * (1 + (xs.length + (xs.map (Sz t)).sum)) = t.N + t.N * (xs.length + (xs.map (Sz t)).sum) := by rw [Nat.mul_add, Nat.mul_one]
    show (xs.map (Cn t true)).sum ≤ t.N * (1 + (xs.length + (xs.map (Sz t)).sum))
    omega
  | .p a b, m, x => by
    have h1 := Cn_le a m x.1
    have h2 := Cn_le b m x.2
    show Cn a m x.1 + Cn b m x.2 ≤ (a.N + b.N) * (1 + (Sz a x.1 + Sz b x.2))
    have e1 : (a.N + b.N) * (1 + (Sz a x.1 + Sz b x.2)) = a.N * (1 + (Sz a x.1 + Sz b x.2)) + b.N * (1 + (Sz a x.1 + Sz b x.2)) := Nat.add_mul _ _ _
    have e2 := Nat.mul_le_mul_left a.N (show 1 + Sz a x.1 ≤ 1 + (Sz a x.1 + Sz b x.2) by omega)
    have e3 := Nat.mul_le_mul_left b.N (show 1 + Sz b x.2 ≤ 1 + (Sz a x.1 + Sz b x.2) by omega)
    omega
theorem sum_take {α : Type} (f : α → Nat) {xs : List α} {j : Nat} {x : α} (h : xs[j]? = some x) : ((xs.take (j + 1)).map f).sum = ((xs.take j).map f).sum + f x := by
  rw [List.take_add_one, h, List.map_append, List.sum_append]; simp
theorem sum_take_le {α : Type} (f : α → Nat) (xs : List α) (j : Nat) : ((xs.take j).map f).sum ≤ (xs.map f).sum := by
  conv => rhs; rw [← List.take_append_drop j xs]
  rw [List.map_append, List.sum_append]; omega
section
variable {w w' : World} {lo hi : Nat} {t : T}
/-- A slice, and its elements. -/
theorem Rd.slice {pl : Option Addr} {cs : List Value} {xs : List t.den} (r : Rd w lo hi (.l t) pl cs xs) : ∃ ad n cap, cs = [.slice ad n cap] ∧ xs.length = n ∧ n ≤ cap ∧ cap ≤ maxLen ∧ (ad = none → cap = 0) ∧
    ∀ j, j < n → ∃ a x es, ad = some a ∧ xs[j]? = some x ∧ Rd w lo hi t (some (a.add (j * t.K))) es x := by
  obtain ⟨ad, n, cap, h1, h2, h3, h4, h5, _, h7⟩ := r
  refine ⟨ad, n, cap, h1, h2, h3, h4, h5, fun j hj => ?_⟩
  have hx := List.getElem?_eq_getElem (l := xs) (i := j) (by omega)
  obtain ⟨a, es, e, q⟩ := h7 j _ hx
  exact ⟨a, _, es, e, hx, q⟩
theorem Ow.free : ∀ {t : T} {pl : Option Addr} {v : Value} {x : (T.l t).den} {ws : List (Addr × IntKind)} {hs : List Addr}, Ow w lo hi (.l t) pl [v] x ws hs → ∃ hs', Ow w lo hi (.l t) none [v] x ws hs' ∧ ∀ z ∈ hs', z ∈ hs
  | t, pl, v, x, ws, hs, ⟨ad, n, cap, h1, h2, h3, h4, h5, _, wss, hss, l1, l2, e1, e2, h7⟩ => ⟨hss.flatten, ⟨ad, n, cap, h1, h2, h3, h4, h5, fun a e => (by cases e), wss, hss, l1, l2, e1, rfl, h7⟩, fun z hz => by rw [e2]; exact List.mem_append_right _ hz⟩
theorem setCell_below {a b : World} {B : Nat} (h : Below B a b) (p : Addr) (v : Value) : Below B (a.setCell p v) (b.setCell p v) :=
  ⟨h.os, h.tape, h.output, by simp [World.setCell]; exact h.size, fun k hk => by
    have := h.block k hk
    simp only [World.setCell, Array.getElem?_modify]
    split
    · rw [this]
    · exact this⟩
theorem stampW_below : ∀ (zs : List (Addr × IntKind)) {a b : World} {B : Nat} (m : Int), Below B a b → Below B (stampW a zs m) (stampW b zs m)
  | [], _, _, _, _, h => h
  | _ :: zs, _, _, _, m, h => stampW_below zs (m + 1) (setCell_below h _ _)
/-- Marking goes on: what was marked, and what is marked next. -/
theorem mark_on {P Q : List (Addr × IntKind)} {m : Int} {wr w2 : World} (h : Below w.heap.size (stampW w P m) wr) (h2 : Below wr.heap.size (stampW wr Q (m + P.length)) w2) : Below w.heap.size (stampW w (P ++ Q) m) w2 := by
  have hz := stampW_size P w m
  have hs := h.size
  rw [stampW_app]
  exact (stampW_below Q _ h).trans (h2.mono (by omega))
theorem mark_then {P Q : List (Addr × IntKind)} {m k : Int} {wr w2 : World} (h : Below w.heap.size (stampW w P m) wr) (hk : k = m + P.length) (h2 : Below wr.heap.size (stampW wr Q k) w2) : Below w.heap.size (stampW w (P ++ Q) m) w2 := by
  subst hk
  exact mark_on h h2
/-- The elements of a list that is marked: each as it stands when its turn comes. -/
theorem mark_elems {ad : Option Addr} {n cap : Nat} {xs : List t.den} {ws : List (Addr × IntKind)} {hs : List Addr} (o : Ow w lo hi (.l t) none [.slice ad n cap] xs ws hs) (hn : (ws.map Prod.fst).Nodup) (hh : ∀ z ∈ hs, z ∉ ws.map Prod.fst) :
    n ≤ cap ∧ cap ≤ maxLen ∧ ∃ wss : List (List (Addr × IntKind)), ws = wss.flatten ∧ wss.take n = wss ∧ ∀ j, j < n → ∃ a x es w1 h1, ad = some a ∧ xs[j]? = some x ∧ wss[j]? = some w1 ∧ (w1.map Prod.fst).Nodup ∧ (∀ z ∈ h1, z ∉ w1.map Prod.fst) ∧ (wss.take (j + 1)).flatten = (wss.take j).flatten ++ w1 ∧
      ((wss.take j).flatten).length + w1.length ≤ ws.length ∧ ∀ (m : Int) (wr : World), Below w.heap.size (stampW w (wss.take j).flatten m) wr → Ow wr lo hi t (some (a.add (j * t.K))) es x w1 h1 := by
  obtain ⟨ad', n', cap', h1, h2, h3, h4, h5, _, wss, hss, l1, l2, e1, e2, h7⟩ := o
  simp at h1
  obtain ⟨rfl, rfl, rfl⟩ := h1
  have e2 : hs = hss.flatten := e2
  subst e1; subst e2
  refine ⟨h3, h4, wss, rfl, List.take_of_length_le (by omega), fun j hj => ?_⟩
  have hx := List.getElem?_eq_getElem (l := xs) (i := j) (by omega)
  obtain ⟨a, es, w1, h1, ea, a1, a2, r⟩ := h7 j _ hx
  have hf := flat_split a1
  have hft := flat_take a1
  rw [hf, List.map_append, List.map_append, List.append_assoc, List.nodup_append] at hn
  obtain ⟨n1, n2, n3⟩ := hn
  rw [List.nodup_append] at n2
  have hm1 : ∀ z ∈ h1, z ∈ hss.flatten := fun z hz => List.mem_flatten.2 ⟨h1, List.mem_of_getElem? a2, hz⟩
  have hmw : ∀ z ∈ w1, z ∈ wss.flatten := fun z hz => List.mem_flatten.2 ⟨w1, List.mem_of_getElem? a1, hz⟩
  refine ⟨a, _, es, w1, h1, ea, hx, a1, n2.1, fun z hz hz2 => ?_, hft, ?_, fun m wr hb => ?_⟩
  · obtain ⟨q, hq, rfl⟩ := List.mem_map.1 hz2
    exact hh q.1 (hm1 _ hz) (List.mem_map.2 ⟨q, hmw q hq, rfl⟩)
  · have := congrArg List.length hf
    rw [List.length_append, List.length_append] at this
    omega
  · refine (r.rest (wss.take j).flatten m (fun z hz hz2 => n3 z hz2 z (List.mem_append_left _ hz) rfl) fun z hz hz2 => ?_).below hb (.inr (Nat.le_of_eq (stampW_size _ _ _)))
    obtain ⟨q, hq, rfl⟩ := List.mem_map.1 hz2
    refine hh q.1 (hm1 _ hz) (List.mem_map.2 ⟨q, ?_, rfl⟩)
    obtain ⟨l, hl, hq⟩ := List.mem_flatten.1 hq
    exact List.mem_flatten.2 ⟨l, List.mem_of_mem_take hl, hq⟩
/-- Two fields that are marked one after the other. -/
theorem mark_pair {s t : T} {pl : Option Addr} {cs : List Value} {x : (T.p s t).den} {ws : List (Addr × IntKind)} {hs : List Addr} (o : Ow w lo hi (.p s t) pl cs x ws hs) (hn : (ws.map Prod.fst).Nodup) (hh : ∀ z ∈ hs, z ∉ ws.map Prod.fst) :
    ∃ c1 c2 w1 w2 h1 h2, cs = c1 ++ c2 ∧ ws = w1 ++ w2 ∧ Ow w lo hi s pl c1 x.1 w1 h1 ∧ (w1.map Prod.fst).Nodup ∧ (∀ z ∈ h1, z ∉ w1.map Prod.fst) ∧ (w2.map Prod.fst).Nodup ∧ (∀ z ∈ h2, z ∉ w2.map Prod.fst) ∧
      ∀ (m : Int) (wr : World), Below w.heap.size (stampW w w1 m) wr → Ow wr lo hi t (pl.map (·.add s.K)) c2 x.2 w2 h2 := by
  obtain ⟨c1, c2, w1, w2, h1, h2, e0, e1, e2, r1, r2⟩ := o
  subst e1; subst e2
  rw [List.map_append, List.nodup_append] at hn
  obtain ⟨n1, n2, n3⟩ := hn
  have hz : ∀ z ∈ h1 ++ h2, z ∉ w1.map Prod.fst ∧ z ∉ w2.map Prod.fst := fun z hz => by
    have := hh z hz
    rw [List.map_append, List.mem_append, not_or] at this
    exact this
  exact ⟨c1, c2, w1, w2, h1, h2, e0, rfl, r1, n1, fun z h => (hz z (List.mem_append_left _ h)).1, n2, fun z h => (hz z (List.mem_append_right _ h)).2, fun m wr hb =>
    (r2.rest w1 m (fun z h2 h1 => n3 z h1 z h2 rfl) fun z h => (hz z (List.mem_append_right _ h)).1).below hb (.inr (Nat.le_of_eq (stampW_size _ _ _)))⟩
/-- Taking a field off. -/
theorem Rd.unp {s t : T} {pl : Option Addr} {cs : List Value} {x : (T.p s t).den} (r : Rd w lo hi (.p s t) pl cs x) (hs : s.K = 1) : ∃ c cs', cs = c :: cs' ∧ Rd w lo hi s pl [c] x.1 ∧ Rd w lo hi t (pl.map (·.add s.K)) cs' x.2 := by
  obtain ⟨c1, c2, e, r1, r2⟩ := r
  have hl := r1.len
  rw [hs] at hl
  obtain ⟨c, rfl⟩ := List.length_eq_one_iff.1 hl
  exact ⟨c, c2, e, r1, r2⟩
theorem Rd.uni {k : IntKind} {pl : Option Addr} {cs : List Value} {x : Int} (r : Rd w lo hi (.i k) pl cs x) : cs = [.int k x] ∧ Fits k x := ⟨r.1, r.2.1⟩
theorem Rd.unl {t : T} {pl : Option Addr} {c : Value} {x : (T.l t).den} (r : Rd w lo hi (.l t) pl [c] x) : ∃ ad n cap, c = .slice ad n cap := by
  obtain ⟨ad, n, cap, h1, _⟩ := r
  simp at h1
  exact ⟨ad, n, cap, h1⟩
theorem Rd.cell0 {t : T} {a : Addr} {c : Value} {cs : List Value} {x : t.den} (r : Rd w lo hi t (some a) (c :: cs) x) : w.cell? a = some c := by
  have := (r.cell (i := 0) rfl).2.2
  rwa [add_zero] at this
theorem Rd.cells {t : T} {a : Addr} {cs : List Value} {x : t.den} (r : Rd w lo hi t (some a) cs x) (i : Nat) {c : Value} (h : cs[i + 1]? = some c) : w.cell? ⟨a.block, a.off + (i + 1), none⟩ = some c := (r.cell h).2.2
/-- A list in a block of the call's own, its elements' own memory behind the block and apart. -/
theorem own_block {t : T} {g : Nat} {e : TypeId} {cs : List Value} {n cap : Nat} {xs : List t.den} (k : Whole w g e cs) (hgl : lo ≤ g) (hgh : g < hi) (hx : xs.length = n) (hn : n ≤ cap) (hc : cap ≤ maxLen) (hl : n * t.K ≤ cs.length) (L : List (List (Addr × IntKind) × List Addr)) (hL : L.length = n)
    (hel : ∀ (i : Nat) (x : t.den) (q : List (Addr × IntKind) × List Addr), xs[i]? = some x → L[i]? = some q → Ow w lo hi t none ((cs.drop (i * t.K)).take t.K) x q.1 q.2)
    (hb : ∀ q ∈ L, (∀ z ∈ q.1, z.1.block ≠ g) ∧ ∀ z ∈ q.2, z.block ≠ g) (hW : ((L.map Prod.fst).flatten.map Prod.fst).Nodup) (hH : ∀ z ∈ (L.map Prod.snd).flatten, z ∉ (L.map Prod.fst).flatten.map Prod.fst) :
    Own w lo hi (.l t) [.slice (some ⟨g, 0, none⟩) n cap] xs := by
  have hmul : ∀ i, i < n → i * t.K + t.K ≤ n * t.K := fun i hi => by
    have := Nat.mul_le_mul_right t.K (show i + 1 ≤ n from hi)
    rw [Nat.succ_mul] at this; exact this
  have hsl : ∀ i, i < n → ((cs.drop (i * t.K)).take t.K).length = t.K := fun i hi => by
    have := hmul i hi
    rw [List.length_take, List.length_drop]; omega
  obtain ⟨wss, hss, o, l1, l2, hp⟩ := Ow.list (w := w) (lo := lo) (hi := hi) (t := t) (ad := some ⟨g, 0, none⟩) hx hn hc (fun e => by cases e) (P := fun j w1 h1 => ∃ q, L[j]? = some q ∧ w1.Perm (q.1 ++ pw t ((⟨g, 0, none⟩ : Addr).add (j * t.K))) ∧ h1.Perm (q.2 ++ ph t ((⟨g, 0, none⟩ : Addr).add (j * t.K)))) fun j x hj => by
    have hjn := (List.getElem?_eq_some_iff.1 hj).1
    have hq := List.getElem?_eq_getElem (l := L) (i := j) (by omega)
    have ho := hel j x _ hj hq
    have hm := hmul j (by omega)
    obtain ⟨w1, h1, o, p1, p2⟩ := ho.place ((⟨g, 0, none⟩ : Addr).add (j * t.K)) (fun i c hi => by
      have hil := (List.getElem?_eq_some_iff.1 hi).1
      rw [hsl j (by omega)] at hil
      rw [List.getElem?_take, if_pos hil, List.getElem?_drop] at hi
      rw [add_add, Addr.add_lit, Nat.zero_add]
      exact k.cell hi) (fun i _ => by rw [add_add, Addr.add_lit]; exact k.frozen _) (by rw [add_block]; exact hgl) (by rw [add_block]; exact hgh)
    exact ⟨_, _, w1, h1, rfl, o, _, hq, p1, p2⟩
  -- where they lie
  have hpl : ∀ j z, z ∈ (pw t ((⟨g, 0, none⟩ : Addr).add (j * t.K))).map Prod.fst ∨ z ∈ ph t ((⟨g, 0, none⟩ : Addr).add (j * t.K)) → ∃ i, i < t.K ∧ z = (⟨g, 0, none⟩ : Addr).add (j * t.K + i) := fun j z hz => by
    obtain ⟨h1, h2⟩ := place_in t ((⟨g, 0, none⟩ : Addr).add (j * t.K))
    rcases hz with hz | hz
    · obtain ⟨q, hq, rfl⟩ := List.mem_map.1 hz
      obtain ⟨i, hi, e⟩ := h1 q hq
      exact ⟨i, hi, by rw [e, add_add]⟩
    · obtain ⟨i, hi, e⟩ := h2 z hz
      exact ⟨i, hi, by rw [e, add_add]⟩
  have hpg : ∀ j z, z ∈ (pw t ((⟨g, 0, none⟩ : Addr).add (j * t.K))).map Prod.fst ∨ z ∈ ph t ((⟨g, 0, none⟩ : Addr).add (j * t.K)) → z.block = g := fun j z hz => by
    obtain ⟨i, _, rfl⟩ := hpl j z hz
    rw [add_block]
  have hpi : ∀ i j z, z ∈ (pw t ((⟨g, 0, none⟩ : Addr).add (i * t.K))).map Prod.fst ∨ z ∈ ph t ((⟨g, 0, none⟩ : Addr).add (i * t.K)) → z ∈ (pw t ((⟨g, 0, none⟩ : Addr).add (j * t.K))).map Prod.fst ∨ z ∈ ph t ((⟨g, 0, none⟩ : Addr).add (j * t.K)) → i = j := fun i j z h1 h2 => by
    obtain ⟨a, ha, e1⟩ := hpl i z h1
    obtain ⟨b, hb, e2⟩ := hpl j z h2
    have := add_inj (e1.symm.trans e2)
    rcases Nat.lt_trichotomy i j with h | h | h
    · have := Nat.mul_le_mul_right t.K (show i + 1 ≤ j from h)
      rw [Nat.succ_mul] at this; omega
    · exact h
    · have := Nat.mul_le_mul_right t.K (show j + 1 ≤ i from h)
      rw [Nat.succ_mul] at this; omega
  have hLi : ∀ {i : Nat} {q : List (Addr × IntKind) × List Addr}, L[i]? = some q → (L.map Prod.fst)[i]? = some q.1 ∧ (L.map Prod.snd)[i]? = some q.2 := fun h => by simp [h]
  have hget : ∀ j (w1 : List (Addr × IntKind)), wss[j]? = some w1 → ∃ q h1, L[j]? = some q ∧ hss[j]? = some h1 ∧ w1.Perm (q.1 ++ pw t ((⟨g, 0, none⟩ : Addr).add (j * t.K))) ∧ h1.Perm (q.2 ++ ph t ((⟨g, 0, none⟩ : Addr).add (j * t.K))) := fun j w1 hj => by
    have hjn := (List.getElem?_eq_some_iff.1 hj).1
    have hh := List.getElem?_eq_getElem (l := hss) (i := j) (by omega)
    obtain ⟨q, hq, p1, p2⟩ := hp j w1 _ hj hh
    exact ⟨q, _, hq, hh, p1, p2⟩
  have hmem : ∀ j (w1 : List (Addr × IntKind)) z, wss[j]? = some w1 → z ∈ w1.map Prod.fst → (∃ q, L[j]? = some q ∧ z ∈ q.1.map Prod.fst ∧ z.block ≠ g) ∨ z ∈ (pw t ((⟨g, 0, none⟩ : Addr).add (j * t.K))).map Prod.fst := fun j w1 z hj hz => by
    obtain ⟨q, _, hq, _, p1, _⟩ := hget j w1 hj
    have := (p1.map Prod.fst).mem_iff.1 hz
    rw [List.map_append, List.mem_append] at this
    refine this.imp (fun h => ⟨q, hq, h, ?_⟩) id
    obtain ⟨y, hy, rfl⟩ := List.mem_map.1 h
    exact (hb q (List.mem_of_getElem? hq)).1 y hy
  have hflat : ∀ {j : Nat} {q : List (Addr × IntKind) × List Addr} {z : Addr}, L[j]? = some q → z ∈ q.1.map Prod.fst → z ∈ (L.map Prod.fst).flatten.map Prod.fst := fun hq hz => by
    obtain ⟨y, hy, rfl⟩ := List.mem_map.1 hz
    exact List.mem_map.2 ⟨y, List.mem_flatten.2 ⟨_, List.mem_of_getElem? (hLi hq).1, hy⟩, rfl⟩
  rw [List.map_flatten] at hW
  unfold List.Nodup at hW
  rw [List.pairwise_flatten] at hW
  obtain ⟨hW1, hW2⟩ := hW
  rw [List.map_map, List.pairwise_map, List.pairwise_iff_getElem] at hW2
  refine ⟨wss.flatten, hss.flatten, o, flat_nodup (fun j w1 hj => ?_) (fun i j w1 w2 hij hi hj z hz hz2 => ?_), fun z hz hz2 => ?_⟩
  · obtain ⟨q, _, hq, _, p1, _⟩ := hget j w1 hj
    rw [(p1.map Prod.fst).nodup_iff, List.map_append, List.nodup_append]
    have hn1 := place_nodup t ((⟨g, 0, none⟩ : Addr).add (j * t.K)) (add_spot rfl _)
    rw [List.nodup_append] at hn1
    refine ⟨hW1 _ (by rw [List.map_map]; exact List.mem_map.2 ⟨q, List.mem_of_getElem? hq, rfl⟩), hn1.1, fun x hx y hy e => ?_⟩
    subst e
    obtain ⟨z, hz, rfl⟩ := List.mem_map.1 hx
    exact (hb q (List.mem_of_getElem? hq)).1 z hz (hpg j _ (.inl hy))
  · rcases hmem i w1 z hi hz with ⟨q, hq, h1, h2⟩ | h1 <;> rcases hmem j w2 z hj hz2 with ⟨q', hq', h1', h2'⟩ | h1'
    · have a1 := (List.getElem?_eq_some_iff.1 hq)
      have a2 := (List.getElem?_eq_some_iff.1 hq')
      have := hW2 i j a1.1 a2.1 hij z (by simp only [Function.comp]; rw [a1.2]; exact h1) z (by simp only [Function.comp]; rw [a2.2]; exact h1')
      exact this rfl
    · exact h2 (hpg j z (.inl h1'))
    · exact h2' (hpg i z (.inl h1))
    · have := hpi i j z (.inl h1) (.inl h1'); omega
  · obtain ⟨y, hy, rfl⟩ := List.mem_map.1 hz2
    obtain ⟨w1, hw1, hy⟩ := List.mem_flatten.1 hy
    obtain ⟨i, hi⟩ := List.mem_iff_getElem?.1 hw1
    obtain ⟨h1, hh1, hz⟩ := List.mem_flatten.1 hz
    obtain ⟨j, hj⟩ := List.mem_iff_getElem?.1 hh1
    have hjn := (List.getElem?_eq_some_iff.1 hj).1
    obtain ⟨q, h1', hq, hj', _, p2⟩ := hget j _ (List.getElem?_eq_getElem (by omega))
    obtain rfl := Option.some.inj (hj.symm.trans hj')
    have hz := p2.mem_iff.1 hz
    rcases List.mem_append.1 hz with hz | hz <;> rcases hmem i w1 y.1 hi (List.mem_map.2 ⟨y, hy, rfl⟩) with ⟨q', hq', h3, h4⟩ | h3
    · exact hH y.1 (List.mem_flatten.2 ⟨q.2, List.mem_of_getElem? (hLi hq).2, hz⟩) (hflat hq' h3)
    · exact (hb q (List.mem_of_getElem? hq)).2 y.1 hz (hpg i _ (.inl h3))
    · exact h4 (hpg j _ (.inr hz))
    · obtain rfl := hpi i j y.1 (.inl h3) (.inr hz)
      have hn1 := place_nodup t ((⟨g, 0, none⟩ : Addr).add (i * t.K)) (add_spot rfl _)
      rw [List.nodup_append] at hn1
      exact hn1.2.2 _ h3 _ hz rfl
end
/-- 'make([]T, n)' of elements of several cells, as the walk meets it. -/
theorem wpList_mkW {K : Nat} {P : Program} {w : World} {ops : Array Oper} {rest : List Oper} {o : Oper} {a : Act} {Q : Exit → Act → World → Prop} {e : TypeId} {n : Nat} {t : TypeId} (ht : P.underlying t = some (.slice e)) {z : Value} {bytes : Nat}
    (hinfo : (P.info? e).map (fun i => (i.zero, i.size, i.bytes)) = some (some z, K, bytes)) (h63 : n ≤ maxLen) (hby : bytes * n ≤ 281474976710656)
    (hg : o.guard = none) (p q : Operand) (hop : o.op = Op.makeSlice t p q) {kl kc : IntKind} (hp : a.eval p = .int kl (n : Int)) (hq : a.eval q = .int kc (n : Int))
    (hK : ∀ w' cs, Whole w' w.heap.size e cs → cs.length = n * K → Below w.heap.size w w' → w.heap.size < w'.heap.size → wpList P ops Q rest (a.put o.dst (.slice (some ⟨w.heap.size, 0, none⟩) n n)) w') : wpList P ops Q (o :: rest) a w := by
  obtain ⟨i, hi, hz, hs, hb⟩ := info_parts hinfo
  refine wpList_make_full w hg p q t hop w.heap.size e i z K ht hi hz hs kl kc n n n hp hq rfl rfl (by rw [hb]; exact hby) h63 (Nat.le_refl _) fun w' ho hgr => ?_
  rcases ho.2 with ⟨h, _⟩ | ⟨g, c, cur, h, _, hgh, _, _, hcs, htk⟩
  · cases h
  · obtain ⟨h9, _, rfl⟩ := Value.slice.inj h
    obtain rfl := (Addr.mk.inj (Option.some.inj h9)).1
    exact hK w' cur.toList ⟨by simpa using hgh⟩ (by simpa using hcs) ⟨hgr.os, hgr.tape, hgr.output, hgr.size, fun k hk => hgr.block k hk (by simp)⟩ (Array.getElem?_eq_some_iff.1 hgh).1
/-- A list that is filled, element by element, in a block of the call's own. -/
def Filled (w : World) (g : Nat) (e : TypeId) (t : T) (n : Nat) (xs : List t.den) (j : Nat) : Prop :=
  ∃ (cs : List Value) (L : List (List (Addr × IntKind) × List Addr)), Whole w g e cs ∧ cs.length = n * t.K ∧ L.length = j ∧ xs.length = n ∧
    (∀ (i : Nat) (x : t.den) (q : List (Addr × IntKind) × List Addr), xs[i]? = some x → L[i]? = some q → Ow w (g + 1) w.heap.size t none ((cs.drop (i * t.K)).take t.K) x q.1 q.2) ∧
    ((L.map Prod.fst).flatten.map Prod.fst).Nodup ∧ ∀ z ∈ (L.map Prod.snd).flatten, z ∉ (L.map Prod.fst).flatten.map Prod.fst
section
variable {w w2 : World} {g n j lo : Nat} {e : TypeId} {t : T} {xs : List t.den} {x : t.den} {ds : List Value}
theorem Filled.start {cs : List Value} (k : Whole w g e cs) (hl : cs.length = n * t.K) (hx : xs.length = n) : Filled w g e t n xs 0 :=
  ⟨cs, [], k, hl, rfl, hx, fun i x q _ hq => by simp at hq, by simp, by simp⟩
theorem Filled.cell (f : Filled w g e t n xs j) {i : Nat} (hi : i < n * t.K) : ∃ c, w.cell? ⟨g, i, none⟩ = some c ∧ w.frozen? ⟨g, i, none⟩ = false := by
  obtain ⟨cs, L, k, hl, _⟩ := f
  exact ⟨cs[i], k.cell (List.getElem?_eq_getElem (by omega)), k.frozen i⟩
theorem Filled.step (f : Filled w g e t n xs j) (hj : j < n) (hx : xs[j]? = some x) (b : Below w.heap.size w w2) (o : Own w2 w.heap.size w2.heap.size t ds x) : Filled (w2.setCells g (j * t.K) ds) g e t n xs (j + 1) := by
  obtain ⟨cs, L, k, hl, hL, hxn, hel, hW, hH⟩ := f
  have hgl := k.lt
  have hds : ds.length = t.K := o.rd.len
  have hz := b.size
  obtain ⟨ws, hs, o, hn, hh⟩ := o
  have hjk : j * t.K + t.K ≤ n * t.K := by
    have := Nat.mul_le_mul_right t.K (show j + 1 ≤ n from hj)
    rw [Nat.succ_mul] at this; exact this
  obtain ⟨k2, m2⟩ := (k.below b hgl).setCells (j * t.K) (vs := ds) (by omega)
  have hz2 := m2.size
  have hin : ∀ q ∈ L, (∀ z ∈ q.1, z.1.block < w.heap.size) ∧ ∀ z ∈ q.2, z.block < w.heap.size := fun q hq => by
    obtain ⟨i, hi⟩ := List.mem_iff_getElem?.1 hq
    have hil := (List.getElem?_eq_some_iff.1 hi).1
    obtain ⟨h1, h2⟩ := (hel i _ q (List.getElem?_eq_getElem (by omega)) hi).inside
    exact ⟨fun z hz => (h1 z hz).2.1, fun z hz => (h2 z hz).2.1⟩
  have hnew := o.inside
  have hWm : ∀ z ∈ (L.map Prod.fst).flatten.map Prod.fst, z.block < w.heap.size := fun z hz => by
    obtain ⟨y, hy, rfl⟩ := List.mem_map.1 hz
    obtain ⟨l, hl, hy⟩ := List.mem_flatten.1 hy
    obtain ⟨q, hq, rfl⟩ := List.mem_map.1 hl
    exact (hin q hq).1 y hy
  have hHm : ∀ z ∈ (L.map Prod.snd).flatten, z.block < w.heap.size := fun z hz => by
    obtain ⟨l, hl, hy⟩ := List.mem_flatten.1 hz
    obtain ⟨q, hq, rfl⟩ := List.mem_map.1 hl
    exact (hin q hq).2 z hy
  have hwn : ∀ z ∈ ws.map Prod.fst, w.heap.size ≤ z.block := fun z hz => by
    obtain ⟨y, hy, rfl⟩ := List.mem_map.1 hz
    exact (hnew.1 y hy).1
  refine ⟨_, L ++ [(ws, hs)], k2, ?_, by simp [hL], hxn, fun i y q hy hq => ?_, ?_, fun z hz => ?_⟩
  · simp [hds]; omega
  · by_cases hi : i < j
    · rw [List.getElem?_append_left (by omega)] at hq
      have h1 := ((hel i y q hy hq).below b (.inl (Nat.le_refl _))).mv m2 (.inr (Nat.le_refl _))
      have hik : i * t.K + t.K ≤ j * t.K := by
        have := Nat.mul_le_mul_right t.K (show i + 1 ≤ j from hi)
        rw [Nat.succ_mul] at this; exact this
      have e1 : (((cs.take (j * t.K) ++ ds ++ cs.drop (j * t.K + ds.length)).drop (i * t.K)).take t.K) = (cs.drop (i * t.K)).take t.K := by
        apply List.ext_getElem?
        intro a
        rw [List.getElem?_take, List.getElem?_take, List.getElem?_drop, List.getElem?_drop]
        split
        · rw [List.append_assoc, List.getElem?_append_left (by rw [List.length_take]; omega), List.getElem?_take, if_pos (by omega)]
        · rfl
      rw [e1]
      exact h1.mono (Nat.le_refl _) (by omega)
    · have hq2 := (List.getElem?_eq_some_iff.1 hq).1
      rw [List.length_append, List.length_singleton, hL] at hq2
      obtain rfl : i = j := by omega
      obtain rfl := Option.some.inj (hx.symm.trans hy)
      rw [List.getElem?_append_right (by omega), hL, Nat.sub_self] at hq
      obtain rfl := Option.some.inj hq
      have e1 : (((cs.take (i * t.K) ++ ds ++ cs.drop (i * t.K + ds.length)).drop (i * t.K)).take t.K) = ds := by
        have hlt : (cs.take (i * t.K)).length = i * t.K := by rw [List.length_take]; omega
        rw [List.append_assoc, List.drop_append_of_le_length (by omega), List.drop_eq_nil_of_le (by omega), List.nil_append, ← hds, List.take_append_of_le_length (Nat.le_refl _), List.take_length]
      rw [e1]
      exact (o.mv m2 (.inr (by omega))).mono (by omega) hz2
  · rw [List.map_append, List.flatten_append, List.map_append, List.nodup_append]
    refine ⟨hW, by simpa using hn, fun a ha c hc e => ?_⟩
    subst e
    have h1 := hWm a ha
    have h2 := hwn a (by simpa using hc)
    omega
  · rw [List.map_append, List.flatten_append, List.mem_append] at hz
    rw [List.map_append, List.flatten_append, List.map_append, List.mem_append, not_or]
    rcases hz with hz | hz
    · exact ⟨hH z hz, fun hc => by have h1 := hHm z hz; have h2 := hwn z (by simpa using hc); omega⟩
    · have hz : z ∈ hs := by simpa using hz
      exact ⟨fun hc => by have h1 := hWm z hc; have h2 := (hnew.2 z hz).1; omega, by simpa using hh z hz⟩
theorem Filled.done (f : Filled w g e t n xs n) (hn : n ≤ maxLen) (hg : lo ≤ g) : Own w lo w.heap.size (.l t) [.slice (some ⟨g, 0, none⟩) n n] xs := by
  obtain ⟨cs, L, k, hl, hL, hxn, hel, hW, hH⟩ := f
  have hgl := k.lt
  refine own_block k hg hgl hxn (Nat.le_refl _) hn (by omega) L hL (fun i x q hx hq => (hel i x q hx hq).mono (by omega) (Nat.le_refl _)) (fun q hq => ?_) hW hH
  obtain ⟨i, hi⟩ := List.mem_iff_getElem?.1 hq
  have hil := (List.getElem?_eq_some_iff.1 hi).1
  obtain ⟨h1, h2⟩ := (hel i _ q (List.getElem?_eq_getElem (by omega)) hi).inside
  exact ⟨fun z hz => by have := (h1 z hz).1; omega, fun z hz => by have := (h2 z hz).1; omega⟩
end
end Go.Proofs.YtkhfkccbnhjmjaaDoor.Deep
namespace Go.Proofs.YtkhfkccbnhjmjaaDoor.Deep
open Go.ChangeShapes Go.WideShapes Go.ChangeAt Go.RowKit
open Go.Proofs.YtkhfkccbnhjmjaaDoor.Seq Go.Proofs.YtkhfkccbnhjmjaaDoor.Help Go.Proofs.YtkhfkccbnhjmjaaDoor.Shape

/-- What is left of a measure. -/
def LeftD (s : Nat) (m : Int) (w : World) (e : Ending) (w' : World) : Prop := ∃ r : Int, e = .returned (.int .i64 r) ∧ (r = m - s ∨ r = -1) ∧ -1 ≤ r ∧ Below w.heap.size w w'
theorem hs_nums {w : World} {lo hi : Nat} {k : IntKind} {cs : List Value} {xs : List Int} {ws : List (Addr × IntKind)} {hs : List Addr} (o : Ow w lo hi (.l (.i k)) none cs xs ws hs) : hs = [] := by
  obtain ⟨ad, n, cap, h1, h2, h3, h4, h5, _, wss, hss, l1, l2, e1, e2, h7⟩ := o
  rw [e2]
  show hss.flatten = []
  rw [List.flatten_eq_nil_iff]
  intro q hq
  obtain ⟨j, hj⟩ := List.mem_iff_getElem?.1 hq
  have hjn := (List.getElem?_eq_some_iff.1 hj).1
  obtain ⟨a, es, w1, h1, _, _, a2, _, _, _, e, _⟩ := h7 j xs[j] (List.getElem?_eq_getElem (by omega))
  obtain rfl := Option.some.inj (hj.symm.trans a2)
  exact e
theorem sum_none {α : Type} : ∀ xs : List α, (xs.map fun _ => 0).sum = 0
  | [] => rfl
  | _ :: xs => by rw [List.map_cons, List.sum_cons, sum_none xs]
/-! the shapes of before -/
theorem Cn_BS (b : Bool) (xs : List Int) : Cn tBs b xs = xs.length := by
  show (xs.map fun _ => 1).sum = xs.length
  induction xs with
  | nil => rfl
  | cons _ xs ih => rw [List.map_cons, List.sum_cons, ih, List.length_cons]; omega
theorem St_BS (b : Bool) (m : Int) (xs : List Int) : St tBs b m xs = stamps .u8 m xs.length := by
  apply List.ext_getElem?
  intro j
  show (stL (fun s _ => stamp .u8 s) (fun _ => 1) m xs)[j]? = _
  rw [stL_get]
  by_cases hj : j < xs.length
  · rw [List.getElem?_eq_getElem hj, stamps_get hj, Option.map_some]
    congr 2
    have := Cn_BS true (xs.take j)
    have e : ((xs.take j).map fun _ => 1).sum = (xs.take j).length := this
    rw [e, List.length_take]; omega
  · rw [List.getElem?_eq_none (by omega), List.getElem?_eq_none (by rw [stamps_len]; omega)]; rfl
/-- A row of numbers in one block. -/
theorem row_own {w : World} {lo hi : Nat} {k : IntKind} {e : TypeId} {ad : Option Addr} {n cap : Nat} {xs : List Int} (r : Row w lo hi k e ad n cap xs) : Own w lo hi (.l (.i k)) [.slice ad n cap] xs := by
  rcases Nat.eq_zero_or_pos n with h0 | h0
  · subst h0
    obtain rfl : xs = [] := List.eq_nil_of_length_eq_zero r.len
    exact ⟨[], [], ⟨ad, 0, cap, rfl, rfl, r.le, r.big, r.sl.nil, fun a e => (by cases e), [], [], rfl, rfl, rfl, rfl, fun j x hx => by simp at hx⟩, List.nodup_nil, by simp⟩
  · obtain ⟨g, rfl, b1, b2⟩ := r.pos h0
    obtain ⟨wss, hss, o, l1, l2, hp⟩ := Ow.list (w := w) (lo := lo) (hi := hi) (t := .i k) (ad := some ⟨g, 0, none⟩) r.len r.le r.big (fun e => by cases e) (P := fun j w1 h1 => w1 = [((⟨g, 0, none⟩ : Addr).add j, k)] ∧ h1 = []) (fun j x hx => by
      refine ⟨_, [.int k x], [((⟨g, 0, none⟩ : Addr).add j, k)], [], rfl, ⟨rfl, r.fits x (List.mem_of_getElem? hx), ?_, rfl, fun a e => ?_⟩, rfl, rfl⟩
      · rw [show j * T.K (.i k) = j from Nat.mul_one j]; rfl
      · obtain rfl := Option.some.inj e
        have hj : j < n := by have := r.len; have := (List.getElem?_eq_some_iff.1 hx).1; omega
        obtain ⟨_, _, _, _, hf⟩ := r.there hj
        rw [show j * T.K (.i k) = j from Nat.mul_one j, Addr.add_lit, Nat.zero_add]
        exact ⟨b1, b2, r.cell hx, hf⟩)
    have hw : ∀ (j : Nat) (w1 : List (Addr × IntKind)), wss[j]? = some w1 → w1 = [((⟨g, 0, none⟩ : Addr).add j, k)] := fun j w1 hj => by
      have hjn := (List.getElem?_eq_some_iff.1 hj).1
      exact (hp j w1 _ hj (List.getElem?_eq_getElem (by omega))).1
    refine ⟨wss.flatten, hss.flatten, o, flat_nodup (fun j w1 hj => by rw [hw j w1 hj]; simp) fun i j w1 w2 hij hi hj z hz hz2 => ?_, fun z hz => ?_⟩
    · rw [hw i w1 hi] at hz
      rw [hw j w2 hj] at hz2
      simp at hz hz2
      have := add_inj (hz.symm.trans hz2)
      omega
    · rw [hs_nums o] at hz
      simp at hz

theorem Sz_IS (xs : List Int) : Sz tIs xs = xs.length := by
  show xs.length + (xs.map fun _ => 0).sum = xs.length
  rw [sum_none]; rfl
theorem Sz_ISS (xss : List (List Int)) : Sz tIss xss = xss.length + sumLen xss := by
  show xss.length + (xss.map (Sz tIs)).sum = _
  rw [show Sz tIs = List.length from funext Sz_IS]; rfl
theorem small_of {xss : List (List Int)} (h : Sz tIss xss ≤ 1048576) : Small xss := by
  rw [Sz_ISS] at h
  refine ⟨by omega, fun xs hx => ?_⟩
  obtain ⟨j, hj⟩ := List.mem_iff_getElem?.1 hx
  have h1 := sumLen_take hj
  have h2 := sumLen_le xss (j + 1)
  omega
theorem Cn_IS (b : Bool) (xs : List Int) : Cn tIs b xs = xs.length := by
  show (xs.map fun _ => 1).sum = xs.length
  induction xs with
  | nil => rfl
  | cons _ xs ih => rw [List.map_cons, List.sum_cons, ih, List.length_cons]; omega
theorem Cn_ISS (b : Bool) (xss : List (List Int)) : Cn tIss b xss = sumLen xss := by
  show (xss.map (Cn tIs true)).sum = _
  rw [show Cn tIs true = List.length from funext (Cn_IS true)]; rfl
theorem St_IS (b : Bool) (m : Int) (xs : List Int) : St tIs b m xs = stamps .i64 m xs.length := by
  apply List.ext_getElem?
  intro j
  show (stL (fun s _ => stamp .i64 s) (fun _ => 1) m xs)[j]? = _
  rw [stL_get]
  by_cases hj : j < xs.length
  · rw [List.getElem?_eq_getElem hj, stamps_get hj, Option.map_some]
    congr 2
    have := Cn_IS true (xs.take j)
    have e : ((xs.take j).map fun _ => 1).sum = (xs.take j).length := this
    rw [e, List.length_take]; omega
  · rw [List.getElem?_eq_none (by omega), List.getElem?_eq_none (by rw [stamps_len]; omega)]; rfl
theorem St_ISS (b : Bool) (m : Int) (xss : List (List Int)) : St tIss b m xss = stampss m xss := by
  apply List.ext_getElem?
  intro j
  show (stL (St tIs true) (Cn tIs true) m xss)[j]? = _
  rw [stL_get]
  cases h : xss[j]? with
  | none => rw [List.getElem?_eq_none (by rw [stampss_len]; exact List.getElem?_eq_none_iff.1 h)]; rfl
  | some xs =>
    rw [stampss_get h, Option.map_some, St_IS]
    congr 3
    exact congrArg _ (Cn_ISS true (xss.take j))
theorem ISI_rd {w : World} {lo hi : Nat} {v : Value} {xs : List Int} (s : IntSI w lo hi v xs) : Rd w lo hi tIs none [v] xs := by obtain ⟨_, _, _, rfl, s⟩ := s; exact sl_rd s
theorem rd_ISI {w : World} {lo hi : Nat} {v : Value} {xs : List Int} {pl : Option Addr} (r : Rd w lo hi tIs pl [v] xs) : IntSI w lo hi v xs := by
  obtain ⟨ad, n, cap, e, s⟩ := rd_sl r
  simp at e
  exact ⟨ad, n, cap, e, s⟩
theorem bas_rd {w : World} {lo hi : Nat} {v : Value} {x : Bs} (s : BasisI w lo hi v x) : ∃ u, v = .agg #[.int .i64 x.1, u] ∧ Rd w lo hi tBas none [.int .i64 x.1, u] x := by
  obtain ⟨u, rfl, hw, s⟩ := s
  exact ⟨u, rfl, (ISS_rd s).num (fits_i64.2 hw)⟩
theorem rd_bas {w : World} {lo hi : Nat} {c0 c1 : Value} {x : Bs} {pl : Option Addr} (r : Rd w lo hi tBas pl [c0, c1] x) : BasisI w lo hi (.agg #[c0, c1]) x := by
  obtain ⟨c, cs', e, r0, r1⟩ := r.unp rfl
  obtain ⟨rfl, rfl⟩ := List.cons.inj e
  obtain ⟨e0, hf⟩ := r0.uni
  simp at e0
  subst e0
  exact ⟨c1, rfl, fits_i64.1 hf, rd_ISS r1⟩
theorem bas_own {w : World} {lo hi : Nat} {v : Value} {x : Bs} (s : BasisO w lo hi v x) : ∃ u, v = .agg #[.int .i64 x.1, u] ∧ Own w lo hi tBas [.int .i64 x.1, u] x := by
  obtain ⟨u, rfl, hw, s⟩ := s
  exact ⟨u, rfl, (ISSO_own s).num (fits_i64.2 hw)⟩
theorem eqGeneration_d (w : World) {lo hi l2 h2 : Nat} {c0 c1 d0 d1 : Value} {x : Bs} {pl pl2 : Option Addr} (r : Rd w lo hi tBas pl [c0, c1] x) (r2 : Rd w l2 h2 tBas pl2 [d0, d1] x) (hz : Sz tBas x ≤ 1048576) :
    Calls Tryd.prog 30 #[.agg #[c0, c1], .agg #[d0, d1]] w (Says (.bool true) w) :=
  eqGeneration (rd_bas r) (rd_bas r2) (small_of (by have e : Sz tBas x = 0 + Sz tIss x.2 := rfl; omega)) rfl
theorem toGeneration_d (w : World) {lo hi : Nat} {c0 c1 : Value} {x : Bs} {pl : Option Addr} (r : Rd w lo hi tBas pl [c0, c1] x) (hz : Sz tBas x ≤ 1048576) :
    Calls Tryd.prog 28 #[.agg #[c0, c1]] w fun e w' => ∃ d0 d1, e = .returned (.agg #[d0, d1]) ∧ Own w' w.heap.size w'.heap.size tBas [d0, d1] x ∧ Below w.heap.size w w' := by
  refine (toGeneration (rd_bas r) (small_of (by have e : Sz tBas x = 0 + Sz tIss x.2 := rfl; omega))).mono ?_
  rintro e w' ⟨u, rfl, o, b⟩
  obtain ⟨u2, rfl, o2⟩ := bas_own o
  exact ⟨_, _, rfl, o2, b⟩
theorem szIntS_d (w : World) {lo hi : Nat} {v : Value} {xs : List Int} (r : Rd w lo hi tIs none [v] xs) (m : Int) (hm0 : 0 ≤ m) (hm1 : m ≤ 1048576) : Calls Tryd.prog 64 #[v, .int .i64 m] w (LeftD (Sz tIs xs) m w) := by
  obtain ⟨ad, n, cap, e, hl, h1, h2, _⟩ := r.slice
  simp at e
  subst e
  unfold maxLen at h2
  have hs : Sz tIs xs = n := by
    show xs.length + (xs.map fun _ => 0).sum = n
    have := sum_none xs
    omega
  rw [hs]
  clear r hl hs
  by_cases h : (n : Int) ≤ m
  · go_enter Tryd.func64, Tryd.ntmps64
    go_wp2
    go_ret
    exact ⟨_, rfl, .inl rfl, by omega, Below.refl _ _⟩
  · go_enter Tryd.func64, Tryd.ntmps64
    go_wp2
    go_ret
    exact ⟨_, rfl, .inr rfl, by omega, Below.refl _ _⟩
end Go.Proofs.YtkhfkccbnhjmjaaDoor.Deep
namespace Go.Proofs.YtkhfkccbnhjmjaaDoor.Shape
open Go.ChangeShapes Go.WideShapes Go.ChangeAt Go.RowKit
open Go.Proofs.YtkhfkccbnhjmjaaDoor.Seq Go.Proofs.YtkhfkccbnhjmjaaDoor.Help Go.Proofs.YtkhfkccbnhjmjaaDoor.Deep

def ByteSI (w : World) (l h : Nat) (v : Value) (xs : List Int) : Prop := ∃ ad n cap, v = .slice ad n cap ∧ Sl w l h .u8 ad n cap xs
def ByteSO (w : World) (l h : Nat) (v : Value) (xs : List Int) : Prop := Own w l h tBs [v] xs
def ByteSF (xs : List Int) : Prop := xs.length ≤ 1048576
def ByteSC (xs : List Int) : Nat := xs.length
def ByteST (m : Int) (xs : List Int) : List Int := stamps .u8 m xs.length
theorem ByteSC_le {xs : List Int} (h : ByteSF xs) : ByteSC xs ≤ 1099511627776 := by unfold ByteSF at h; unfold ByteSC; omega
section
variable {w w' : World} {l h l' h' B : Nat} {v : Value} {x : List Int}
theorem BSI_rd (s : ByteSI w l h v x) : Rd w l h tBs none [v] x := by obtain ⟨_, _, _, rfl, s⟩ := s; exact sl_rd s
theorem rd_BSI {pl : Option Addr} (r : Rd w l h tBs pl [v] x) : ByteSI w l h v x := by
  obtain ⟨ad, n, cap, e, s⟩ := rd_sl r
  simp at e
  exact ⟨ad, n, cap, e, s⟩
theorem ByteSO_is (s : ByteSO w l h v x) : ByteSI w l h v x := rd_BSI (Own.rd s)
theorem ByteSI_mv (s : ByteSI w l h v x) (m : Mv w w' l' h') (hd : h ≤ l' ∨ h' ≤ l) : ByteSI w' l h v x := by obtain ⟨_, _, _, rfl, s⟩ := s; exact ⟨_, _, _, rfl, s.mv m hd⟩
theorem ByteSI_below (s : ByteSI w l h v x) (m : Below B w w') (hB : h ≤ B ∨ w.heap.size ≤ B) : ByteSI w' l h v x := by obtain ⟨_, _, _, rfl, s⟩ := s; exact ⟨_, _, _, rfl, s.below m hB⟩
theorem ByteSO_mv (s : ByteSO w l h v x) (m : Mv w w' l' h') (hd : h ≤ l' ∨ h' ≤ l) : ByteSO w' l h v x := Own.mv s m hd
theorem ByteSO_below (s : ByteSO w l h v x) (m : Below B w w') (hB : h ≤ B ∨ w.heap.size ≤ B) : ByteSO w' l h v x := Own.below s m hB
end
section
variable {w : World} {l h l2 h2 : Nat} {v v2 : Value}
end
end Go.Proofs.YtkhfkccbnhjmjaaDoor.Shape
namespace Go.Proofs.YtkhfkccbnhjmjaaDoor.Deep
open Go.ChangeShapes Go.WideShapes Go.ChangeAt Go.RowKit
open Go.Proofs.YtkhfkccbnhjmjaaDoor.Seq Go.Proofs.YtkhfkccbnhjmjaaDoor.Help Go.Proofs.YtkhfkccbnhjmjaaDoor.Shape

/-- A block that holds these cells. -/
structure Bx (w : World) (b : Nat) (T : TypeId) (cs : List Value) : Prop where
  obj : w.heap[b]? = some (.cells cs.toArray T (0, 0))
section
variable {w w' : World} {b n l h : Nat} {T : TypeId} {cs : List Value}
theorem Bx.new (w : World) (cs : List Value) (T : TypeId) : Bx (w.alloc (.cells cs.toArray T)) w.heap.size T cs := ⟨heap_alloc_new w _⟩
theorem Bx.cell (k : Bx w b T cs) {i : Nat} {v : Value} (hv : cs[i]? = some v) : w.cell? ⟨b, i, none⟩ = some v := by simp [World.cell?, k.obj, hv]
theorem Bx.free (k : Bx w b T cs) (i : Nat) : w.frozen? ⟨b, i, none⟩ = false := by simp [World.frozen?, k.obj]
theorem Bx.lt (k : Bx w b T cs) : b < w.heap.size := (Array.getElem?_eq_some_iff.1 k.obj).1
theorem Bx.below (k : Bx w b T cs) (hb : Below n w w') (hn : b < n) : Bx w' b T cs := ⟨(hb.block b hn).trans k.obj⟩
theorem Bx.alloc (k : Bx w b T cs) (o : Obj) : Bx (w.alloc o) b T cs := ⟨(Below.heap_alloc _ _ _ k.lt).trans k.obj⟩
theorem Bx.other (k : Bx w b T cs) {p : Addr} (hn : b ≠ p.block) (u : Value) : Bx (w.setCell p u) b T cs := ⟨(Below.heap_setCell _ _ _ _ hn).trans k.obj⟩
theorem Bx.set (k : Bx w b T cs) (i : Nat) (u : Value) : Bx (w.setCell ⟨b, i, none⟩ u) b T (cs.set i u) := ⟨by rw [heap_setCell_same _ _ _ _ _ _ k.obj]; simp⟩
theorem Bx.drewN (k : Bx w b T cs) (q : Nat) : Bx (w.drewN q) b T cs := ⟨k.obj⟩
theorem Bx.drew (k : Bx w b T cs) : Bx w.drew b T cs := ⟨k.obj⟩
theorem Bx.mv (k : Bx w b T cs) (m : Mv w w' l h) (ho : b < l ∨ h ≤ b) : Bx w' b T cs := ⟨(m.block b k.lt (by omega)).trans k.obj⟩
end
section
variable {w : World} {lo hi a b c d : Nat} {s t : T} {cs1 cs2 : List Value} {x : s.den} {y : t.den} {k : IntKind}
theorem Own.int {z : Int} (hz : Fits k z) : Own w lo hi (.i k) [.int k z] z := ⟨[], [], ⟨rfl, hz, rfl, rfl, fun a e => by cases e⟩, List.nodup_nil, by simp⟩
/-- Two own values, each in an interval of its own. -/
theorem Own.pair (o1 : Own w a b s cs1 x) (o2 : Own w c d t cs2 y) (hd : b ≤ c) (h1 : lo ≤ a) (h2 : b ≤ hi) (h3 : lo ≤ c) (h4 : d ≤ hi) : Own w lo hi (.p s t) (cs1 ++ cs2) (x, y) := by
  obtain ⟨ws1, hs1, o1, n1, q1⟩ := o1
  obtain ⟨ws2, hs2, o2, n2, q2⟩ := o2
  have i1 := o1.inside
  have i2 := o2.inside
  have w1 : ∀ z ∈ ws1.map Prod.fst, a ≤ z.block ∧ z.block < b := fun z hz => by obtain ⟨p, hp, rfl⟩ := List.mem_map.1 hz; exact ⟨(i1.1 p hp).1, (i1.1 p hp).2.1⟩
  have w2 : ∀ z ∈ ws2.map Prod.fst, c ≤ z.block ∧ z.block < d := fun z hz => by obtain ⟨p, hp, rfl⟩ := List.mem_map.1 hz; exact ⟨(i2.1 p hp).1, (i2.1 p hp).2.1⟩
  refine ⟨ws1 ++ ws2, hs1 ++ hs2, ⟨cs1, cs2, ws1, ws2, hs1, hs2, rfl, rfl, rfl, o1.mono h1 h2, o2.mono h3 h4⟩, ?_, fun z hz hm => ?_⟩
  · rw [List.map_append, List.nodup_append]
    exact ⟨n1, n2, fun z hz z2 hz2 e => by subst e; have := w1 z hz; have := w2 z hz2; omega⟩
  · rw [List.map_append, List.mem_append] at hm
    rcases List.mem_append.1 hz with hz | hz <;> rcases hm with hm | hm
    · exact q1 z hz hm
    · have := i1.2 z hz; have := w2 z hm; omega
    · have := i2.2 z hz; have := w1 z hm; omega
    · exact q2 z hz hm
/-- Within what lies in the heap. -/
theorem Ow.lt {pl : Option Addr} {cs : List Value} {x : t.den} {ws : List (Addr × IntKind)} {hs : List Addr} (r : Ow w lo hi t pl cs x ws hs) : Ow w lo w.heap.size t pl cs x ws hs :=
  r.keep (fun _ _ a _ _ hc => ⟨a, World.block_lt_of_cell? _ _ hc, hc⟩) fun _ _ h => h
theorem stampW_far {ws : List (Addr × IntKind)} {m : Int} {p : Addr} (h : ∀ z ∈ ws, z.1.block ≠ p.block) : (stampW w ws m).cell? p = w.cell? p :=
  stampW_out ws w m p fun hm => by
    obtain ⟨z, hz, rfl⟩ := List.mem_map.1 hm
    exact h z hz rfl
end
section
variable {w : World} {lo hi l2 h2 : Nat} {v v2 : Value}
theorem toIntS_d (w : World) {lo hi : Nat} {v : Value} {x : List Int} (r : Rd w lo hi tIs none [v] x) (hz : Sz tIs x ≤ 1048576) :
    Calls Tryd.prog 66 #[v] w fun e w' => ∃ u, e = .returned u ∧ Own w' w.heap.size w'.heap.size tIs [u] x ∧ Below w.heap.size w w' := by
  refine (toIntS (rd_ISI r) (by rw [Sz_IS] at hz; exact hz)).mono ?_
  rintro e w' ⟨u, rfl, o, b⟩
  exact ⟨u, rfl, ISO_own o, b⟩
theorem eqIntS_d (w : World) {lo hi l2 h2 : Nat} {v v2 : Value} {x : List Int} (r : Rd w lo hi tIs none [v] x) (r2 : Rd w l2 h2 tIs none [v2] x) (hz : Sz tIs x ≤ 1048576) :
    Calls Tryd.prog 68 #[v, v2] w (Says (.bool true) w) := eqIntS (rd_ISI r) (rd_ISI r2) (by rw [Sz_IS] at hz; exact hz) rfl
theorem toIntSS_d (w : World) {lo hi : Nat} {v : Value} {x : List (List Int)} (r : Rd w lo hi tIss none [v] x) (hz : Sz tIss x ≤ 1048576) :
    Calls Tryd.prog 65 #[v] w fun e w' => ∃ u, e = .returned u ∧ Own w' w.heap.size w'.heap.size tIss [u] x ∧ Below w.heap.size w w' := by
  refine (toIntSS (rd_ISS r) (small_of hz)).mono ?_
  rintro e w' ⟨u, rfl, o, b⟩
  exact ⟨u, rfl, ISSO_own o, b⟩
theorem eqIntSS_d (w : World) {lo hi l2 h2 : Nat} {v v2 : Value} {x : List (List Int)} (r : Rd w lo hi tIss none [v] x) (r2 : Rd w l2 h2 tIss none [v2] x) (hz : Sz tIss x ≤ 1048576) :
    Calls Tryd.prog 67 #[v, v2] w (Says (.bool true) w) := eqIntSS (rd_ISS r) (rd_ISS r2) (small_of hz) rfl
end
end Go.Proofs.YtkhfkccbnhjmjaaDoor.Deep
namespace Go.Proofs.YtkhfkccbnhjmjaaDoor.Shape
open Go.RowKit
open Go.Proofs.YtkhfkccbnhjmjaaDoor.Seq Go.Proofs.YtkhfkccbnhjmjaaDoor.Help
section
variable {w : World} {l h : Nat} {v : Value} {g0 : Int} {g1 : List (List Int)}
theorem BasisI_cells (s : BasisI w l h v (g0, g1)) : ∃ (ad1 : Option Addr) (n1 cap1 : Nat), v = .agg #[.int .i64 g0, .slice ad1 n1 cap1] ∧ (-9223372036854775808 ≤ g0 ∧ g0 ≤ 9223372036854775807) ∧ BasisI w l h (.agg #[.int .i64 g0, .slice ad1 n1 cap1]) (g0, g1) := by
  obtain ⟨_, rfl, hw, ad, n, cap, rfl, s⟩ := s
  exact ⟨ad, n, cap, rfl, hw, _, rfl, hw, _, _, _, rfl, s⟩
theorem BasisO_cells (s : BasisO w l h v (g0, g1)) : ∃ (ad1 : Option Addr) (n1 cap1 : Nat), v = .agg #[.int .i64 g0, .slice ad1 n1 cap1] ∧ (-9223372036854775808 ≤ g0 ∧ g0 ≤ 9223372036854775807) ∧ BasisO w l h (.agg #[.int .i64 g0, .slice ad1 n1 cap1]) (g0, g1) := by
  obtain ⟨_, rfl, hw, ad, n, cap, us, rfl, s⟩ := s
  exact ⟨ad, n, cap, rfl, hw, _, rfl, hw, _, _, _, _, rfl, s⟩
theorem GenerationI_cells (s : GenerationI w l h v (g0, g1)) : ∃ (ad1 : Option Addr) (n1 cap1 : Nat), v = .agg #[.int .i64 g0, .slice ad1 n1 cap1] ∧ (-9223372036854775808 ≤ g0 ∧ g0 ≤ 9223372036854775807) ∧ GenerationI w l h (.agg #[.int .i64 g0, .slice ad1 n1 cap1]) (g0, g1) := BasisI_cells s
theorem GenerationO_cells (s : GenerationO w l h v (g0, g1)) : ∃ (ad1 : Option Addr) (n1 cap1 : Nat), v = .agg #[.int .i64 g0, .slice ad1 n1 cap1] ∧ (-9223372036854775808 ≤ g0 ∧ g0 ≤ 9223372036854775807) ∧ GenerationO w l h (.agg #[.int .i64 g0, .slice ad1 n1 cap1]) (g0, g1) := BasisO_cells s
end
end Go.Proofs.YtkhfkccbnhjmjaaDoor.Shape
namespace Go.Proofs.YtkhfkccbnhjmjaaDoor.Deep
open Go.ChangeShapes Go.WideShapes Go.ChangeAt Go.RowKit
open Go.Proofs.YtkhfkccbnhjmjaaDoor.Drawn Go.Proofs.YtkhfkccbnhjmjaaDoor.Seq Go.Proofs.YtkhfkccbnhjmjaaDoor.Help Go.Proofs.YtkhfkccbnhjmjaaDoor.Shape
abbrev tPkt : T := .p tI (.p tIs tIs)
set_option maxRecDepth 100000 in
theorem szCodedPacket_d (w : World) {lo hi : Nat} {c0 c1 c2 : Value} {x : (tPkt).den} {pl : Option Addr} (r : Rd w lo hi tPkt pl [c0, c1, c2] x) (m : Int) (hm0 : 0 ≤ m) (hm1 : m ≤ 1048576) :
    Calls Tryd.prog 27 #[.agg #[c0, c1, c2], .int .i64 m] w (LeftD (Sz tPkt x) m w) := by
  obtain ⟨d0, es0, ee0, ra0, r1⟩ := r.unp rfl
  obtain ⟨rfl, rfl⟩ := List.cons.inj ee0
  obtain ⟨d1, es1, ee1, ra1, r2⟩ := r1.unp rfl
  obtain ⟨rfl, rfl⟩ := List.cons.inj ee1
  obtain ⟨ec0, _⟩ := ra0.uni
  simp at ec0
  subst ec0
  obtain ⟨ad1, n1, cap1, ec1, _⟩ := ra1.slice
  simp at ec1
  subst ec1
  obtain ⟨ad2, n2, cap2, ec2, _⟩ := r2.slice
  simp at ec2
  subst ec2
  have hb := below_box w (.cells #[.int .i64 x.1, .slice ad1 n1 cap1, .slice ad2 n2 cap2] 53)
  have g0 : (w.alloc (.cells #[.int .i64 x.1, .slice ad1 n1 cap1, .slice ad2 n2 cap2] 53)).cell? ⟨w.heap.size, 0, none⟩ = some (.int .i64 x.1) := by simp
  have g1 : (w.alloc (.cells #[.int .i64 x.1, .slice ad1 n1 cap1, .slice ad2 n2 cap2] 53)).cell? ⟨w.heap.size, 1, none⟩ = some (.slice ad1 n1 cap1) := by simp
  have g2 : (w.alloc (.cells #[.int .i64 x.1, .slice ad1 n1 cap1, .slice ad2 n2 cap2] 53)).cell? ⟨w.heap.size, 2, none⟩ = some (.slice ad2 n2 cap2) := by simp
  have hE : Sz tPkt x = 0 + (Sz tIs x.2.1 + (Sz tIs x.2.2)) := rfl
  have hr1 := Lib.hid (fun w2 (h : Below w.heap.size w w2) => (ra1.below h (.inr (Nat.le_refl _))).free)
  have hr2 := Lib.hid (fun w2 (h : Below w.heap.size w w2) => (r2.below h (.inr (Nat.le_refl _))).free)
  have KS1 := Lib.hid (fun w2 (h : Below w.heap.size w w2) c (h0 : 0 ≤ c) (h1 : c ≤ 1048576) => szIntS_d w2 (hr1.out w2 h) c h0 h1)
  have KS2 := Lib.hid (fun w2 (h : Below w.heap.size w w2) c (h0 : 0 ≤ c) (h1 : c ≤ 1048576) => szIntS_d w2 (hr2.out w2 h) c h0 h1)
  generalize Sz tIs x.2.1 = s1 at *
  generalize Sz tIs x.2.2 = s2 at *
  rw [hE]
  have hz : (w.alloc (.cells #[.int .i64 x.1, .slice ad1 n1 cap1, .slice ad2 n2 cap2] 53)).heap.size = w.heap.size + 1 := by simp
  clear r r2 ra0 ra1 hE hr1 hr2
  go_enter Tryd.func27, Tryd.ntmps27
  have K1 := Lib.hid (KS1.out _ hb m (by omega) (by omega))
  go_wp2_with fail
  go_at_call 64
  generalize w.alloc (.cells #[.int .i64 x.1, .slice ad1 n1 cap1, .slice ad2 n2 cap2] 53) = D at *
  refine K1.out.mono ?_
  rintro e wz1 ⟨r1, rfl, hq1, hq11, bz1⟩
  have hb1 := hb.trans (bz1.mono hb.size)
  by_cases hneg1 : 0 ≤ r1
  case neg =>
    have HX := Lib.hid hb1
    clear hq1
    go_wp2
    go_ret
    exact ⟨-1, rfl, .inr rfl, by omega, HX.out⟩
  have g0 := (bz1.cell (World.block_lt_of_cell? _ _ g0)).trans g0
  have g1 := (bz1.cell (World.block_lt_of_cell? _ _ g1)).trans g1
  have g2 := (bz1.cell (World.block_lt_of_cell? _ _ g2)).trans g2
  have K2 := Lib.hid (KS2.out _ hb1 r1 (by omega) (by omega))
  go_wp2_with fail
  go_at_call 64
  refine K2.out.mono ?_
  rintro e wz2 ⟨r2, rfl, hq2, hq21, bz2⟩
  have hb2 := hb1.trans (bz2.mono hb1.size)
  by_cases hneg2 : 0 ≤ r2
  case neg =>
    have HX := Lib.hid hb2
    clear hq2
    go_wp2
    go_ret
    exact ⟨-1, rfl, .inr rfl, by omega, HX.out⟩
  have HX := Lib.hid hb2
  have hq : r2 = m - ((0 + (s1 + (s2)) : Nat) : Int) := by omega
  have HQ := Lib.hid hq
  clear hq hq1 hq2
  go_wp2
  go_ret
  exact ⟨_, rfl, .inl HQ.out, by omega, HX.out⟩
set_option maxRecDepth 100000 in
set_option maxHeartbeats 1600000 in
theorem toCodedPacket_d (w : World) {lo hi : Nat} {c0 c1 c2 : Value} {x : (tPkt).den} {pl : Option Addr} (r : Rd w lo hi tPkt pl [c0, c1, c2] x) (hz : Sz tPkt x ≤ 1048576) :
    Calls Tryd.prog 29 #[.agg #[c0, c1, c2]] w fun e w' => ∃ d0 d1 d2, e = .returned (.agg #[d0, d1, d2]) ∧ Own w' w.heap.size w'.heap.size tPkt [d0, d1, d2] x ∧ Below w.heap.size w w' := by
  obtain ⟨d0, es0, ee0, ra0, r1⟩ := r.unp rfl
  obtain ⟨rfl, rfl⟩ := List.cons.inj ee0
  obtain ⟨d1, es1, ee1, ra1, r2⟩ := r1.unp rfl
  obtain ⟨rfl, rfl⟩ := List.cons.inj ee1
  obtain ⟨ec0, fi0⟩ := ra0.uni
  simp at ec0
  subst ec0
  obtain ⟨ad1, n1, cap1, ec1, _⟩ := ra1.slice
  simp at ec1
  subst ec1
  obtain ⟨ad2, n2, cap2, ec2, _⟩ := r2.slice
  simp at ec2
  subst ec2
  have hz1 : Sz tIs x.2.1 ≤ 1048576 := by have e : Sz tPkt x = 0 + (Sz tIs x.2.1 + (Sz tIs x.2.2)) := rfl; omega
  have hz2 : Sz tIs x.2.2 ≤ 1048576 := by have e : Sz tPkt x = 0 + (Sz tIs x.2.1 + (Sz tIs x.2.2)) := rfl; omega
  have HT1 := Lib.hid (fun (w' : World) (hb : Below w.heap.size w w') => toIntS_d w' (ra1.below hb (.inr (Nat.le_refl _))).free hz1)
  have HT2 := Lib.hid (fun (w' : World) (hb : Below w.heap.size w w') => toIntS_d w' (r2.below hb (.inr (Nat.le_refl _))).free hz2)
  clear r ra0 ra1 r2 hz hz1 hz2
  have kA := Bx.new w [.int .i64 x.1, .slice ad1 n1 cap1, .slice ad2 n2 cap2] 53
  have ca0 := kA.cell (i := 0) rfl
  have ca1 := kA.cell (i := 1) rfl
  have ca2 := kA.cell (i := 2) rfl
  go_enter Tryd.func29, Tryd.ntmps29
  go_wp2_with fail
  go_at_call 66
  replace kA := (kA.alloc (.cells #[.int .i64 0, .slice none 0 0, .slice none 0 0] 31)).alloc (.cells #[.int .i64 x.1, .slice none 0 0, .slice none 0 0] 31)
  have kZ := (Bx.new (w.alloc (.cells #[.int .i64 x.1, .slice ad1 n1 cap1, .slice ad2 n2 cap2] 53)) [.int .i64 0, .slice none 0 0, .slice none 0 0] 31).alloc (.cells #[.int .i64 x.1, .slice none 0 0, .slice none 0 0] 31)
  have kO := Bx.new ((w.alloc (.cells #[.int .i64 x.1, .slice ad1 n1 cap1, .slice ad2 n2 cap2] 53)).alloc (.cells #[.int .i64 0, .slice none 0 0, .slice none 0 0] 31)) [.int .i64 x.1, .slice none 0 0, .slice none 0 0] 31
  rw [World.size_alloc] at kZ
  rw [World.size_alloc, World.size_alloc] at kO
  have hb0 : Below w.heap.size w (((w.alloc (.cells #[.int .i64 x.1, .slice ad1 n1 cap1, .slice ad2 n2 cap2] 53)).alloc (.cells #[.int .i64 0, .slice none 0 0, .slice none 0 0] 31)).alloc (.cells #[.int .i64 x.1, .slice none 0 0, .slice none 0 0] 31)) := ((below_box w _).alloc (by simp) _).alloc (by simp; omega) _
  have hz0 : (((w.alloc (.cells #[.int .i64 x.1, .slice ad1 n1 cap1, .slice ad2 n2 cap2] 53)).alloc (.cells #[.int .i64 0, .slice none 0 0, .slice none 0 0] 31)).alloc (.cells #[.int .i64 x.1, .slice none 0 0, .slice none 0 0] 31)).heap.size = w.heap.size + 1 + 1 + 1 := by simp
  change Bx (((w.alloc (.cells #[.int .i64 x.1, .slice ad1 n1 cap1, .slice ad2 n2 cap2] 53)).alloc (.cells #[.int .i64 0, .slice none 0 0, .slice none 0 0] 31)).alloc (.cells #[.int .i64 x.1, .slice none 0 0, .slice none 0 0] 31)) _ _ _ at kA
  change Bx (((w.alloc (.cells #[.int .i64 x.1, .slice ad1 n1 cap1, .slice ad2 n2 cap2] 53)).alloc (.cells #[.int .i64 0, .slice none 0 0, .slice none 0 0] 31)).alloc (.cells #[.int .i64 x.1, .slice none 0 0, .slice none 0 0] 31)) _ _ _ at kZ
  change Bx (((w.alloc (.cells #[.int .i64 x.1, .slice ad1 n1 cap1, .slice ad2 n2 cap2] 53)).alloc (.cells #[.int .i64 0, .slice none 0 0, .slice none 0 0] 31)).alloc (.cells #[.int .i64 x.1, .slice none 0 0, .slice none 0 0] 31)) _ _ _ at kO
  clear ca0 ca1 ca2
  generalize (((w.alloc (.cells #[.int .i64 x.1, .slice ad1 n1 cap1, .slice ad2 n2 cap2] 53)).alloc (.cells #[.int .i64 0, .slice none 0 0, .slice none 0 0] 31)).alloc (.cells #[.int .i64 x.1, .slice none 0 0, .slice none 0 0] 31)) = y0 at *
  refine (HT1.out y0 hb0).mono ?_
  rintro e v0 ⟨u1, rfl, o1, b1⟩
  obtain ⟨adr1, nr1, capr1, eu1, _⟩ := (Own.rd o1).slice
  simp at eu1
  subst eu1
  have s1 := b1.size
  replace kA := kA.below b1 (by omega)
  replace kZ := kZ.below b1 (by omega)
  replace kO := kO.below b1 (by omega)
  have hw1 := hb0.trans (b1.mono (by omega))
  clear b1
  have ca0 := kA.cell (i := 0) rfl
  have ca1 := kA.cell (i := 1) rfl
  have ca2 := kA.cell (i := 2) rfl
  have co0 := kO.cell (i := 0) rfl
  have co1 := kO.cell (i := 1) rfl
  have co2 := kO.cell (i := 2) rfl
  have fo0 := kO.free 0
  have fo1 := kO.free 1
  have fo2 := kO.free 2
  have hm1 : Mv v0 (v0.setCell ⟨w.heap.size + 1 + 1, 1, none⟩ (.slice adr1 nr1 capr1)) (w.heap.size + 1 + 1) (w.heap.size + 1 + 1 + 1) := (Mv.refl v0 _ _).setCell (p := ⟨w.heap.size + 1 + 1, 1, none⟩) (Nat.le_refl _) (Nat.lt_succ_self _) _
  have kO1 : Bx (v0.setCell ⟨w.heap.size + 1 + 1, 1, none⟩ (.slice adr1 nr1 capr1)) (w.heap.size + 1 + 1) 31 [.int .i64 x.1, .slice adr1 nr1 capr1, .slice none 0 0] := (kO.set 1 (.slice adr1 nr1 capr1))
  have kA1 := kA.mv hm1 (by omega)
  have kZ1 := kZ.mv hm1 (by omega)
  replace o1 := Own.mv o1 hm1 (.inr (by omega))
  have hs1 : (v0.setCell ⟨w.heap.size + 1 + 1, 1, none⟩ (.slice adr1 nr1 capr1)).heap.size = v0.heap.size := by simp [World.setCell]
  have hv1 := hw1.trans (hm1.below (by omega) (by omega))
  go_wp2_with fail
  go_at_call 66
  clear kA kZ kO hm1 ca0 co0 fo0 ca1 co1 fo1 ca2 co2 fo2
  generalize (v0.setCell ⟨w.heap.size + 1 + 1, 1, none⟩ (.slice adr1 nr1 capr1)) = y1 at *
  have kA := kA1
  have kZ := kZ1
  have kO := kO1
  clear kA1 kZ1 kO1
  refine (HT2.out y1 hv1).mono ?_
  rintro e v1 ⟨u2, rfl, o2, b2⟩
  obtain ⟨adr2, nr2, capr2, eu2, _⟩ := (Own.rd o2).slice
  simp at eu2
  subst eu2
  have s2 := b2.size
  replace kA := kA.below b2 (by omega)
  replace kZ := kZ.below b2 (by omega)
  replace kO := kO.below b2 (by omega)
  replace o1 := Own.below o1 b2 (.inl (by omega))
  have hw2 := hv1.trans (b2.mono (by omega))
  clear b2
  have ca0 := kA.cell (i := 0) rfl
  have ca1 := kA.cell (i := 1) rfl
  have ca2 := kA.cell (i := 2) rfl
  have co0 := kO.cell (i := 0) rfl
  have co1 := kO.cell (i := 1) rfl
  have co2 := kO.cell (i := 2) rfl
  have fo0 := kO.free 0
  have fo1 := kO.free 1
  have fo2 := kO.free 2
  have cz0 := kZ.cell (i := 0) rfl
  have cz1 := kZ.cell (i := 1) rfl
  have cz2 := kZ.cell (i := 2) rfl
  have fz0 := kZ.free 0
  have fz1 := kZ.free 1
  have fz2 := kZ.free 2
  have hm : Mv v1 ((((v1.setCell ⟨w.heap.size + 1 + 1, 2, none⟩ (.slice adr2 nr2 capr2)).setCell ⟨w.heap.size + 1, 0, none⟩ (.int .i64 x.1)).setCell ⟨w.heap.size + 1, 1, none⟩ (.slice adr1 nr1 capr1)).setCell ⟨w.heap.size + 1, 2, none⟩ (.slice adr2 nr2 capr2)) (w.heap.size + 1) (w.heap.size + 1 + 1 + 1) := ((((Mv.refl v1 _ _).setCell (p := ⟨w.heap.size + 1 + 1, 2, none⟩) (by show w.heap.size + 1 ≤ w.heap.size + 1 + 1; omega) (by show w.heap.size + 1 + 1 < w.heap.size + 1 + 1 + 1; omega) _).setCell (p := ⟨w.heap.size + 1, 0, none⟩) (by show w.heap.size + 1 ≤ w.heap.size + 1; omega) (by show w.heap.size + 1 < w.heap.size + 1 + 1 + 1; omega) _).setCell (p := ⟨w.heap.size + 1, 1, none⟩) (by show w.heap.size + 1 ≤ w.heap.size + 1; omega) (by show w.heap.size + 1 < w.heap.size + 1 + 1 + 1; omega) _).setCell (p := ⟨w.heap.size + 1, 2, none⟩) (by show w.heap.size + 1 ≤ w.heap.size + 1; omega) (by show w.heap.size + 1 < w.heap.size + 1 + 1 + 1; omega) _
  have kF : Bx ((((v1.setCell ⟨w.heap.size + 1 + 1, 2, none⟩ (.slice adr2 nr2 capr2)).setCell ⟨w.heap.size + 1, 0, none⟩ (.int .i64 x.1)).setCell ⟨w.heap.size + 1, 1, none⟩ (.slice adr1 nr1 capr1)).setCell ⟨w.heap.size + 1, 2, none⟩ (.slice adr2 nr2 capr2)) (w.heap.size + 1) 31 [.int .i64 x.1, .slice adr1 nr1 capr1, .slice adr2 nr2 capr2] := ((((kZ.other (p := ⟨w.heap.size + 1 + 1, 2, none⟩) (by show w.heap.size + 1 ≠ w.heap.size + 1 + 1; omega) (.slice adr2 nr2 capr2)).set 0 (.int .i64 x.1)).set 1 (.slice adr1 nr1 capr1)).set 2 (.slice adr2 nr2 capr2))
  have g0 := kF.cell (i := 0) rfl
  have g1 := kF.cell (i := 1) rfl
  have g2 := kF.cell (i := 2) rfl
  replace o1 := Own.mv o1 hm (.inr (by omega))
  replace o2 := Own.mv o2 hm (.inr (by omega))
  have hs : ((((v1.setCell ⟨w.heap.size + 1 + 1, 2, none⟩ (.slice adr2 nr2 capr2)).setCell ⟨w.heap.size + 1, 0, none⟩ (.int .i64 x.1)).setCell ⟨w.heap.size + 1, 1, none⟩ (.slice adr1 nr1 capr1)).setCell ⟨w.heap.size + 1, 2, none⟩ (.slice adr2 nr2 capr2)).heap.size = v1.heap.size := by simp [World.setCell]
  have HB := Lib.hid (hw2.trans (hm.below (by omega) (by omega)))
  go_wp2
  generalize ((((v1.setCell ⟨w.heap.size + 1 + 1, 2, none⟩ (.slice adr2 nr2 capr2)).setCell ⟨w.heap.size + 1, 0, none⟩ (.int .i64 x.1)).setCell ⟨w.heap.size + 1, 1, none⟩ (.slice adr1 nr1 capr1)).setCell ⟨w.heap.size + 1, 2, none⟩ (.slice adr2 nr2 capr2)) = y9 at *
  refine bodyPost_ret (by simp [results, Tryd.results29, go_sem, g0, g1, g2]; rfl) rfl ?_
  exact ⟨_, _, _, rfl, Own.mono (Own.num fi0 (Own.pair (lo := y0.heap.size) (hi := v1.heap.size) o1 o2 (by omega) (by omega) (by omega) (by omega) (by omega))) (by omega) (by omega), HB.out⟩
set_option maxRecDepth 100000 in
theorem eqCodedPacket_d (w : World) {lo hi l2 h2 : Nat} {c0 c1 c2 d0 d1 d2 : Value} {x : (tPkt).den} {pl pl2 : Option Addr} (r : Rd w lo hi tPkt pl [c0, c1, c2] x) (s2 : Rd w l2 h2 tPkt pl2 [d0, d1, d2] x) (hz : Sz tPkt x ≤ 1048576) :
    Calls Tryd.prog 31 #[.agg #[c0, c1, c2], .agg #[d0, d1, d2]] w (Says (.bool true) w) := by
  obtain ⟨d0, es0, ee0, ra0, r1⟩ := r.unp rfl
  obtain ⟨rfl, rfl⟩ := List.cons.inj ee0
  obtain ⟨d1, es1, ee1, ra1, r2⟩ := r1.unp rfl
  obtain ⟨rfl, rfl⟩ := List.cons.inj ee1
  obtain ⟨ec0, fi0⟩ := ra0.uni
  simp at ec0
  subst ec0
  obtain ⟨ad1, n1, cap1, ec1, _⟩ := ra1.slice
  simp at ec1
  subst ec1
  obtain ⟨ad2, n2, cap2, ec2, _⟩ := r2.slice
  simp at ec2
  subst ec2
  obtain ⟨dq0, esq0, eeq0, raq0, rq1⟩ := s2.unp rfl
  obtain ⟨rfl, rfl⟩ := List.cons.inj eeq0
  obtain ⟨dq1, esq1, eeq1, raq1, rq2⟩ := rq1.unp rfl
  obtain ⟨rfl, rfl⟩ := List.cons.inj eeq1
  obtain ⟨ecq0, fiq0⟩ := raq0.uni
  simp at ecq0
  subst ecq0
  obtain ⟨adq1, nq1, capq1, ecq1, _⟩ := raq1.slice
  simp at ecq1
  subst ecq1
  obtain ⟨adq2, nq2, capq2, ecq2, _⟩ := rq2.slice
  simp at ecq2
  subst ecq2
  have hz1 : Sz tIs x.2.1 ≤ 1048576 := by have e : Sz tPkt x = 0 + (Sz tIs x.2.1 + (Sz tIs x.2.2)) := rfl; omega
  have hz2 : Sz tIs x.2.2 ≤ 1048576 := by have e : Sz tPkt x = 0 + (Sz tIs x.2.1 + (Sz tIs x.2.2)) := rfl; omega
  have HE1 := Lib.hid (fun (w' : World) (hb : Below w.heap.size w w') => eqIntS_d w' (ra1.below hb (.inr (Nat.le_refl _))).free (raq1.below hb (.inr (Nat.le_refl _))).free hz1)
  have HE2 := Lib.hid (fun (w' : World) (hb : Below w.heap.size w w') => eqIntS_d w' (r2.below hb (.inr (Nat.le_refl _))).free (rq2.below hb (.inr (Nat.le_refl _))).free hz2)
  clear r s2 ra0 ra1 r2 raq0 raq1 rq2 hz
  have kA := (Bx.new w [.int .i64 x.1, .slice ad1 n1 cap1, .slice ad2 n2 cap2] 31).alloc (.cells #[.int .i64 x.1, .slice adq1 nq1 capq1, .slice adq2 nq2 capq2] 31)
  have kB := Bx.new (w.alloc (.cells #[.int .i64 x.1, .slice ad1 n1 cap1, .slice ad2 n2 cap2] 31)) [.int .i64 x.1, .slice adq1 nq1 capq1, .slice adq2 nq2 capq2] 31
  rw [World.size_alloc] at kB
  have ca0 := kA.cell (i := 0) rfl
  have ca1 := kA.cell (i := 1) rfl
  have ca2 := kA.cell (i := 2) rfl
  have cb0 := kB.cell (i := 0) rfl
  have cb1 := kB.cell (i := 1) rfl
  have cb2 := kB.cell (i := 2) rfl
  have hb0 : Below w.heap.size w ((w.alloc (.cells #[.int .i64 x.1, .slice ad1 n1 cap1, .slice ad2 n2 cap2] 31)).alloc (.cells #[.int .i64 x.1, .slice adq1 nq1 capq1, .slice adq2 nq2 capq2] 31)) := (below_box w _).alloc (by simp) _
  have hz0 : ((w.alloc (.cells #[.int .i64 x.1, .slice ad1 n1 cap1, .slice ad2 n2 cap2] 31)).alloc (.cells #[.int .i64 x.1, .slice adq1 nq1 capq1, .slice adq2 nq2 capq2] 31)).heap.size = w.heap.size + 1 + 1 := by simp
  go_enter Tryd.func31, Tryd.ntmps31
  go_wp2_with fail
  go_at_call 68
  change Bx ((w.alloc (.cells #[.int .i64 x.1, .slice ad1 n1 cap1, .slice ad2 n2 cap2] 31)).alloc (.cells #[.int .i64 x.1, .slice adq1 nq1 capq1, .slice adq2 nq2 capq2] 31)) _ _ _ at kA
  generalize ((w.alloc (.cells #[.int .i64 x.1, .slice ad1 n1 cap1, .slice ad2 n2 cap2] 31)).alloc (.cells #[.int .i64 x.1, .slice adq1 nq1 capq1, .slice adq2 nq2 capq2] 31)) = y0 at *
  refine (HE1.out y0 hb0).mono ?_
  rintro e v0 ⟨rfl, b1⟩
  replace kA := kA.below b1 (by have := kA.lt; omega)
  replace kB := kB.below b1 (by have := kB.lt; omega)
  clear ca0 cb0 ca1 cb1 ca2 cb2
  have ca0 := kA.cell (i := 0) rfl
  have ca1 := kA.cell (i := 1) rfl
  have ca2 := kA.cell (i := 2) rfl
  have cb0 := kB.cell (i := 0) rfl
  have cb1 := kB.cell (i := 1) rfl
  have cb2 := kB.cell (i := 2) rfl
  have hv1 := hb0.trans (b1.mono hb0.size)
  clear b1
  go_wp2_with fail
  go_at_call 68
  refine (HE2.out v0 hv1).mono ?_
  rintro e v1 ⟨rfl, b2⟩
  replace kA := kA.below b2 (by have := kA.lt; omega)
  replace kB := kB.below b2 (by have := kB.lt; omega)
  clear ca0 cb0 ca1 cb1 ca2 cb2
  have ca0 := kA.cell (i := 0) rfl
  have ca1 := kA.cell (i := 1) rfl
  have ca2 := kA.cell (i := 2) rfl
  have cb0 := kB.cell (i := 0) rfl
  have cb1 := kB.cell (i := 1) rfl
  have cb2 := kB.cell (i := 2) rfl
  have hv2 := hv1.trans (b2.mono hv1.size)
  clear b2
  have HB := Lib.hid hv2
  go_wp2
  go_ret
  exact ⟨rfl, HB.out⟩
end Go.Proofs.YtkhfkccbnhjmjaaDoor.Deep
namespace Go.Proofs.YtkhfkccbnhjmjaaDoor.Shape
open Go.ChangeShapes Go.WideShapes Go.ChangeAt Go.RowKit
open Go.Proofs.YtkhfkccbnhjmjaaDoor.Seq Go.Proofs.YtkhfkccbnhjmjaaDoor.Help Go.Proofs.YtkhfkccbnhjmjaaDoor.Deep
def CodedPacketI (w : World) (l h : Nat) (v : Value) (x : (tPkt).den) : Prop := ∃ c0 c1 c2, v = .agg #[c0, c1, c2] ∧ Rd w l h tPkt none [c0, c1, c2] x
def CodedPacketO (w : World) (l h : Nat) (v : Value) (x : (tPkt).den) : Prop := ∃ c0 c1 c2, v = .agg #[c0, c1, c2] ∧ Own w l h tPkt [c0, c1, c2] x
def CodedPacketF (x : (tPkt).den) : Prop := Sz tPkt x ≤ 1048576
def CodedPacketC (x : (tPkt).den) : Nat := Cn tPkt false x
def CodedPacketT (m : Int) (x : (tPkt).den) : (tPkt).den := St tPkt false m x
theorem CodedPacketC_le {x : (tPkt).den} (h : CodedPacketF x) : CodedPacketC x ≤ 1099511627776 := by
  have h1 := Cn_le tPkt false x
  have h2 : (tPkt).N = 3 := rfl
  rw [h2] at h1
  unfold CodedPacketF at h
  unfold CodedPacketC
  omega
section
variable {w w' : World} {l h l' h' B : Nat} {v : Value} {x : (tPkt).den}
theorem CodedPacketO_is (s : CodedPacketO w l h v x) : CodedPacketI w l h v x := by obtain ⟨_, _, _, rfl, s⟩ := s; exact ⟨_, _, _, rfl, Own.rd s⟩
theorem CodedPacketI_mv (s : CodedPacketI w l h v x) (m : Mv w w' l' h') (hd : h ≤ l' ∨ h' ≤ l) : CodedPacketI w' l h v x := by obtain ⟨_, _, _, rfl, s⟩ := s; exact ⟨_, _, _, rfl, Rd.mv s m hd⟩
theorem CodedPacketI_below (s : CodedPacketI w l h v x) (m : Below B w w') (hB : h ≤ B ∨ w.heap.size ≤ B) : CodedPacketI w' l h v x := by obtain ⟨_, _, _, rfl, s⟩ := s; exact ⟨_, _, _, rfl, Rd.below s m hB⟩
theorem CodedPacketO_mv (s : CodedPacketO w l h v x) (m : Mv w w' l' h') (hd : h ≤ l' ∨ h' ≤ l) : CodedPacketO w' l h v x := by obtain ⟨_, _, _, rfl, s⟩ := s; exact ⟨_, _, _, rfl, Own.mv s m hd⟩
theorem CodedPacketO_below (s : CodedPacketO w l h v x) (m : Below B w w') (hB : h ≤ B ∨ w.heap.size ≤ B) : CodedPacketO w' l h v x := by obtain ⟨_, _, _, rfl, s⟩ := s; exact ⟨_, _, _, rfl, Own.below s m hB⟩
theorem CodedPacketI_cells {g0 : Int} {g1 : (tIs).den} {g2 : (tIs).den} (s : CodedPacketI w l h v (g0, g1, g2)) : ∃ (ad1 : Option Addr) (n1 cap1 : Nat) (ad2 : Option Addr) (n2 cap2 : Nat), v = .agg #[.int .i64 g0, .slice ad1 n1 cap1, .slice ad2 n2 cap2] ∧ (-9223372036854775808 ≤ g0 ∧ g0 ≤ 9223372036854775807) ∧ CodedPacketI w l h (.agg #[.int .i64 g0, .slice ad1 n1 cap1, .slice ad2 n2 cap2]) (g0, g1, g2) := by
  have s0 := s
  obtain ⟨c0, c1, c2, e, s⟩ := s
  obtain ⟨d0, es0, ee0, ra0, r1⟩ := s.unp rfl
  obtain ⟨rfl, rfl⟩ := List.cons.inj ee0
  obtain ⟨d1, es1, ee1, ra1, r2⟩ := r1.unp rfl
  obtain ⟨rfl, rfl⟩ := List.cons.inj ee1
  obtain ⟨ec0, fi0⟩ := ra0.uni
  simp at ec0
  subst ec0
  obtain ⟨ad1, n1, cap1, ec1, _⟩ := ra1.slice
  simp at ec1
  subst ec1
  obtain ⟨ad2, n2, cap2, ec2, _⟩ := r2.slice
  simp at ec2
  subst ec2
  subst e
  exact ⟨_, _, _, _, _, _, rfl, fits_i64.1 fi0, s0⟩
theorem CodedPacketO_cells {g0 : Int} {g1 : (tIs).den} {g2 : (tIs).den} (s : CodedPacketO w l h v (g0, g1, g2)) : ∃ (ad1 : Option Addr) (n1 cap1 : Nat) (ad2 : Option Addr) (n2 cap2 : Nat), v = .agg #[.int .i64 g0, .slice ad1 n1 cap1, .slice ad2 n2 cap2] ∧ (-9223372036854775808 ≤ g0 ∧ g0 ≤ 9223372036854775807) ∧ CodedPacketO w l h (.agg #[.int .i64 g0, .slice ad1 n1 cap1, .slice ad2 n2 cap2]) (g0, g1, g2) := by
  have s0 := s
  obtain ⟨c0, c1, c2, e, s⟩ := s
  replace s := Own.rd s
  obtain ⟨d0, es0, ee0, ra0, r1⟩ := s.unp rfl
  obtain ⟨rfl, rfl⟩ := List.cons.inj ee0
  obtain ⟨d1, es1, ee1, ra1, r2⟩ := r1.unp rfl
  obtain ⟨rfl, rfl⟩ := List.cons.inj ee1
  obtain ⟨ec0, fi0⟩ := ra0.uni
  simp at ec0
  subst ec0
  obtain ⟨ad1, n1, cap1, ec1, _⟩ := ra1.slice
  simp at ec1
  subst ec1
  obtain ⟨ad2, n2, cap2, ec2, _⟩ := r2.slice
  simp at ec2
  subst ec2
  subst e
  exact ⟨_, _, _, _, _, _, rfl, fits_i64.1 fi0, s0⟩
end
section
variable {w : World} {l h l2 h2 : Nat} {v v2 : Value}
theorem toCodedPacket {x : (tPkt).den} (s : CodedPacketI w l h v x) (hf : CodedPacketF x) : Calls Tryd.prog 29 #[v] w (Ret (fun w l h u => CodedPacketO w l h u x) w) := by
  obtain ⟨_, _, _, rfl, s⟩ := s
  refine (toCodedPacket_d w s hf).mono ?_
  rintro e w' ⟨_, _, _, rfl, o, b⟩
  exact ⟨_, rfl, ⟨_, _, _, rfl, o⟩, b⟩
theorem eqCodedPacket {x y : (tPkt).den} (s : CodedPacketI w l h v x) (s2 : CodedPacketI w l2 h2 v2 y) (hf : CodedPacketF x) (he : x = y) : Calls Tryd.prog 31 #[v, v2] w (Says (.bool true) w) := by
  subst he
  obtain ⟨_, _, _, rfl, s⟩ := s
  obtain ⟨_, _, _, rfl, s2⟩ := s2
  exact eqCodedPacket_d w s s2 hf
theorem szCodedPacket {x : (tPkt).den} (s : CodedPacketI w l h v x) (m : Int) (hm0 : 0 ≤ m) (hm1 : m ≤ 1048576) : Calls Tryd.prog 27 #[v, .int .i64 m] w (Sizes (CodedPacketF x) w) := by
  obtain ⟨_, _, _, rfl, s⟩ := s
  refine (szCodedPacket_d w s m hm0 hm1).mono ?_
  rintro e w' ⟨r, rfl, hr, h1, b⟩
  exact ⟨r, rfl, h1, by omega, fun h0 => by show Sz _ x ≤ 1048576; omega, b⟩
end
def CodedPacketSI (w : World) (l h : Nat) (v : Value) (xs : (T.l tPkt).den) : Prop := Rd w l h (.l tPkt) none [v] xs
def CodedPacketSO (w : World) (l h : Nat) (v : Value) (xs : (T.l tPkt).den) : Prop := Own w l h (.l tPkt) [v] xs
def CodedPacketSF (xs : (T.l tPkt).den) : Prop := Sz (.l tPkt) xs ≤ 1048576
def CodedPacketSC (xs : (T.l tPkt).den) : Nat := Cn (.l tPkt) false xs
def CodedPacketST (m : Int) (xs : (T.l tPkt).den) : (T.l tPkt).den := St (.l tPkt) false m xs
theorem CodedPacketSC_le {x : (T.l tPkt).den} (h : CodedPacketSF x) : CodedPacketSC x ≤ 1099511627776 := by
  have h1 := Cn_le (.l tPkt) false x
  have h2 : (T.l tPkt).N = 3 := rfl
  rw [h2] at h1
  unfold CodedPacketSF at h
  unfold CodedPacketSC
  omega
section
variable {w w' : World} {l h l' h' B : Nat} {v : Value} {x : (T.l tPkt).den}
theorem CodedPacketSO_is (s : CodedPacketSO w l h v x) : CodedPacketSI w l h v x := Own.rd s
theorem CodedPacketSI_mv (s : CodedPacketSI w l h v x) (m : Mv w w' l' h') (hd : h ≤ l' ∨ h' ≤ l) : CodedPacketSI w' l h v x := Rd.mv s m hd
theorem CodedPacketSI_below (s : CodedPacketSI w l h v x) (m : Below B w w') (hB : h ≤ B ∨ w.heap.size ≤ B) : CodedPacketSI w' l h v x := Rd.below s m hB
theorem CodedPacketSO_mv (s : CodedPacketSO w l h v x) (m : Mv w w' l' h') (hd : h ≤ l' ∨ h' ≤ l) : CodedPacketSO w' l h v x := Own.mv s m hd
theorem CodedPacketSO_below (s : CodedPacketSO w l h v x) (m : Below B w w') (hB : h ≤ B ∨ w.heap.size ≤ B) : CodedPacketSO w' l h v x := Own.below s m hB
end
section
variable {w : World} {l h l2 h2 : Nat} {v v2 : Value}
end
end Go.Proofs.YtkhfkccbnhjmjaaDoor.Shape
