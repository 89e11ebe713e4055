/- Contracts and facts, several texts in one. It proves no statement. -/
import Derived.Test.YtgbkpbmilaafgaaBkGb
import Derived.Test.YtgbkpbmilaafgaaBkGd
import Derived.Lib.Bytealg
import Derived.Sort.Grow
import Derived.Deep.RegionHeld3
import Derived.Deep.DeepMust
import Derived.Test.YtgbkpbmilaafgaaBkGa
import Derived.Deep.QuietTactic
import Derived.Deep.MidRow
import Derived.StillTailTactics

/- Rows of books in memory: what came in, what is one's own. It proves no statement. -/



namespace Go.Proofs.Ytgbkpbmilaafgaa
open Go.RowKit
set_option linter.unusedVariables false
set_option linter.unusedSimpArgs false

/-- A row as the model's cells. -/
def rowV (r : Rw) : List Value := bytesV r.1 ++ r.2.map (Value.int .i64)
theorem rowV_length (r : Rw) : (rowV r).length = r.1.length + r.2.length := by simp [rowV, bytesV_length]
theorem rowV_one (r : Rw) : ∀ u ∈ rowV r, u.oneCell' = true := by
  intro u hu
  rcases List.mem_append.1 hu with hu | hu
  · exact bytesV_one _ u hu
  · obtain ⟨_, _, rfl⟩ := List.mem_map.1 hu
    rfl
theorem rowV_key {r : Rw} {j : Nat} {u : Value} (h : (bytesV r.1)[j]? = some u) : (rowV r)[j]? = some u := by
  have hj := (List.getElem?_eq_some_iff.1 h).1
  rw [rowV, List.getElem?_append_left hj, h]
theorem rowV_num {r : Rw} {j : Nat} {z : Int} (h : r.2[j]? = some z) : (rowV r)[r.1.length + j]? = some (.int .i64 z) := by
  rw [rowV, List.getElem?_append_right (by rw [bytesV_length]; omega), bytesV_length, show r.1.length + j - r.1.length = j by omega, List.getElem?_map, h]
  rfl
theorem rowV_split (r : Rw) : rowV r = bytesV r.1 ++ r.2.map (Value.int .i64) := rfl
/-- A number as a machine's int. -/
def i64 (z : Int) : Prop := -9223372036854775808 ≤ z ∧ z ≤ 9223372036854775807
/-- Rows that lie in memory, below block B. -/
structure RwRow (k : Kd) (w : World) (A : Option Addr) (n c : Nat) (L : List Rw) : Prop where
  row : FxRow w A n c (k.kl + k.m) (L.map rowV)
  ok : ∀ r ∈ L, k.Ok r
  bd : ∀ r ∈ L, ∀ z ∈ r.2, i64 z
section
variable {k : Kd} {w w' : World} {A : Option Addr} {n c : Nat} {L : List Rw}
theorem RwRow.len (h : RwRow k w A n c L) : L.length = n := by have := h.row.len; simpa using this
theorem RwRow.at_ (h : RwRow k w A n c L) {i : Nat} {r : Rw} (hi : L[i]? = some r) : ∃ b o, A = some ⟨b, o, none⟩ ∧ b < w.heap.size ∧ w.rangeAt b (o + i * (k.kl + k.m)) (rowV r) := h.row.at_ i _ (by rw [List.getElem?_map, hi]; rfl)
theorem RwRow.still (h : RwRow k w A n c L) (s : Still w w') : RwRow k w' A n c L :=
  ⟨⟨fun i x hx => by
    obtain ⟨b, o, e, hb, hr⟩ := h.row.at_ i x hx
    exact ⟨b, o, e, Nat.lt_of_lt_of_le hb s.size, fun j u hj => (s.cell (p := ⟨b, o + i * (k.kl + k.m) + j, none⟩) hb).trans (hr j u hj)⟩, h.row.len, h.row.fit, h.row.cap⟩, h.ok, h.bd⟩
theorem RwRow.take (h : RwRow k w A n c L) (q : Nat) : RwRow k w A (min n q) c (L.take q) :=
  ⟨⟨fun i x hx => h.row.at_ i x (by
    rw [List.map_take, List.getElem?_take] at hx
    split at hx
    · exact hx
    · cases hx), by rw [List.length_map, List.length_take, h.len, Nat.min_comm], by have := h.row.fit; omega, h.row.cap⟩, fun r hr => h.ok r (List.mem_of_mem_take hr), fun r hr => h.bd r (List.mem_of_mem_take hr)⟩
theorem RwRow.some_ (h : RwRow k w A n c L) (hn : 0 < n) : ∃ b o, A = some ⟨b, o, none⟩ ∧ b < w.heap.size := by
  have : 0 < L.length := by rw [h.len]; exact hn
  obtain ⟨b, o, e, hb, _⟩ := h.at_ (List.getElem?_eq_getElem this)
  exact ⟨b, o, e, hb⟩
/-- Rows of one's own. -/
theorem flat_at (m : Nat) : ∀ (E : List (List Value)) (i : Nat) (x : List Value), (∀ y ∈ E, y.length = m) → E[i]? = some x → ∀ (j : Nat) (u : Value), x[j]? = some u → (E.flatMap id)[i * m + j]? = some u
  | [], i, x, _, hx, _, _, _ => by simp at hx
  | y :: E, 0, x, hE, hx, j, u, hj => by
    simp only [List.getElem?_cons_zero, Option.some.injEq] at hx
    subst hx
    have := (List.getElem?_eq_some_iff.1 hj).1
    simp only [List.flatMap_cons, id, Nat.zero_mul, Nat.zero_add]
    rw [List.getElem?_append_left this, hj]
  | y :: E, i + 1, x, hE, hx, j, u, hj => by
    have hy := hE y (by simp)
    have ih := flat_at m E i x (fun z hz => hE z (by simp [hz])) (by simpa using hx) j u hj
    simp only [List.flatMap_cons, id]
    rw [List.getElem?_append_right (by rw [hy, Nat.add_mul]; omega), hy, Nat.add_mul, show i * m + 1 * m + j - m = i * m + j by omega]
    exact ih
def rowsV (L : List Rw) : List Value := (L.map rowV).flatMap id
theorem rowsV_snoc (L : List Rw) (r : Rw) : rowsV (L ++ [r]) = rowsV L ++ rowV r := by simp [rowsV]
theorem rowsV_length (hL : ∀ r ∈ L, k.Ok r) : (rowsV L).length = L.length * (k.kl + k.m) := by
  induction L with
  | nil => simp [rowsV]
  | cons r L ih =>
    have h1 := ih (fun x hx => hL x (by simp [hx]))
    have h2 := hL r (by simp)
    simp only [rowsV, List.map_cons, List.flatMap_cons, id, List.length_append, List.length_cons] at *
    rw [h1, rowV_length, h2.1, h2.2, Nat.add_mul]; omega
theorem RwRow.of_own {base T : Nat} {v : Value} (h : w.ownsRow base T (k.kl + k.m) v n (rowsV L)) (hl : L.length = n) (ok : ∀ r ∈ L, k.Ok r) (bd : ∀ r ∈ L, ∀ z ∈ r.2, i64 z) : ∃ A c, v = .slice A n c ∧ n ≤ c ∧ c ≤ 9223372036854775807 ∧ (A = none → n = 0 ∧ c = 0) ∧ RwRow k w A n c L := by
  have e : ∀ y ∈ L.map rowV, y.length = k.kl + k.m := fun y hy => by
    obtain ⟨r, hr, rfl⟩ := List.mem_map.1 hy
    rw [rowV_length, (ok r hr).1, (ok r hr).2]
  rcases h.2 with ⟨rfl, rfl⟩ | ⟨g, cap, cur, rfl, hb, hg, hnc, hm, hcs, ht⟩
  · obtain rfl := List.eq_nil_of_length_eq_zero hl
    exact ⟨none, 0, rfl, Nat.le_refl _, by omega, fun _ => ⟨rfl, rfl⟩, ⟨⟨fun i x hx => by simp at hx, rfl, Nat.le_refl _, by omega⟩, ok, bd⟩⟩
  · have hm' : cap ≤ 9223372036854775807 := by unfold maxLen at hm; omega
    refine ⟨_, cap, rfl, hnc, hm', fun e => (by cases e), ⟨⟨fun i x hx => ⟨g, 0, rfl, (Array.getElem?_eq_some_iff.1 hg).1, fun j u hj => ?_⟩, by simpa using hl, hnc, hm'⟩, ok, bd⟩⟩
    have hf := flat_at (k.kl + k.m) (L.map rowV) i x e hx j u hj
    change (rowsV L)[i * (k.kl + k.m) + j]? = some u at hf
    rw [Nat.zero_add, cell_of_row _ g _ cur _ (0, 0) hg]
    rw [← ht, List.getElem?_take] at hf
    split at hf
    · simpa using hf
    · cases hf
end
/-- Three, or two, numbers of a struct that came in. -/
theorem Try.cells_place : Try.prog.cellsOf 64 = 3 := by kernel_rfl
theorem Try.cells_count : Try.prog.cellsOf 75 = 2 := by kernel_rfl
theorem Try.cells_keyed : Try.prog.cellsOf 66 = 35 := by kernel_rfl
theorem Try.cells_counted : Try.prog.cellsOf 77 = 34 := by kernel_rfl
theorem Try.cells_use : Try.prog.cellsOf 86 = 3 := by kernel_rfl
theorem i64_of {z : Int} (h : (Lit.int .i64 z).wf = true) : i64 z := bounds_i64 h
set_option maxRecDepth 100000 in
theorem open_place3 {H : Type} {enc : TypeId × Value → H} {w : World} {held : Bool} {fuel : Nat} {l : List Value} {y : DataW H × List MemPlace} (hl : l.length = 3) (hf : DataW.trod enc Try.prog w 0 (fun _ => true) held fuel 64 l = some y) :
    ∃ x : List Int, l = x.map (Value.int .i64) ∧ x.length = 3 ∧ ∀ z ∈ x, i64 z := by
  obtain ⟨xs, m, hn, hx, hlen, hxl, hg⟩ := DataW.trod_struct Try.underlying64 hf
  have hxl3 : xs.length = 3 := hxl
  have hfx : ∀ (i : Nat) (hi : i < xs.length), xs[i]? = some xs[i] := fun i hi => List.getElem?_eq_getElem hi
  have g0 : DataW.trod enc Try.prog w 0 (fun _ => true) held m 3 ((l.drop 0).take (Try.prog.cellsOf 3)) = some xs[0] := (hg 0 _ rfl).trans (hfx 0 (by omega))
  have g1 : DataW.trod enc Try.prog w 0 (fun _ => true) held m 3 ((l.drop 1).take (Try.prog.cellsOf 3)) = some xs[1] := (hg 1 _ rfl).trans (hfx 1 (by omega))
  have g2 : DataW.trod enc Try.prog w 0 (fun _ => true) held m 3 ((l.drop 2).take (Try.prog.cellsOf 3)) = some xs[2] := (hg 2 _ rfl).trans (hfx 2 (by omega))
  rw [Try.cells_int0] at g0 g1 g2
  obtain ⟨a, e0, _, w0⟩ := DataW.trod_int Try.underlying3 g0
  obtain ⟨b, e1, _, w1⟩ := DataW.trod_int Try.underlying3 g1
  obtain ⟨c, e2, _, w2⟩ := DataW.trod_int Try.underlying3 g2
  refine ⟨[a, b, c], ?_, rfl, fun z hz => ?_⟩
  · match l, hl with
    | [x, y, z], _ => simp at e0 e1 e2; simp [e0, e1, e2]
  · simp only [List.mem_cons, List.not_mem_nil, or_false] at hz
    rcases hz with rfl | rfl | rfl
    · exact i64_of w0
    · exact i64_of w1
    · exact i64_of w2
set_option maxRecDepth 100000 in
theorem open_count2 {H : Type} {enc : TypeId × Value → H} {w : World} {held : Bool} {fuel : Nat} {l : List Value} {y : DataW H × List MemPlace} (hl : l.length = 2) (hf : DataW.trod enc Try.prog w 0 (fun _ => true) held fuel 75 l = some y) :
    ∃ x : List Int, l = x.map (Value.int .i64) ∧ x.length = 2 ∧ ∀ z ∈ x, i64 z := by
  obtain ⟨xs, m, hn, hx, hlen, hxl, hg⟩ := DataW.trod_struct Try.underlying75 hf
  have hxl3 : xs.length = 2 := hxl
  have hfx : ∀ (i : Nat) (hi : i < xs.length), xs[i]? = some xs[i] := fun i hi => List.getElem?_eq_getElem hi
  have g0 : DataW.trod enc Try.prog w 0 (fun _ => true) held m 3 ((l.drop 0).take (Try.prog.cellsOf 3)) = some xs[0] := (hg 0 _ rfl).trans (hfx 0 (by omega))
  have g1 : DataW.trod enc Try.prog w 0 (fun _ => true) held m 3 ((l.drop 1).take (Try.prog.cellsOf 3)) = some xs[1] := (hg 1 _ rfl).trans (hfx 1 (by omega))
  rw [Try.cells_int0] at g0 g1
  obtain ⟨a, e0, _, w0⟩ := DataW.trod_int Try.underlying3 g0
  obtain ⟨b, e1, _, w1⟩ := DataW.trod_int Try.underlying3 g1
  refine ⟨[a, b], ?_, rfl, fun z hz => ?_⟩
  · match l, hl with
    | [x, y], _ => simp at e0 e1; simp [e0, e1]
  · simp only [List.mem_cons, List.not_mem_nil, or_false] at hz
    rcases hz with rfl | rfl
    · exact i64_of w0
    · exact i64_of w1
set_option maxRecDepth 100000 in
theorem open_use3 {H : Type} {enc : TypeId × Value → H} {w : World} {held : Bool} {fuel : Nat} {l : List Value} {y : DataW H × List MemPlace} (hl : l.length = 3) (hf : DataW.trod enc Try.prog w 0 (fun _ => true) held fuel 86 l = some y) :
    ∃ x : List Int, l = x.map (Value.int .i64) ∧ x.length = 3 ∧ ∀ z ∈ x, i64 z := by
  obtain ⟨xs, m, hn, hx, hlen, hxl, hg⟩ := DataW.trod_struct Try.underlying86 hf
  have hxl3 : xs.length = 3 := hxl
  have hfx : ∀ (i : Nat) (hi : i < xs.length), xs[i]? = some xs[i] := fun i hi => List.getElem?_eq_getElem hi
  have g0 : DataW.trod enc Try.prog w 0 (fun _ => true) held m 3 ((l.drop 0).take (Try.prog.cellsOf 3)) = some xs[0] := (hg 0 _ rfl).trans (hfx 0 (by omega))
  have g1 : DataW.trod enc Try.prog w 0 (fun _ => true) held m 3 ((l.drop 1).take (Try.prog.cellsOf 3)) = some xs[1] := (hg 1 _ rfl).trans (hfx 1 (by omega))
  have g2 : DataW.trod enc Try.prog w 0 (fun _ => true) held m 3 ((l.drop 2).take (Try.prog.cellsOf 3)) = some xs[2] := (hg 2 _ rfl).trans (hfx 2 (by omega))
  rw [Try.cells_int0] at g0 g1 g2
  obtain ⟨a, e0, _, w0⟩ := DataW.trod_int Try.underlying3 g0
  obtain ⟨b, e1, _, w1⟩ := DataW.trod_int Try.underlying3 g1
  obtain ⟨c, e2, _, w2⟩ := DataW.trod_int Try.underlying3 g2
  refine ⟨[a, b, c], ?_, rfl, fun z hz => ?_⟩
  · match l, hl with
    | [x, y, z], _ => simp at e0 e1 e2; simp [e0, e1, e2]
  · simp only [List.mem_cons, List.not_mem_nil, or_false] at hz
    rcases hz with rfl | rfl | rfl
    · exact i64_of w0
    · exact i64_of w1
    · exact i64_of w2
set_option maxRecDepth 100000 in
theorem open_keyed {H : Type} {enc : TypeId × Value → H} {w : World} {held : Bool} {fuel : Nat} {l : List Value} {y : DataW H × List MemPlace} (hl : l.length = 35) (hf : DataW.trod enc Try.prog w 0 (fun _ => true) held fuel 66 l = some y) :
    ∃ r : Rw, l = rowV r ∧ kI.Ok r ∧ ∀ z ∈ r.2, i64 z := by
  obtain ⟨xs, m, hn, hx, hlen, hxl, hg⟩ := DataW.trod_struct Try.underlying66 hf
  have hxl3 : xs.length = 2 := hxl
  have hfx : ∀ (i : Nat) (hi : i < xs.length), xs[i]? = some xs[i] := fun i hi => List.getElem?_eq_getElem hi
  have g0 : DataW.trod enc Try.prog w 0 (fun _ => true) held m 62 ((l.drop 0).take (Try.prog.cellsOf 62)) = some xs[0] := (hg 0 _ rfl).trans (hfx 0 (by omega))
  have g1 : DataW.trod enc Try.prog w 0 (fun _ => true) held m 64 ((l.drop 32).take (Try.prog.cellsOf 64)) = some xs[1] := (hg 1 _ rfl).trans (hfx 1 (by omega))
  rw [Try.cells_id] at g0
  rw [Try.cells_place] at g1
  obtain ⟨K, e0, hK⟩ := trod_id (by simp; omega) g0
  obtain ⟨N, e1, hN, bN⟩ := open_place3 (by simp; omega) g1
  refine ⟨(K, N), ?_, ⟨hK, hN⟩, bN⟩
  have a3 : (l.drop 32).take 3 = l.drop 32 := List.take_of_length_le (by rw [List.length_drop]; omega)
  rw [rowV, ← e1, ← e0, a3, List.drop_zero, List.take_append_drop]
set_option maxRecDepth 100000 in
theorem open_counted {H : Type} {enc : TypeId × Value → H} {w : World} {held : Bool} {fuel : Nat} {l : List Value} {y : DataW H × List MemPlace} (hl : l.length = 34) (hf : DataW.trod enc Try.prog w 0 (fun _ => true) held fuel 77 l = some y) :
    ∃ r : Rw, l = rowV r ∧ kC.Ok r ∧ ∀ z ∈ r.2, i64 z := by
  obtain ⟨xs, m, hn, hx, hlen, hxl, hg⟩ := DataW.trod_struct Try.underlying77 hf
  have hxl3 : xs.length = 2 := hxl
  have hfx : ∀ (i : Nat) (hi : i < xs.length), xs[i]? = some xs[i] := fun i hi => List.getElem?_eq_getElem hi
  have g0 : DataW.trod enc Try.prog w 0 (fun _ => true) held m 62 ((l.drop 0).take (Try.prog.cellsOf 62)) = some xs[0] := (hg 0 _ rfl).trans (hfx 0 (by omega))
  have g1 : DataW.trod enc Try.prog w 0 (fun _ => true) held m 75 ((l.drop 32).take (Try.prog.cellsOf 75)) = some xs[1] := (hg 1 _ rfl).trans (hfx 1 (by omega))
  rw [Try.cells_id] at g0
  rw [Try.cells_count] at g1
  obtain ⟨K, e0, hK⟩ := trod_id (by simp; omega) g0
  obtain ⟨N, e1, hN, bN⟩ := open_count2 (by simp; omega) g1
  refine ⟨(K, N), ?_, ⟨hK, hN⟩, bN⟩
  have a3 : (l.drop 32).take 2 = l.drop 32 := List.take_of_length_le (by rw [List.length_drop]; omega)
  rw [rowV, ← e1, ← e0, a3, List.drop_zero, List.take_append_drop]
theorem open_use {H : Type} {enc : TypeId × Value → H} {w : World} {held : Bool} {fuel : Nat} {l : List Value} {y : DataW H × List MemPlace} (hl : l.length = 3) (hf : DataW.trod enc Try.prog w 0 (fun _ => true) held fuel 86 l = some y) :
    ∃ r : Rw, l = rowV r ∧ kU.Ok r ∧ ∀ z ∈ r.2, i64 z := by
  obtain ⟨N, e1, hN, bN⟩ := open_use3 hl hf
  exact ⟨([], N), by rw [e1]; rfl, ⟨rfl, hN⟩, bN⟩
theorem open_kir {H : Type} {enc : TypeId × Value → H} {w : World} {held : Bool} {fuel : Nat} {cs : List Value} {y : DataW H × List MemPlace} (hf : DataW.trod enc Try.prog w 0 (fun _ => true) held fuel 22 cs = some y) :
    ∃ A n c L, cs = [.slice A n c] ∧ RwRow kI w A n c L := by
  obtain ⟨A, n, c, E, e, r, q⟩ := open_row 35 (fun x => ∃ r : Rw, x = rowV r ∧ kI.Ok r ∧ ∀ z ∈ r.2, i64 z) Try.underlying22 (by omega) Try.cells_keyed (fun hl h => open_keyed hl h) hf
  obtain ⟨L, rfl, hP⟩ := list_of_all rowV (fun r => kI.Ok r ∧ ∀ z ∈ r.2, i64 z) E (fun x hx => (q x hx).1)
  exact ⟨A, n, c, L, e, ⟨r, fun r hr => (hP r hr).1, fun r hr => (hP r hr).2⟩⟩
theorem open_kcr {H : Type} {enc : TypeId × Value → H} {w : World} {held : Bool} {fuel : Nat} {cs : List Value} {y : DataW H × List MemPlace} (hf : DataW.trod enc Try.prog w 0 (fun _ => true) held fuel 23 cs = some y) :
    ∃ A n c L, cs = [.slice A n c] ∧ RwRow kC w A n c L := by
  obtain ⟨A, n, c, E, e, r, q⟩ := open_row 34 (fun x => ∃ r : Rw, x = rowV r ∧ kC.Ok r ∧ ∀ z ∈ r.2, i64 z) Try.underlying23 (by omega) Try.cells_counted (fun hl h => open_counted hl h) hf
  obtain ⟨L, rfl, hP⟩ := list_of_all rowV (fun r => kC.Ok r ∧ ∀ z ∈ r.2, i64 z) E (fun x hx => (q x hx).1)
  exact ⟨A, n, c, L, e, ⟨r, fun r hr => (hP r hr).1, fun r hr => (hP r hr).2⟩⟩
theorem open_kur {H : Type} {enc : TypeId × Value → H} {w : World} {held : Bool} {fuel : Nat} {cs : List Value} {y : DataW H × List MemPlace} (hf : DataW.trod enc Try.prog w 0 (fun _ => true) held fuel 24 cs = some y) :
    ∃ A n c L, cs = [.slice A n c] ∧ RwRow kU w A n c L := by
  obtain ⟨A, n, c, E, e, r, q⟩ := open_row 3 (fun x => ∃ r : Rw, x = rowV r ∧ kU.Ok r ∧ ∀ z ∈ r.2, i64 z) Try.underlying24 (by omega) Try.cells_use (fun hl h => open_use hl h) hf
  obtain ⟨L, rfl, hP⟩ := list_of_all rowV (fun r => kU.Ok r ∧ ∀ z ∈ r.2, i64 z) E (fun x hx => (q x hx).1)
  exact ⟨A, n, c, L, e, ⟨r, fun r hr => (hP r hr).1, fun r hr => (hP r hr).2⟩⟩
end Go.Proofs.Ytgbkpbmilaafgaa

/- Contracts: keys compared, by the program and by the document. It proves no statement. -/





namespace Go.Proofs.Ytgbkpbmilaafgaa
open Go.RowKit
set_option linter.unusedVariables false
set_option linter.unusedSimpArgs false

theorem run_loadX {P : Program} {w : World} : ∀ (l : List UInt8) (a : Addr) (acc : ByteArray), (∀ j x, l[j]? = some x → w.cell? (a.add j) = some (.int .u8 (x.toNat : Int))) →
    (Extern.Bytes.loadBytes a l.length acc).run P w = .ok ⟨acc.data ++ l.toArray⟩ w
  | [], a, acc, _ => by simp [Extern.Bytes.loadBytes]
  | x :: l, a, acc, h => by
    have h0 : w.cell? a = some (.int .u8 (x.toNat : Int)) := by
      have := h 0 x rfl
      simpa [Addr.add] using this
    have ih := run_loadX (P := P) (w := w) l (a.add 1) (acc.push x) (fun j y hy => by
      have := h (j + 1) y (by simpa using hy)
      have e : (a.add 1).add j = a.add (j + 1) := by
        unfold Addr.add
        by_cases hj : j = 0
        · subst hj; simp
        · simp [hj]; omega
      rw [e]; exact this)
    have hx : ((x.toNat : Int).toNat).toUInt8 = x := by simp
    simp only [List.length_cons, Extern.Bytes.loadBytes, Sem.run_bind, run_load, h0, Result.andThen, hx]
    rw [ih]
    congr 1
    apply ByteArray.ext
    simp [ByteArray.push]
theorem run_bytesOf {w : World} {B n c : Nat} {b o : Nat} {l : List UInt8} (h : Reads w B (some ⟨b, o, none⟩) n l) (hn : 0 < n) : (Extern.Bytes.bytesOf (.slice (some ⟨b, o, none⟩) n c)).run Try.prog w = .ok ⟨l.toArray⟩ w := by
  have hl := h.1
  subst hl
  have e := run_loadX (P := Try.prog) (w := w) l ⟨b, o, none⟩ .empty (fun j x hj => by
    rw [Addr.add_lit]
    have hj2 := (List.getElem?_eq_some_iff.1 hj).1
    rw [h.cellAt j hj2]
    congr 3
    simp [List.getD, hj])
  show (Extern.Bytes.loadBytes ⟨b, o, none⟩ l.length .empty).run Try.prog w = _
  rw [e]
  congr 1
  apply ByteArray.ext
  show (#[] : Array UInt8) ++ l.toArray = l.toArray
  simp
theorem run_bytealgCompare {w : World} {B n n' c c' b o b' o' : Nat} {l l' : List UInt8} (h : Reads w B (some ⟨b, o, none⟩) n l) (h' : Reads w B (some ⟨b', o', none⟩) n' l') (hn : 0 < n) (hn' : 0 < n') :
    (Extern.BytealgCompare.compare #[.slice (some ⟨b, o, none⟩) n c, .slice (some ⟨b', o', none⟩) n' c']).run Try.prog w = .ok (.int .i64 (Lib.compareBytes l l')) w := by
  change Sem.run Try.prog (do pure (goInt (Extern.BytealgCompare.cmp (← Extern.Bytes.bytesOf (.slice (some ⟨b, o, none⟩) n c)) (← Extern.Bytes.bytesOf (.slice (some ⟨b', o', none⟩) n' c'))))) w = _
  simp only [Sem.run_bind, run_bytesOf h hn, run_bytesOf h' hn', Sem.run_pure, Result.andThen_ok]
  rw [Lib.cmp_eq]
  rfl
set_option maxRecDepth 100000 in
set_option maxHeartbeats 800000 in
theorem bcompare_any {w : World} {B c c' b b' : Nat} {l l' : List UInt8} (h : Reads w B (some ⟨b, 0, none⟩) 32 l) (h' : Reads w B (some ⟨b', 0, none⟩) 32 l') :
    Calls Try.prog 93 #[.slice (some ⟨b, 0, none⟩) 32 c, .slice (some ⟨b', 0, none⟩) 32 c'] w fun e w' => e = .returned (.int .i64 (Lib.compareBytes l l')) ∧ w = w' := by
  have r := run_bytealgCompare (c := c) (c' := c') h h' (by omega) (by omega)
  generalize Lib.compareBytes l l' = z at r ⊢
  clear h h'
  go_enter Try.func93, Try.ntmps93
  go_wp2_with fail
  rw [run_callFunc_extern Try.func97 (by kernel_rfl) (by kernel_rfl) (by kernel_rfl) (e := Extern.BytealgCompare.compare) (by kernel_rfl), r]
  simp only [Result.andThen]
  rw [Oper.upon_value]
  go_wp2_with fail
  go_ret
  exact ⟨rfl, rfl⟩
/-- A world with a key's box. -/
theorem key_reads (w : World) (k : List UInt8) (hk : k.length = 32) : Reads (w.alloc (.cells (bytesV k).toArray 62)) (w.heap.size + 1) (some ⟨w.heap.size, 0, none⟩) 32 k := by
  have := const_reads w k (0, 0)
  rw [hk] at this
  refine ⟨hk, fun _ => ⟨w.heap.size, 0, rfl, by omega, fun i hi => ?_⟩⟩
  rw [(Blk.new w _ _).cell, Nat.zero_add, List.getElem?_toArray, bytesV_get _ _ (by omega)]
set_option maxRecDepth 100000 in
set_option maxHeartbeats 1600000 in
theorem compare_any (k k' : List UInt8) (w : World) (hk : k.length = 32) (hk' : k'.length = 32) :
    Calls Try.prog 76 #[.agg (bytesV k).toArray, .agg (bytesV k').toArray] w fun e w' => e = .returned (.int .i64 (Lib.compareBytes k k')) ∧ ∃ q os, w' = (Sort.grow (w.drewN q) os) := by
  obtain ⟨wA, hwA⟩ : ∃ wA, wA = w.alloc (.cells (bytesV k).toArray 62) := ⟨_, rfl⟩
  obtain ⟨wB, hwB⟩ : ∃ wB, wB = wA.alloc (.cells (bytesV k').toArray 62) := ⟨_, rfl⟩
  obtain ⟨g, hg⟩ : ∃ g, g = w.heap.size := ⟨_, rfl⟩
  have zA : wA.heap.size = g + 1 := by rw [hwA, hg]; simp
  have r1 : Reads wB (g + 2) (some ⟨g, 0, none⟩) 32 k := by
    have h1 := key_reads w k hk
    rw [← hwA, ← hg] at h1
    rw [hwB]
    exact (h1.keep (fun p hp => World.cell?_alloc_lt _ _ _ (by omega))).more (by omega)
  have r2 : Reads wB (g + 2) (some ⟨g + 1, 0, none⟩) 32 k' := by
    have h1 := key_reads wA k' hk'
    rwa [← hwB, zA] at h1
  have HC := Lib.hid (fun n => bcompare_any (w := wB.drewN n) (c := 32) (c' := 32) (r1.still (by rw [hwB]; simp [zA]) (still_drewN (Still.refl _) n)) (r2.still (by rw [hwB]; simp [zA]) (still_drewN (Still.refl _) n)))
  have FIN := Lib.hid (show ∀ n, ∃ q os, wB.drewN n = Sort.grow (w.drewN q) os from fun n => ⟨n, #[.cells (bytesV k).toArray 62, .cells (bytesV k').toArray 62], by rw [hwB, hwA, Sort.alloc_eq_grow, Sort.alloc_eq_grow, Sort.grow_grow]; rfl⟩)
  generalize Lib.compareBytes k k' = z at HC ⊢
  have HWA := Lib.hid hwA
  have HWB := Lib.hid hwB
  have HG := Lib.hid hg
  have ZA := Lib.hid zA
  obtain ⟨kv, hkv⟩ : ∃ kv, kv = (bytesV k).toArray := ⟨_, rfl⟩
  obtain ⟨kv', hkv'⟩ : ∃ kv', kv' = (bytesV k').toArray := ⟨_, rfl⟩
  rw [← hkv] at HWA ⊢
  rw [← hkv'] at HWB ⊢
  have al : Try.prog.arrayLen 62 = 32 := by kernel_rfl
  clear hwA hwB hg zA r1 r2 hkv hkv' hk hk'
  go_enter Try.func76, Try.ntmps76
  go_upto_region 1 with (first
    | (guard_target =~ wpList _ _ _ (Oper.mk (some 2) _ _ _ _ _ :: _) _ _; go_must (refine wpList_box_val rfl 62 (.tmp 0) rfl (some 2) rfl kv rfl ?_))
    | (guard_target =~ wpList _ _ _ (Oper.mk (some 3) _ _ _ _ _ :: _) _ _; go_must (refine wpList_box_val rfl 62 (.tmp 1) rfl (some 3) rfl kv' rfl ?_)))
  rw [← HWA.out, ← HG.out, ← HWB.out]
  go_quiet ((go_at_call 93; exact Calls.quiet_of_same ((HC.out _).mono fun _ _ h => ⟨h.1, h.2.symm⟩)))
  go_wp2_with fail
  go_ret
  exact ⟨rfl, FIN.out _⟩
end Go.Proofs.Ytgbkpbmilaafgaa

/- A key of a call lies in a box. It proves no statement. -/

namespace Go.Proofs.Ytgbkpbmilaafgaa
open Go.RowKit
set_option linter.unusedVariables false
set_option linter.unusedSimpArgs false

/-- A key of a call lies in a box. -/
structure KeyBox (w wA : World) (gk : Nat) (k : List UInt8) (kv : Array Value) : Prop where
  hwA : wA = w.alloc (.cells kv 62)
  hgk : gk = w.heap.size
  hkv : kv = (bytesV k).toArray
  still : Still w wA
  reads : ∀ W, Still wA W → W.rangeAt gk 0 (bytesV k)
  size : (Try.prog.info? 62).map (·.size) = some (bytesV k).length
theorem keyBox (w : World) (k : List UInt8) (hk : k.length = 32) : ∃ wA gk kv, KeyBox w wA gk k kv :=
  ⟨_, _, _, rfl, rfl, rfl, (Still.refl w).alloc (Nat.le_refl _) _, fun W s q u hq => (s.cell (p := ⟨w.heap.size, 0 + q, none⟩) (by simp)).trans (box_key w k q u hq), by rw [size32, bytesV_length, hk]⟩
end Go.Proofs.Ytgbkpbmilaafgaa

/- A region that draws its order, whose operations read and whose callees turn nothing that was there, walked once, in the text's order; loads of whole arrays on the way. It proves no statement. -/



namespace Go.Proofs.Ytgbkpbmilaafgaa
open Go Go.RowKit
set_option linter.unusedVariables false
set_option linter.unusedSimpArgs false

/-- A world in which nothing of w has turned. -/
structure StillBy (w : World) where
  W : World
  still : Still w W
instance (w : World) : Inhabited (StillBy w) := ⟨⟨w, Still.refl w⟩⟩
section
variable {P : Program} {ops : Array Oper} {C : World → Prop} {Q : Act → Prop} {a : Act} {o : Oper} {rest : List Oper}
theorem wp_region_quiet_still {id : Nat} {Q : Exit → Act → World → Prop} {w : World} {l : List Oper} (w0 : World) (h0 : Still w0 w) (hm : P.follows .mixedOrders = true) (hB : Region.lexB .any l.toArray = true)
    (h : wpQuiet P l.toArray (fun w' => ∃ p : StillBy w0, w' = p.W) (fun a' => ∀ w', (∃ p : StillBy w0, w' = p.W) → Q .normal a' w') l a) : (Code.region id l.toArray true).wp P Q a w :=
  wp_region_quiet (C := fun w' => ∃ p : StillBy w0, w' = p.W) hm hB ⟨⟨_, h0.drew⟩, rfl⟩ (by simpa using h)
/-- A callee's contract. -/
theorem Calls.stillby {w : World} {f : FuncId} {args : Array Value} {v : Value} (p : StillBy w) (h : Calls P f args p.W fun e w' => e = .returned v ∧ Still p.W w') : Calls P f args p.W fun e w'' => e = .returned v ∧ ∃ q : StillBy w, w'' = q.W :=
  h.mono fun _ w'' ⟨he, hs⟩ => ⟨he, ⟨w'', Still.trans p.still hs⟩, rfl⟩
/-- A load of a row from the middle of a block. -/
theorem quiet_load_mid (hw : Region.wanted o (yielded ops a.tmps) = true) (ty : TypeId) (x : Operand) (ho : o.op = .load ty x)
    (b oo : Nat) (hx : a.eval x = .pointer (some ⟨b, oo, none⟩)) (cs : List Value) (d : TypeDesc) (hc : ∀ w, C w → w.rangeAt b oo cs)
    (hu : P.underlying ty = some d) (hd : d.isRow = true) (hi : (P.info? ty).map (·.size) = some cs.length) (h : wpQuiet P ops C Q rest (a.put o.dst (.agg cs.toArray))) : wpQuiet P ops C Q (o :: rest) a := by
  refine wpQuiet_step fun K hK => ?_
  rw [if_pos hw]
  refine ⟨_, fun w hC => ?_, hK _ h⟩
  unfold Oper.quietAt execOp
  simp only [ho, hx, Instr.loadAt, Instr.sureAddr, Sem.run_bind, Sem.run_pure, Result.andThen_ok, run_loadVar_mid w b oo ty cs d (hc w hC) hu hd hi]
  exact ⟨rfl, rfl⟩
end
end Go.Proofs.Ytgbkpbmilaafgaa

/- Steps of a region with one store at its end: loads of whole arrays, literals. It proves no statement. -/


namespace Go.Proofs.Ytgbkpbmilaafgaa
open Go Go.RowKit
set_option linter.unusedVariables false
set_option linter.unusedSimpArgs false
section
variable {P : Program} {ops : Array Oper} {Q : Act → Prop} {a : Act} {o : Oper} {rest : List Oper} {w : World}
theorem still_value (hw : Region.wanted o (yielded ops a.tmps) = true) (v : Value) (hr : (execOp a.eval o).run P w = .ok (.value v) w) (h : wpStill P ops w Q rest (a.put o.dst v)) : wpStill P ops w Q (o :: rest) a := by
  refine wpStill_step fun K hK => ?_
  rw [if_pos hw]
  unfold Oper.still
  rw [hr, Oper.stillUpon_value]
  exact hK _ h
theorem still_load_mid (hw : Region.wanted o (yielded ops a.tmps) = true) (ty : TypeId) (x : Operand) (ho : o.op = .load ty x)
    (b oo : Nat) (hx : a.eval x = .pointer (some ⟨b, oo, none⟩)) (cs : List Value) (d : TypeDesc) (hc : w.rangeAt b oo cs)
    (hu : P.underlying ty = some d) (hd : d.isRow = true) (hi : (P.info? ty).map (·.size) = some cs.length) (h : wpStill P ops w Q rest (a.put o.dst (.agg cs.toArray))) : wpStill P ops w Q (o :: rest) a := by
  refine still_value hw _ ?_ h
  unfold execOp
  simp only [ho, hx, Instr.loadAt, Instr.sureAddr, Sem.run_bind, Sem.run_pure, Result.andThen_ok, run_loadVar_mid w b oo ty cs d hc hu hd hi]
theorem still_build (hw : Region.wanted o (yielded ops a.tmps) = true) (ty : TypeId) (ps : Array (Nat × Operand)) (ho : o.op = .build ty ps) (cs : Array Value)
    (hb : P.built ty (ps.map fun (i, x) => (i, a.eval x)).toList = some cs) (h : wpStill P ops w Q rest (a.put o.dst (.agg cs))) : wpStill P ops w Q (o :: rest) a := by
  refine still_value hw _ ?_ h
  unfold execOp
  simp only [ho, Sem.run_bind, run_build (P := P) w ty _ _ hb, Result.andThen_ok]
  rfl
end
end Go.Proofs.Ytgbkpbmilaafgaa

/- Contracts: Less by the program and by the document; what is found at all. It proves no statement. -/



namespace Go.Proofs.Ytgbkpbmilaafgaa
open Go.RowKit
set_option linter.unusedVariables false
set_option linter.unusedSimpArgs false

set_option maxRecDepth 100000 in
theorem less_any (k k' : List UInt8) (w : World) (hk : k.length = 32) (hk' : k'.length = 32) :
    Calls Try.prog 54 #[.agg (bytesV k).toArray, .agg (bytesV k').toArray] w fun e w' => e = .returned (.bool (ltK k k')) ∧ Still w w' := by
  obtain ⟨wA, ga, kv, KA⟩ := keyBox w k hk
  obtain ⟨wB, gb, kv', KB⟩ := keyBox wA k' hk'
  have RA := Lib.hid (KA.reads wB KB.still)
  have HC := Lib.hid (show Calls Try.prog 76 #[.agg (bytesV k).toArray, .agg (bytesV k').toArray] wB fun e w' => e = .returned (.int .i64 (Lib.compareBytes k k')) ∧ Still wB w' from (compare_any k k' wB hk hk').mono fun e w' ⟨he, q, os, hw⟩ => ⟨he, by rw [hw]; exact ⟨rfl, rfl, rfl, by rw [Sort.size_grow]; exact Nat.le_add_right _ _, fun i hi => Sort.heap_grow_old _ _ hi⟩⟩)
  have E : ltK k k' = decide (Lib.compareBytes k k' < 0) := rfl
  rw [E]
  generalize Lib.compareBytes k k' = z at HC
  have HA := Lib.hid KA
  have HB := Lib.hid KB
  rw [← KA.hkv, ← KB.hkv] at HC
  rw [← KA.hkv, ← KB.hkv]
  clear KA KB hk hk' E
  go_enter Try.func54, Try.ntmps54
  go_upto_region 1 with (first
    | (guard_target =~ wpList _ _ _ (Oper.mk (some 2) _ _ _ _ _ :: _) _ _; go_must (refine wpList_box_val rfl 62 (.tmp 0) rfl (some 2) rfl kv rfl ?_); rw [← HA.out.hwA, ← HA.out.hgk])
    | (guard_target =~ wpList _ _ _ (Oper.mk (some 3) _ _ _ _ _ :: _) _ _; go_must (refine wpList_box_val rfl 62 (.tmp 1) rfl (some 3) rfl kv' rfl ?_); rw [← HB.out.hwA, ← HB.out.hgk]))
  go_wp2_with (first
    | (guard_target =~ wpList _ _ _ (Oper.mk (some 5) _ _ _ _ _ :: _) _ _; go_must (refine wpList_load_mid rfl 62 (.tmp 2) rfl ga 0 rfl (bytesV k) _ RA.out under32 rfl HA.out.size ?_); rw [← HA.out.hkv])
    | (guard_target =~ wpList _ _ _ (Oper.mk (some 6) _ _ _ _ _ :: _) _ _; go_must (refine wpList_load_mid rfl 62 (.tmp 3) rfl gb 0 rfl (bytesV k') _ (HB.out.reads _ (Still.refl _)) under32 rfl HB.out.size ?_); rw [← HB.out.hkv])
    | (go_at_call 76; refine HC.out.mono ?_; rintro e w1 ⟨rfl, s1⟩; have S1 := Lib.hid s1; clear s1))
  go_ret
  exact ⟨rfl, Still.trans HA.out.still (Still.trans HB.out.still S1.out)⟩
theorem cmp_at : ∀ (i : Nat) (a b : List UInt8), i < a.length → i < b.length → a.take i = b.take i → a.getD i 0 ≠ b.getD i 0 → ltK a b = decide ((a.getD i 0).toNat < (b.getD i 0).toNat)
  | 0, x :: a, y :: b, _, _, _, hne => by
    simp only [List.getD_cons_zero] at hne ⊢
    unfold ltK Lib.compareBytes
    by_cases h1 : x < y
    · have : x.toNat < y.toNat := UInt8.lt_iff_toNat_lt.1 h1
      simp [h1, this]
    · have h2 : y < x := UInt8.lt_of_le_of_ne (UInt8.not_lt.1 h1) (Ne.symm hne)
      have : ¬ x.toNat < y.toNat := fun h => h1 (UInt8.lt_iff_toNat_lt.2 h)
      simp [h1, h2, this]
  | i + 1, x :: a, y :: b, ha, hb, ht, hne => by
    simp only [List.take_succ_cons, List.cons.injEq] at ht
    obtain ⟨rfl, ht⟩ := ht
    simp only [List.getD_cons_succ] at hne ⊢
    have ih := cmp_at i a b (by simpa using ha) (by simpa using hb) ht hne
    rw [← ih]
    unfold ltK
    congr 2
    conv => lhs; unfold Lib.compareBytes
    rw [if_neg (UInt8.lt_irrefl x), if_neg (UInt8.lt_irrefl x)]
  | 0, [], _, ha, _, _, _ => by simp at ha
  | 0, _ :: _, [], _, hb, _, _ => by simp at hb
  | _ + 1, [], _, ha, _, _, _ => by simp at ha
  | _ + 1, _ :: _, [], _, hb, _, _ => by simp at hb
set_option maxRecDepth 100000 in
set_option maxHeartbeats 1600000 in
theorem rless_any (k k' : List UInt8) (w : World) (hk : k.length = 32) (hk' : k'.length = 32) :
    Calls Try.prog 37 #[.agg (bytesV k).toArray, .agg (bytesV k').toArray] w fun e w' => e = .returned (.bool (ltK k k')) ∧ Still w w' := by
  obtain ⟨wA, ga, kv, KA⟩ := keyBox w k hk
  obtain ⟨wB, gb, kv', KB⟩ := keyBox wA k' hk'
  have CA := Lib.hid (fun W (s : Still wB W) i (hi : i < 32) => show W.cell? ⟨ga, i, none⟩ = some (.int .u8 ((k.getD i 0).toNat : Int)) from by
    have := KA.reads W (Still.trans KB.still s) i _ (bytesV_get k i (by omega))
    rwa [Nat.zero_add] at this)
  have CB := Lib.hid (fun W (s : Still wB W) i (hi : i < 32) => show W.cell? ⟨gb, i, none⟩ = some (.int .u8 ((k'.getD i 0).toNat : Int)) from by
    have := KB.reads W s i _ (bytesV_get k' i (by omega))
    rwa [Nat.zero_add] at this)
  have HK := Lib.hid hk
  have HK' := Lib.hid hk'
  have HA := Lib.hid KA
  have HB := Lib.hid KB
  rw [← KA.hkv, ← KB.hkv]
  clear KA KB hk hk'
  go_enter Try.func37, Try.ntmps37
  go_upto_region 1 with (first
    | (guard_target =~ wpList _ _ _ (Oper.mk (some 2) _ _ _ _ _ :: _) _ _; go_must (refine wpList_box_val rfl 62 (.tmp 0) rfl (some 2) rfl kv rfl ?_); rw [← HA.out.hwA, ← HA.out.hgk])
    | (guard_target =~ wpList _ _ _ (Oper.mk (some 3) _ _ _ _ _ :: _) _ _; go_must (refine wpList_box_val rfl 62 (.tmp 1) rfl (some 3) rfl kv' rfl ?_); rw [← HB.out.hwA, ← HB.out.hgk]))
  go_wp2_with fail
  go_loopw [5] (fun iv wr => ∃ i : Nat, i ≤ 32 ∧ iv = .int .i64 i ∧ Hid (k.take i = k'.take i) ∧ Hid (Still wB wr)) (fun iv _ => 32 - (intOf iv).toNat)
  case atStart => exact ⟨0, by omega, rfl, Lib.hid rfl, Lib.hid (Still.refl _)⟩
  case round =>
    obtain ⟨i, hi, rfl, HT, SW⟩ := hrel
    by_cases hlt : i < 32
    · have d1 : (i : Int) < 32 := by omega
      have ca := fun n => CA.out (wr.drewN n) (still_drewN SW.out n) i hlt
      have cb := fun n => CB.out (wr.drewN n) (still_drewN SW.out n) i hlt
      by_cases he : (k.getD i 0) = (k'.getD i 0)
      · have HT2 := Lib.hid (show k.take (i + 1) = k'.take (i + 1) from by
          rw [List.take_add_one, List.take_add_one, HT.out]
          congr 1
          have h1 := HK.out
          have h2 := HK'.out
          simp only [List.getD, List.getElem?_eq_getElem (show i < k.length by omega), List.getElem?_eq_getElem (show i < k'.length by omega), Option.getD_some] at he ⊢
          rw [he])
        rw [he] at ca
        obtain ⟨x, hx⟩ : ∃ x, x = (k'.getD i 0).toNat := ⟨_, rfl⟩
        rw [← hx] at ca cb
        have ca0 := ca 0
        have cb0 := cb 0
        clear hx he hlt
        go_upto_region 4 with fail
        go_quiet (fail)
        have SQ := Lib.hid (still_drewN SW.out nq)
        go_wp2_with fail
        go_roundw
        case rel => exact ⟨i + 1, by omega, by go_num, HT2, SQ⟩
        case measure => simp [intOf]; omega
      · have LT := Lib.hid (cmp_at i k k' (by have := HK.out; omega) (by have := HK'.out; omega) HT.out he)
        have hne : ¬ (k.getD i 0).toNat = (k'.getD i 0).toNat := fun e => he (UInt8.toNat_inj.1 e)
        obtain ⟨x, hx⟩ : ∃ x, x = (k.getD i 0).toNat := ⟨_, rfl⟩
        obtain ⟨y, hy⟩ : ∃ y, y = (k'.getD i 0).toNat := ⟨_, rfl⟩
        rw [← hx] at ca LT hne
        rw [← hy] at cb LT hne
        have bn : ((x : Int) != (y : Int)) = true := by simp; omega
        have HX := Lib.hid hx
        have HY := Lib.hid hy
        have HLT := Lib.hid hlt
        clear hx hy he hlt
        go_upto_region 4 with fail
        go_quiet (fail)
        have SQ := Lib.hid (still_drewN SW.out nq)
        generalize wr.drewN nq = wq at SQ ⊢
        have ca1 := fun n => CA.out (wq.drewN n) (still_drewN SQ.out n) i HLT.out
        have cb1 := fun n => CB.out (wq.drewN n) (still_drewN SQ.out n) i HLT.out
        rw [← HX.out] at ca1
        rw [← HY.out] at cb1
        clear ca cb
        go_upto_region 5 with fail
        go_quiet (fail)
        have SR := Lib.hid (still_drewN SQ.out nq)
        go_wp2_with fail
        go_ret
        exact ⟨by rw [LT.out]; first | rfl | simp, Still.trans HA.out.still (Still.trans HB.out.still SR.out)⟩
    · have i32 : i = 32 := by omega
      subst i32
      have E := Lib.hid (show ltK k k' = false from by
        have h := HT.out
        rw [List.take_of_length_le (by have := HK.out; omega), List.take_of_length_le (by have := HK'.out; omega)] at h
        rw [h, ltK_irrefl])
      clear HT
      go_wp2_with fail
      go_ret
      exact ⟨by rw [E.out]; rfl, Still.trans HA.out.still (Still.trans HB.out.still SW.out)⟩
end Go.Proofs.Ytgbkpbmilaafgaa

/- A list of 32 bytes, written out. It proves no statement. -/

namespace Go.Proofs.Ytgbkpbmilaafgaa
set_option maxRecDepth 100000 in
theorem list32 (K : List UInt8) (h : K.length = 32) : ∃ k0 k1 k2 k3 k4 k5 k6 k7 k8 k9 k10 k11 k12 k13 k14 k15 k16 k17 k18 k19 k20 k21 k22 k23 k24 k25 k26 k27 k28 k29 k30 k31, K = [k0, k1, k2, k3, k4, k5, k6, k7, k8, k9, k10, k11, k12, k13, k14, k15, k16, k17, k18, k19, k20, k21, k22, k23, k24, k25, k26, k27, k28, k29, k30, k31] := by
  match K, h with
  | [k0, k1, k2, k3, k4, k5, k6, k7, k8, k9, k10, k11, k12, k13, k14, k15, k16, k17, k18, k19, k20, k21, k22, k23, k24, k25, k26, k27, k28, k29, k30, k31], _ => exact ⟨k0, k1, k2, k3, k4, k5, k6, k7, k8, k9, k10, k11, k12, k13, k14, k15, k16, k17, k18, k19, k20, k21, k22, k23, k24, k25, k26, k27, k28, k29, k30, k31, rfl⟩
end Go.Proofs.Ytgbkpbmilaafgaa
