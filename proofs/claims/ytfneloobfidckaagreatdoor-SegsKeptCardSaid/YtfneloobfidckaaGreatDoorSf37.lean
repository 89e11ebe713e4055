/- Contracts and facts, several texts in one. It proves no statement. -/
import Derived.Test.YtfneloobfidckaaGreatDoorSf36
import Derived.Test.YtfneloobfidckaaGreatDoorSf35
import Derived.Test.YtfneloobfidckaaGreatDoorSf00
import Derived.Outline
import Derived.Deep.DeepMust
import Derived.Deep.QuietTactic
import Derived.BigQuiet
import Derived.RegionTactic
import Derived.ChangeAlike
import Derived.BigRegion
import Derived.Test.YtfneloobfidckaaGreatDoorSf11
import Derived.Test.YtfneloobfidckaaGreatDoorSf13
import Derived.Test.YtfneloobfidckaaGreatDoorSf06
import Derived.Maps.AppendAt
import Derived.Great.BuildSlice

/- A slice of calls upon a log that came in, opened. It proves no statement. -/



namespace Go.Proofs.YtfneloobfidckaaGreatDoor
open Go.RowKit
set_option linter.unusedVariables false
set_option linter.unusedSimpArgs false

theorem Tryz.cells_do14 : Tryz.prog.cellsOf 47 = 40 := by kernel_rfl
theorem Tryz.cells_ints14 : Tryz.prog.cellsOf 45 = 1 := by kernel_rfl
theorem nn14 {x : Int} (h : (Lit.int .i64 x).wf = true) : x ≤ 9223372036854775807 := by
  have e : IntKind.i64.min ≤ x ∧ x ≤ 9223372036854775807 := by simpa [Lit.wf] using h
  exact e.2
theorem trod_bytes14 {H : Type} {enc : TypeId × Value → H} {w : World} {held : Bool} {fuel : Nat} {l : List Value} {y : DataW H × List MemPlace} (g : DataW.trod enc Tryz.prog w 0 (fun _ => true) held fuel 42 l = some y) : ∃ (A : Option Addr) (n c : Nat) (D : List UInt8), l = [.slice A n c] ∧ Reads w w.heap.size A n D ∧ n ≤ c ∧ c ≤ 9223372036854775807 ∧ (A = none → n = 0 ∧ c = 0) := by
  rcases Go.ChangeShapes.open_ints Tryz.underlying42 Tryz.underlying5 Tryz.cells_byte0 g with ⟨e2, _⟩ | ⟨a, len, cap, zs, e2, _, hl, hm, hz, _, hc, hw⟩
  · exact ⟨none, 0, 0, [], by simpa using e2, Reads.nil0, by omega, by omega, fun _ => ⟨rfl, rfl⟩⟩
  · obtain ⟨D, hr, h1, h2, h3⟩ := reads_of_row (a := some a) (len := len) (cap := cap) (zs := zs) (.inr ⟨a, rfl, hl, hm, by simpa using hz, hc, hw⟩)
    exact ⟨some a, len, cap, D, by simpa using e2, hr, h1, h2, h3⟩
theorem trod_nums14 {H : Type} {enc : TypeId × Value → H} {w : World} {held : Bool} {fuel : Nat} {l : List Value} {y : DataW H × List MemPlace} (g : DataW.trod enc Tryz.prog w 0 (fun _ => true) held fuel 45 l = some y) : ∃ (A : Option Addr) (n c : Nat) (Z : List Int), l = [.slice A n c] ∧ n ≤ c ∧ c ≤ 9223372036854775807 ∧ ReadsI w (fun b => b < w.heap.size) A n Z := by
  rcases Go.ChangeShapes.open_ints Tryz.underlying45 Tryz.underlying3 Tryz.cells_int0 g with ⟨e2, _⟩ | ⟨a, len, cap, zs, e2, _, hl, hm, hz, _, hc, hw⟩
  · exact ⟨none, 0, 0, [], by simpa using e2, by omega, by omega, rfl, fun h => by omega⟩
  · obtain ⟨Z, hz2, h4, h5, _⟩ := readsI_of_row (a := some a) (len := len) (cap := cap) (zs := zs) (.inr ⟨a, rfl, hl, hm, by simpa using hz, hc, hw⟩)
    exact ⟨some a, len, cap, Z, by simpa using e2, h4, h5, hz2⟩
set_option maxRecDepth 100000 in
theorem trod_ent14 {H : Type} {enc : TypeId × Value → H} {w : World} {held : Bool} {fuel : Nat} {l : List Value} {y : DataW H × List MemPlace} (hf : DataW.trod enc Tryz.prog w 0 (fun _ => true) held fuel 44 l = some y) :
    ∃ t K D A n c, l = entL t K (.slice A n c) ∧ EntIn w t K D A n c := by
  obtain ⟨xs, m, hn, hx, hlen, hxl, hg⟩ := DataW.trod_struct Tryz.underlying44 hf
  rw [Tryz.cells_ent] at hlen
  have hl34 : l.length = 34 := hlen
  have hxl3 : xs.length = 3 := hxl
  have hfx : ∀ (i : Nat) (hi : i < xs.length), xs[i]? = some xs[i] := fun i hi => List.getElem?_eq_getElem hi
  have g0 : DataW.trod enc Tryz.prog w 0 (fun _ => true) held m 3 (l.take 1) = some xs[0] := by
    have this : DataW.trod enc Tryz.prog w 0 (fun _ => true) held m 3 ((l.drop 0).take (Tryz.prog.cellsOf 3)) = some xs[0] := (hg 0 _ rfl).trans (hfx 0 (by omega))
    rw [Tryz.cells_int0] at this
    exact this
  have g1 : DataW.trod enc Tryz.prog w 0 (fun _ => true) held m 41 ((l.drop 1).take 32) = some xs[1] := by
    have this : DataW.trod enc Tryz.prog w 0 (fun _ => true) held m 41 ((l.drop 1).take (Tryz.prog.cellsOf 41)) = some xs[1] := (hg 1 _ rfl).trans (hfx 1 (by omega))
    rw [Tryz.cells_id] at this
    exact this
  have g2 : DataW.trod enc Tryz.prog w 0 (fun _ => true) held m 42 ((l.drop 33).take 1) = some xs[2] := by
    have this : DataW.trod enc Tryz.prog w 0 (fun _ => true) held m 42 ((l.drop 33).take (Tryz.prog.cellsOf 42)) = some xs[2] := (hg 2 _ rfl).trans (hfx 2 (by omega))
    rw [Tryz.cells_bytes0] at this
    exact this
  obtain ⟨t, e0, _, w0⟩ := DataW.trod_int Tryz.underlying3 g0
  obtain ⟨K, e1, hK⟩ := trod_id (by simp; omega) g1
  obtain ⟨A, n, c, D, e2, hr, h1, h2, h3⟩ := trod_bytes14 g2
  refine ⟨t, K, D, A, n, c, ?_, { key := hK, reads := hr, fit := h1, cap := h2, nil := h3 }⟩
  have s1 : l = l.take 1 ++ ((l.drop 1).take 32 ++ (l.drop 33).take 1) := by
    have a1 := (List.take_append_drop 1 l).symm
    have a2 := (List.take_append_drop 32 (l.drop 1)).symm
    rw [List.drop_drop] at a2
    have a3 : (l.drop 33).take 1 = l.drop 33 := List.take_of_length_le (by rw [List.length_drop]; omega)
    rw [a3]
    conv => lhs; rw [a1, a2]
  rw [s1, e1, e2]
  unfold entL
  have e0' : l.take 1 = [.int .i64 t] := by simpa using e0
  rw [e0']
  rfl
set_option maxRecDepth 100000 in
theorem trod_pl14 {H : Type} {enc : TypeId × Value → H} {w : World} {held : Bool} {fuel : Nat} {l : List Value} {y : DataW H × List MemPlace} (hf : DataW.trod enc Tryz.prog w 0 (fun _ => true) held fuel 39 l = some y) :
    ∃ x y z, l = [.int .i64 x, .int .i64 y, .int .i64 z] := by
  obtain ⟨xs, m, hn, hx, hlen, hxl, hg⟩ := DataW.trod_struct Tryz.underlying39 hf
  rw [Tryz.cells_place0] at hlen
  have hl7 : l.length = 3 := hlen
  have hxl7 : xs.length = 3 := hxl
  have hfx : ∀ (i : Nat) (hi : i < xs.length), xs[i]? = some xs[i] := fun i hi => List.getElem?_eq_getElem hi
  match l, hl7 with
  | [v0, v1, v2], _ =>
  have g0 : DataW.trod enc Tryz.prog w 0 (fun _ => true) held m 3 [v0] = some xs[0] := by
    have this : DataW.trod enc Tryz.prog w 0 (fun _ => true) held m 3 (([v0, v1, v2].drop 0).take (Tryz.prog.cellsOf 3)) = some xs[0] := (hg 0 _ rfl).trans (hfx 0 (by omega))
    rw [Tryz.cells_int0] at this
    exact this
  have g1 : DataW.trod enc Tryz.prog w 0 (fun _ => true) held m 3 [v1] = some xs[1] := by
    have this : DataW.trod enc Tryz.prog w 0 (fun _ => true) held m 3 (([v0, v1, v2].drop 1).take (Tryz.prog.cellsOf 3)) = some xs[1] := (hg 1 _ rfl).trans (hfx 1 (by omega))
    rw [Tryz.cells_int0] at this
    exact this
  have g2 : DataW.trod enc Tryz.prog w 0 (fun _ => true) held m 3 [v2] = some xs[2] := by
    have this : DataW.trod enc Tryz.prog w 0 (fun _ => true) held m 3 (([v0, v1, v2].drop 2).take (Tryz.prog.cellsOf 3)) = some xs[2] := (hg 2 _ rfl).trans (hfx 2 (by omega))
    rw [Tryz.cells_int0] at this
    exact this
  obtain ⟨x, e0, _, _⟩ := DataW.trod_int Tryz.underlying3 g0
  obtain ⟨y, e1, _, _⟩ := DataW.trod_int Tryz.underlying3 g1
  obtain ⟨z, e2, _, _⟩ := DataW.trod_int Tryz.underlying3 g2
  simp only [List.cons.injEq, and_true] at e0 e1 e2
  subst e0 e1 e2
  exact ⟨x, y, z, rfl⟩
set_option maxRecDepth 100000 in
theorem trod_do14 {H : Type} {enc : TypeId × Value → H} {w : World} {held : Bool} {fuel : Nat} {l : List Value} {y : DataW H × List MemPlace} (hf : DataW.trod enc Tryz.prog w 0 (fun _ => true) held fuel 47 l = some y) :
    ∃ x A n c A2 n2 c2, l = d14L x (.slice A n c) (.slice A2 n2 c2) ∧ EntIn w x.t x.K x.D A n c ∧ ReadsI w (fun b => b < w.heap.size) A2 n2 x.l ∧ (n2 ≤ c2 ∧ c2 ≤ 9223372036854775807) ∧ x.nn ≤ 9223372036854775807 := by
  obtain ⟨xs, m, hn, hx, hlen, hxl, hg⟩ := DataW.trod_struct Tryz.underlying47 hf
  rw [Tryz.cells_do14] at hlen
  have hl40 : l.length = 40 := hlen
  have hxl5 : xs.length = 5 := hxl
  have hfx : ∀ (i : Nat) (hi : i < xs.length), xs[i]? = some xs[i] := fun i hi => List.getElem?_eq_getElem hi
  have g0 : DataW.trod enc Tryz.prog w 0 (fun _ => true) held m 3 (l.take 1) = some xs[0] := by
    have this : DataW.trod enc Tryz.prog w 0 (fun _ => true) held m 3 ((l.drop 0).take (Tryz.prog.cellsOf 3)) = some xs[0] := (hg 0 _ rfl).trans (hfx 0 (by omega))
    rw [Tryz.cells_int0] at this
    exact this
  have g1 : DataW.trod enc Tryz.prog w 0 (fun _ => true) held m 44 ((l.drop 1).take 34) = some xs[1] := by
    have this : DataW.trod enc Tryz.prog w 0 (fun _ => true) held m 44 ((l.drop 1).take (Tryz.prog.cellsOf 44)) = some xs[1] := (hg 1 _ rfl).trans (hfx 1 (by omega))
    rw [Tryz.cells_ent] at this
    exact this
  have g2 : DataW.trod enc Tryz.prog w 0 (fun _ => true) held m 3 ((l.drop 35).take 1) = some xs[2] := by
    have this : DataW.trod enc Tryz.prog w 0 (fun _ => true) held m 3 ((l.drop 35).take (Tryz.prog.cellsOf 3)) = some xs[2] := (hg 2 _ rfl).trans (hfx 2 (by omega))
    rw [Tryz.cells_int0] at this
    exact this
  have g3 : DataW.trod enc Tryz.prog w 0 (fun _ => true) held m 39 ((l.drop 36).take 3) = some xs[3] := by
    have this : DataW.trod enc Tryz.prog w 0 (fun _ => true) held m 39 ((l.drop 36).take (Tryz.prog.cellsOf 39)) = some xs[3] := (hg 3 _ rfl).trans (hfx 3 (by omega))
    rw [Tryz.cells_place0] at this
    exact this
  have g4 : DataW.trod enc Tryz.prog w 0 (fun _ => true) held m 45 ((l.drop 39).take 1) = some xs[4] := by
    have this : DataW.trod enc Tryz.prog w 0 (fun _ => true) held m 45 ((l.drop 39).take (Tryz.prog.cellsOf 45)) = some xs[4] := (hg 4 _ rfl).trans (hfx 4 (by omega))
    rw [Tryz.cells_ints14] at this
    exact this
  obtain ⟨k, e0, _, _⟩ := DataW.trod_int Tryz.underlying3 g0
  obtain ⟨t, K, D, A, n, c, e1, hE⟩ := trod_ent14 g1
  obtain ⟨nn, e2, _, zn⟩ := DataW.trod_int Tryz.underlying3 g2
  obtain ⟨pa, pb, pc, e3⟩ := trod_pl14 g3
  obtain ⟨A2, n2, c2, Z, e4, h4, h5, h6⟩ := trod_nums14 g4
  refine ⟨⟨k, t, K, D, nn, pa, pb, pc, Z⟩, A, n, c, A2, n2, c2, ?_, hE, h6, ⟨h4, h5⟩, nn14 zn⟩
  have s1 : l = l.take 1 ++ ((l.drop 1).take 34 ++ ((l.drop 35).take 1 ++ ((l.drop 36).take 3 ++ (l.drop 39).take 1))) := by
    have a1 := (List.take_append_drop 1 l).symm
    have a2 := (List.take_append_drop 34 (l.drop 1)).symm
    have a3 := (List.take_append_drop 1 (l.drop 35)).symm
    have a4 := (List.take_append_drop 3 (l.drop 36)).symm
    rw [List.drop_drop] at a2 a3 a4
    have a5 : (l.drop 39).take 1 = l.drop 39 := List.take_of_length_le (by rw [List.length_drop]; omega)
    rw [a5]
    conv => lhs; rw [a1, a2, a3, a4]
  have e0' : l.take 1 = [.int .i64 k] := by simpa using e0
  have e2' : (l.drop 35).take 1 = [.int .i64 nn] := by simpa using e2
  rw [s1, e0', e1, e2', e3, e4]
  rfl
/-- A slice of calls upon a log that came in. -/
structure Do14Row (w : World) (A : Option Addr) (n c : Nat) (L : List C14) : Prop where
  ins : D14In w w.heap.size A L
  len : L.length = n
  fit : n ≤ c
  cap : c ≤ 9223372036854775807
theorem list_of_each14 {α : Type} {n : Nat} {P : Nat → α → Prop} (h : ∀ i, i < n → ∃ x, P i x) : ∃ L : List α, L.length = n ∧ ∀ i x, L[i]? = some x → P i x := by
  induction n with
  | zero => exact ⟨[], rfl, fun i x hx => by simp at hx⟩
  | succ n ih =>
    obtain ⟨L, hL, hP⟩ := ih (fun i hi => h i (by omega))
    obtain ⟨x, hx⟩ := h n (by omega)
    refine ⟨L ++ [x], by simp [hL], fun i y hy => ?_⟩
    by_cases hi : i < n
    · rw [List.getElem?_append_left (by omega)] at hy
      exact hP i y hy
    · rw [List.getElem?_append_right (by omega)] at hy
      have hi' : i - L.length = 0 := by
        rcases Nat.eq_zero_or_pos (i - L.length) with h0 | h0
        · exact h0
        · rw [List.getElem?_eq_none (by simp; omega)] at hy; cases hy
      rw [hi'] at hy
      simp only [List.getElem?_cons_zero, Option.some.injEq] at hy
      subst hy
      obtain rfl : i = n := by omega
      exact hx
set_option maxRecDepth 100000 in
theorem open_do14 {H : Type} {enc : TypeId × Value → H} {w : World} {held : Bool} {fuel : Nat} {cs : List Value} {y : DataW H × List MemPlace} (hf : DataW.trod enc Tryz.prog w 0 (fun _ => true) held fuel 22 cs = some y) :
    ∃ A n c L, cs = [.slice A n c] ∧ Do14Row w A n c L := by
  rcases DataW.trod_slice Tryz.underlying22 hf with ⟨e, _⟩ | ⟨a, len, cap, elems, rest, m, _, e, _, _, hl, hm, hel, hi, _, _⟩
  · exact ⟨none, 0, 0, [], e, { ins := fun i x hx => by simp at hx, len := rfl, fit := Nat.le_refl _, cap := by omega }⟩
  · have each : ∀ i, i < len → ∃ x : C14, ∃ b o A' n c A2 n2 c2, (some a : Option Addr) = some ⟨b, o, none⟩ ∧ D14Row w w.heap.size b (o + i * 40) x A' n c A2 n2 c2 := fun i hlt => by
      have h1 := hi i hlt
      rw [List.getElem?_eq_getElem (by omega), Tryz.cells_do14, Option.bind_eq_some_iff] at h1
      obtain ⟨l, hl1, hl2⟩ := h1
      obtain ⟨x, A', n, c, A2, n2, c2, rfl, hE, r4, r5, r8⟩ := trod_do14 hl2
      have hc := World.cells?_some hl1
      have hcell : ∀ j u, (d14L x (.slice A' n c) (.slice A2 n2 c2))[j]? = some u → w.cell? ((a.add (i * 40)).add j) = some u := fun j u hj => by
        have hlt2 : j < 40 := by rw [← d14L_len x (.slice A' n c) (.slice A2 n2 c2) hE.key]; exact (List.getElem?_eq_some_iff.1 hj).1
        first
          | exact (hc.2.2 j hlt2).trans hj
          | exact (hc.2 j hlt2).trans hj
          | exact (hc j hlt2).trans hj
      obtain ⟨b, o, sp⟩ := a
      have hsp : sp = none := by
        have h00 := hi 0 (by omega)
        rw [List.getElem?_eq_getElem (by omega), Tryz.cells_do14, Option.bind_eq_some_iff] at h00
        obtain ⟨l0, q1, _⟩ := h00
        obtain ⟨_, q2, q3⟩ := World.cells?_some q1
        have q4 := q3 0 (by omega)
        rw [List.getElem?_eq_getElem (by omega)] at q4
        simpa [Addr.add] using World.cell?_spot q4
      subst hsp
      refine ⟨x, b, o, A', n, c, A2, n2, c2, rfl, { key := hE.key, at_ := fun j u hj => ?_, rd := hE.reads, le := ⟨hE.fit, hE.cap⟩, nil := hE.nil, rd2 := r4, le2 := r5, nr := r8 }⟩
      have h := hcell j u hj
      rw [Addr.add_lit, Addr.add_lit] at h
      exact h
    obtain ⟨L, hL, hP⟩ := list_of_each14 each
    exact ⟨some a, len, cap, L, e, { ins := hP, len := hL, fit := hl, cap := by unfold maxLen at hm; omega }⟩
end Go.Proofs.YtfneloobfidckaaGreatDoor

/- The document's own Within. It proves no statement. -/








namespace Go.Proofs.YtfneloobfidckaaGreatDoor
open Go.RowKit
set_option linter.unusedVariables false
set_option linter.unusedSimpArgs false

theorem within_lo (x lo hi : Int) (w : World) (h : x < lo) :
    Calls Tryz.prog 15 #[.int .i64 x, .int .i64 lo, .int .i64 hi] w fun e w' => e = .returned (.int .i64 lo) ∧ w = w' := by
  go_enter Tryz.func15, Tryz.ntmps15
  go_wp2
  go_ret
  exact ⟨rfl, rfl⟩
theorem within_hi (x lo hi : Int) (w : World) (h1 : lo ≤ x) (h : hi < x) :
    Calls Tryz.prog 15 #[.int .i64 x, .int .i64 lo, .int .i64 hi] w fun e w' => e = .returned (.int .i64 hi) ∧ w = w' := by
  go_enter Tryz.func15, Tryz.ntmps15
  go_wp2
  go_ret
  exact ⟨rfl, rfl⟩
theorem within_in (x lo hi : Int) (w : World) (h1 : lo ≤ x) (h : x ≤ hi) :
    Calls Tryz.prog 15 #[.int .i64 x, .int .i64 lo, .int .i64 hi] w fun e w' => e = .returned (.int .i64 x) ∧ w = w' := by
  go_enter Tryz.func15, Tryz.ntmps15
  go_wp2
  go_ret
  exact ⟨rfl, rfl⟩
/-- A number between two others. -/
theorem within_any (x lo hi : Int) (w : World) (hh : lo ≤ hi) :
    Calls Tryz.prog 15 #[.int .i64 x, .int .i64 lo, .int .i64 hi] w fun e w' => (∃ y : Int, lo ≤ y ∧ y ≤ hi ∧ e = .returned (.int .i64 y)) ∧ w = w' := by
  by_cases h1 : x < lo
  · exact (within_lo x lo hi w h1).mono fun e w' ⟨he, hw⟩ => ⟨⟨lo, by omega, hh, he⟩, hw⟩
  · by_cases h2 : hi < x
    · exact (within_hi x lo hi w (by omega) h2).mono fun e w' ⟨he, hw⟩ => ⟨⟨hi, hh, by omega, he⟩, hw⟩
    · exact (within_in x lo hi w (by omega) (by omega)).mono fun e w' ⟨he, hw⟩ => ⟨⟨x, by omega, by omega, he⟩, hw⟩

theorem within_nat (x hi : Nat) (w : World) :
    Calls Tryz.prog 15 #[.int .i64 x, .int .i64 0, .int .i64 hi] w fun e w' => e = .returned (.int .i64 (min x hi : Nat)) ∧ w = w' := by
  by_cases h2 : hi < x
  · rw [show min x hi = hi by omega]
    exact within_hi x 0 hi w (by omega) (by omega)
  · rw [show min x hi = x by omega]
    exact within_in x 0 hi w (by omega) (by omega)

end Go.Proofs.YtfneloobfidckaaGreatDoor

/- Contract: a medium's Room. It proves no statement. -/


namespace Go.Proofs.YtfneloobfidckaaGreatDoor
open Go.RowKit Go.Maps Go.WideMaps Go.Sort
set_option linter.unusedVariables false
set_option linter.unusedSimpArgs false

theorem room_M {w : World} {base g : Nat} {own : Own} {M : Me} (h : MedI w base own g M) :
    Calls Tryz.prog 51 #[.pointer (some ⟨g, 0, none⟩)] w fun e w' => e = .returned (.int .i64 M.room) ∧ w = w' := by
  obtain ⟨bn, bf, wv, ns, nn, nf, d1, d2, _⟩ := h.dir
  have c0 : w.cell? ⟨g, 0, none⟩ = some (.int .i64 M.room) := Blk.cell d1 0
  obtain ⟨r, hr⟩ : ∃ r, r = M.room := ⟨_, rfl⟩
  rw [← hr] at c0 ⊢
  clear hr d1 d2 h
  go_enter Tryz.func51, Tryz.ntmps51
  go_wp2_with fail
  go_ret
  exact ⟨rfl, rfl⟩
end Go.Proofs.YtfneloobfidckaaGreatDoor

/- Contract: hoardref01.Same of whatever bytes. It proves no statement. -/

namespace Go.Proofs.YtfneloobfidckaaGreatDoor
open Go.RowKit
set_option linter.unusedVariables false
set_option linter.unusedSimpArgs false

theorem bytes_ext (l l' : List UInt8) (hl : l.length = l'.length) (h : ∀ i, i < l.length → l.getD i 0 = l'.getD i 0) : l = l' := by
  apply List.ext_getElem hl
  intro i h1 h2
  have := h i h1
  simpa [List.getD, h1, h2] using this

set_option maxRecDepth 100000 in
set_option maxHeartbeats 1600000 in
theorem same_quiet (A A' : Option Addr) (n n' c c' : Nat) (l l' : List UInt8) (w : World) (B B' : Nat) (h : Reads w B A n l) (h' : Reads w B' A' n' l') (hn : n ≤ 70368744177664) (hn' : n' ≤ 70368744177664) :
    Calls Tryz.prog 52 #[.slice A n c, .slice A' n' c'] w fun e w' => e = .returned (.bool (decide (l = l'))) ∧ ∃ m, w' = w.drewN m := by
  have h1 := h.1
  have h2 := h'.1
  by_cases hlen : n = n'
  · subst hlen
    obtain ⟨q, hq⟩ : ∃ q, q = decide (l = l') := ⟨_, rfl⟩
    rw [← hq]
    have HQ := Lib.hid hq
    have HL := Lib.hid (⟨h1, h2⟩ : l.length = n ∧ l'.length = n)
    have HH := Lib.hid h
    have HH' := Lib.hid h'
    have d3 : (n : Int) ≤ 70368744177664 := by omega
    clear hq h1 h2 h h' hn hn'
    go_enter Tryz.func52, Tryz.ntmps52
    go_wp2_with fail
    go_loopw [5] (fun iv wr => ∃ k : Nat, k ≤ n ∧ iv = .int .i64 k ∧ Hid ((∀ i, i < k → l.getD i 0 = l'.getD i 0) ∧ ∃ m, wr = w.drewN m)) (fun iv _ => n - (intOf iv).toNat)
    case atStart => exact ⟨0, Nat.zero_le _, rfl, fun i hi => by omega, 0, rfl⟩
    case round =>
      obtain ⟨k, hk, rfl, hin⟩ := hrel
      obtain ⟨mm, hwm⟩ := hin.out.2
      have st : Still w wr := by rw [hwm]; exact still_drewN (Still.refl w) mm
      have hkeep : Reads wr B A n l ∧ Reads wr B' A' n l' := by
        rw [hwm]
        exact ⟨HH.out.keep fun _ _ => rfl, HH'.out.keep fun _ _ => rfl⟩
      have ST := Lib.hid st
      have HWM := Lib.hid hwm
      clear hwm st
      by_cases hlt : k < n
      · obtain ⟨b, o, rfl, hb, hc⟩ := hkeep.1.at_ (by omega)
        obtain ⟨b', o', rfl, hb', hc'⟩ := hkeep.2.at_ (by omega)
        have c1 := hc k hlt
        have c2 := hc' k hlt
        obtain ⟨y, hy⟩ : ∃ y, y = l.getD k 0 := ⟨_, rfl⟩
        obtain ⟨y', hy'⟩ : ∃ y, y = l'.getD k 0 := ⟨_, rfl⟩
        rw [← hy] at c1
        rw [← hy'] at c2
        have HY := Lib.hid hy
        have HY' := Lib.hid hy'
        have HLT := Lib.hid hlt
        have z1 : (0 : Int) ≤ (k : Int) := by omega
        have z2 : (k : Int) < (n : Int) := by omega
        clear hc hc' hb hb' hy hy' hlt hkeep
        by_cases hyy : y = y'
        · subst hyy
          generalize y.toNat = yy at *
          go_wp2_with fail
          go_quiet (fail)
          go_wp2_with fail
          go_roundw
          case rel =>
            refine ⟨k + 1, by have := HLT.out; omega, by go_num, Lib.hid ⟨fun i hi => ?_, mm + nq, ?_⟩⟩
            · by_cases h : i = k
              · rw [h, ← HY.out, ← HY'.out]
              · exact hin.out.1 i (by omega)
            · rw [HWM.out, World.drewN_drewN]
          case measure => simp [intOf]; have := HLT.out; omega
        · have hne : ¬ y.toNat = y'.toNat := fun e => hyy (UInt8.toNat_inj.1 e)
          have hq : q = false := by
            rw [HQ.out]
            simp only [decide_eq_false_iff_not]
            intro e
            exact hyy (by rw [HY.out, HY'.out, e])
          have HNE := Lib.hid hq
          have hni : (((y.toNat : Nat) : Int) == ((y'.toNat : Nat) : Int)) = false := by
            rw [beq_eq_false_iff_ne]
            omega
          have hni2 : (((y.toNat : Nat) : Int) != ((y'.toNat : Nat) : Int)) = true := by rw [bne_iff_ne]; omega
          generalize y.toNat = yy at *
          generalize y'.toNat = yy' at *
          clear hyy hq hne
          go_wp2_with fail
          go_quiet (fail)
          go_wp2_with fail
          (try simp only [Exit.inBlock, Exit.then])
          go_ret
          rw [HNE.out]
          exact ⟨rfl, mm + nq, by rw [HWM.out, World.drewN_drewN]⟩
      · obtain rfl : k = n := by omega
        have hq : q = true := by
          rw [HQ.out]
          simp only [decide_eq_true_eq]
          exact bytes_ext _ _ (HL.out.1.trans HL.out.2.symm) fun i hi => hin.out.1 i (by have := HL.out.1; omega)
        have HNE := Lib.hid hq
        clear hq hlt hkeep
        go_wp2_with fail
        go_ret
        rw [HNE.out]
        exact ⟨rfl, mm, HWM.out⟩
  · have hne : ¬ l = l' := fun e => hlen (by rw [← h1, ← h2, e])
    rw [show decide (l = l') = false by simpa using hne]
    have d : ((n : Int) != (n' : Int)) = true := by simp; omega
    clear hne hlen h h' h1 h2 hn hn'
    go_enter Tryz.func52, Tryz.ntmps52
    go_wp2_with fail
    (try simp only [Exit.inBlock, Exit.then])
    go_ret
    exact ⟨rfl, 0, rfl⟩
/-- The same, told as nothing that was there turns. -/
theorem same_any (A A' : Option Addr) (n n' c c' : Nat) (l l' : List UInt8) (w : World) (B B' : Nat) (h : Reads w B A n l) (h' : Reads w B' A' n' l') (hn : n ≤ 70368744177664) (hn' : n' ≤ 70368744177664) :
    Calls Tryz.prog 52 #[.slice A n c, .slice A' n' c'] w fun e w' => e = .returned (.bool (decide (l = l'))) ∧ Still w w' :=
  (same_quiet A A' n n' c c' l l' w B B' h h' hn hn').mono fun e w' ⟨he, m, hw⟩ => ⟨he, hw ▸ still_drewN (Still.refl w) m⟩
end Go.Proofs.YtfneloobfidckaaGreatDoor

/- Rows of slices of bytes that grow. It proves no statement. -/



namespace Go.Proofs.YtfneloobfidckaaGreatDoor
open Go.RowKit
set_option linter.unusedVariables false
set_option linter.unusedSimpArgs false
set_option maxRecDepth 100000 in
theorem fill_B (A : Option Addr) (n c : Nat) : Instr.fill (fun i => some (i * 1, 1)) ((Array.range (1 * 1)).map ((Value.slice none 0 0).cells[· % (Value.slice none 0 0).cells.size]!)) [(0, .slice A n c)] = some #[.slice A n c] := by kernel_rfl

theorem Tryz.infoB : (Tryz.prog.info? 42).map (fun i => (i.zero, i.size, i.bytes)) = some (some (.slice none 0 0), 1, 24) := by kernel_rfl
theorem run_moreB (w : World) (ty : TypeId) (base : Nat) (v : Value) (n : Nat) (xs : List Value) (hown : w.ownsRow base 42 1 v n xs) (A : Option Addr) (m c : Nat) (ys : List Value)
    (hl : ys.length = m) (hA : A = none → m = 0 ∧ c = 0) (hr : ∀ ad, A = some ad → ∀ j u, ys[j]? = some u → w.cell? (ad.add j) = some u) (h1 : ∀ u ∈ ys, u.oneCell' = true) (hn : n + m ≤ 1048576) (hbase : base ≤ w.heap.size) :
    ∃ v' w', (Builtin.append_ #[88, 88] ty #[v, .slice A m c]).run Tryz.prog w = .ok v' w' ∧ w'.ownsRow base 42 1 v' (n + m) (xs ++ ys) ∧ w.grownBy w' v.ownBlock ∧ (v'.ownBlock = v.ownBlock ∨ v'.ownBlock = some w.heap.size) := by
  obtain ⟨i0, hi, hz0, hz1, hz2⟩ := info_parts Tryz.infoB
  rcases A with _ | ad
  · obtain ⟨rfl, rfl⟩ := hA rfl
    obtain rfl := List.eq_nil_of_length_eq_zero hl
    exact ⟨v, w, run_append_owned_none (P := Tryz.prog) w base 88 ty 42 i0 1 Tryz.underlying88 hi v n _ hown, by simpa using hown, World.grownBy.refl _ _, .inl rfl⟩
  · obtain ⟨v', w', hrun, h2, h3, _, h5⟩ := run_append_own_at (P := Tryz.prog) w base 88 ty 42 i0 _ 1 24 Tryz.underlying88 hi hz0 hz1 hz2 rfl (by decide) v n xs hown ad m c ys (by rw [hl, Nat.mul_one]) (hr ad rfl) h1 (by unfold maxLen; omega) (by omega) hbase
    exact ⟨v', w', hrun, h2, h3, h5⟩
theorem step_moreB (w : World) {o : Oper} {a : Act} {K : Act → World → Prop} {Q : Exit → Act → World → Prop} (s x : Operand)
    (ho : o.op = .call { callee := .builtin .append, args := #[s, x], argTypes := #[88, 88] })
    (base : Nat) (v : Value) (n : Nat) (xs : List Value) (hs : a.eval s = v) (hown : w.ownsRow base 42 1 v n xs) (A : Option Addr) (m c : Nat) (ys : List Value) (hx : a.eval x = .slice A m c)
    (hl : ys.length = m) (hA : A = none → m = 0 ∧ c = 0) (hr : ∀ ad, A = some ad → ∀ j u, ys[j]? = some u → w.cell? (ad.add j) = some u) (h1 : ∀ u ∈ ys, u.oneCell' = true) (hn : n + m ≤ 1048576) (hbase : base ≤ w.heap.size)
    (h : ∀ v' w', w'.ownsRow base 42 1 v' (n + m) (xs ++ ys) → w.grownBy w' v.ownBlock → (v'.ownBlock = v.ownBlock ∨ v'.ownBlock = some w.heap.size) → K (a.put o.dst v') w') :
    o.wp Tryz.prog a w K Q := by
  obtain ⟨v', w', hrun, h2, h3, h5⟩ := run_moreB w o.type base v n xs hown A m c ys hl hA hr h1 hn hbase
  unfold Oper.wp execOp
  simp only [ho, resolve, invoke, builtin, Sem.run_bind, Sem.run_pure, Result.andThen_ok, List.map_toArray, List.map_cons, List.map_nil, hs, hx, hrun]
  exact h v' w' h2 h3 h5
theorem wpList_moreB (w : World) {ops : Array Oper} {rest : List Oper} {o : Oper} {a : Act} {Q : Exit → Act → World → Prop} (hgd : o.guard = none) (s x : Operand)
    (ho : o.op = .call { callee := .builtin .append, args := #[s, x], argTypes := #[88, 88] })
    (base : Nat) (v : Value) (n : Nat) (xs : List Value) (hs : a.eval s = v) (hown : w.ownsRow base 42 1 v n xs) (A : Option Addr) (m c : Nat) (ys : List Value) (hx : a.eval x = .slice A m c)
    (hl : ys.length = m) (hA : A = none → m = 0 ∧ c = 0) (hr : ∀ ad, A = some ad → ∀ j u, ys[j]? = some u → w.cell? (ad.add j) = some u) (h1 : ∀ u ∈ ys, u.oneCell' = true) (hn : n + m ≤ 1048576) (hbase : base ≤ w.heap.size)
    (h : ∀ v' w', w'.ownsRow base 42 1 v' (n + m) (xs ++ ys) → w.grownBy w' v.ownBlock → (v'.ownBlock = v.ownBlock ∨ v'.ownBlock = some w.heap.size) → wpList Tryz.prog ops Q rest (a.put o.dst v') w') :
    wpList Tryz.prog ops Q (o :: rest) a w :=
  wpList_plain hgd fun _ hQ => step_moreB w s x ho base v n xs hs hown A m c ys hx hl hA hr h1 hn hbase fun v' w' h2 h3 h5 => hQ _ _ (h v' w' h2 h3 h5)
/-- The same for one thing in a box of its own. -/
theorem wpList_oneB (w : World) {ops : Array Oper} {rest : List Oper} {o : Oper} {a : Act} {Q : Exit → Act → World → Prop} (hgd : o.guard = none) (s x : Operand)
    (ho : o.op = .call { callee := .builtin .append, args := #[s, x], argTypes := #[88, 88] })
    (base : Nat) (v : Value) (n : Nat) (xs : List Value) (hs : a.eval s = v) (hown : w.ownsRow base 42 1 v n xs) (u : Value) (h1 : u.oneCell' = true)
    (hx : a.eval x = .slice (some ⟨w.heap.size, 0, none⟩) 1 1) (hn : n < 1048576) (hbase : base ≤ w.heap.size)
    (h : ∀ v' w', w'.ownsRow base 42 1 v' (n + 1) (xs ++ [u]) → w.grownBy w' v.ownBlock → (v'.ownBlock = v.ownBlock ∨ v'.ownBlock = some (w.heap.size + 1)) → wpList Tryz.prog ops Q rest (a.put o.dst v') w') :
    wpList Tryz.prog ops Q (o :: rest) a (w.alloc (.cells #[u] 42)) := by
  refine wpList_moreB _ hgd s x ho base v n xs hs (hown.alloc _) _ 1 1 [u] hx rfl (fun e => by cases e) (fun ad e j y hy => ?_) (fun y hy => by simp only [List.mem_singleton] at hy; subst hy; exact h1) (by omega) (by simp; omega) ?_
  · obtain rfl := Option.some.inj e
    rcases j with _ | j
    · simp only [List.getElem?_cons_zero, Option.some.injEq] at hy
      subst hy
      rw [Addr.add_lit]
      exact (Blk.new w 42 #[u]).cell 0
    · simp at hy
  · intro v' w' h2 h3 h5
    refine h v' w' h2 ⟨h3.os, h3.tape, h3.output, by have := h3.size; simp at this; omega, fun k hk hne => ?_⟩ (by simpa using h5)
    rw [h3.block k (by simp; omega) hne]
    exact Below.heap_alloc w _ k hk
theorem step_boxB (w : World) {o : Oper} {a : Act} {K' : Act → World → Prop} {Q : Exit → Act → World → Prop} (x : Operand)
    (ho : o.op = .buildSlice 88 1 #[(0, x)]) (A : Option Addr) (n c : Nat) (hx : a.eval x = .slice A n c)
    (h : K' (a.put o.dst (.slice (some ⟨w.heap.size, 0, none⟩) 1 1)) (w.alloc (.cells #[.slice A n c] 42))) : o.wp Tryz.prog a w K' Q := by
  obtain ⟨i0, hi, hz0, hz1, hz2⟩ := info_parts Tryz.infoB
  refine wp_buildSlice 88 42 1 #[(0, x)] ho #[.slice A n c] i0 _ Tryz.underlying88 hi hz0 (by rw [hz1]; decide) (by rw [hz1]; decide) ?_ h
  rw [hz1]
  simp only [List.map_toArray, List.map_cons, List.map_nil, hx]
  exact fill_B A n c
theorem wpList_boxB (w : World) {ops : Array Oper} {rest : List Oper} {o : Oper} {a : Act} {Q : Exit → Act → World → Prop} (hgd : o.guard = none) (x : Operand)
    (ho : o.op = .buildSlice 88 1 #[(0, x)]) (A : Option Addr) (n c : Nat) (hx : a.eval x = .slice A n c)
    (h : wpList Tryz.prog ops Q rest (a.put o.dst (.slice (some ⟨w.heap.size, 0, none⟩) 1 1)) (w.alloc (.cells #[.slice A n c] 42))) : wpList Tryz.prog ops Q (o :: rest) a w :=
  wpList_plain hgd fun _ hQ => step_boxB w x ho A n c hx (hQ _ _ h)
end Go.Proofs.YtfneloobfidckaaGreatDoor
