/- Contracts and facts, several texts in one. It proves no statement. -/
import Derived.Test.YtljacdbdjacbkaaGreatDoorSnzf
import Derived.Test.YtljacdbdjacbkaaGreatDoorSnzb
import Derived.ChangeSlices
import Derived.ChangeSame
import Derived.ChangeArms

/- An entry that came in, opened. It proves no statement. -/





namespace Go.Proofs.YtljacdbdjacbkaaGreatDoor
open Go.RowKit
set_option linter.unusedVariables false
set_option linter.unusedSimpArgs false

theorem Tryz.cells_ent : Tryz.prog.cellsOf 44 = 34 := by kernel_rfl
theorem Tryz.cells_id : Tryz.prog.cellsOf 41 = 32 := by kernel_rfl
theorem Tryz.cells_int0 : Tryz.prog.cellsOf 3 = 1 := by kernel_rfl
theorem Tryz.cells_bytes0 : Tryz.prog.cellsOf 42 = 1 := by kernel_rfl
theorem Tryz.cells_byte0 : Tryz.prog.cellsOf 5 = 1 := by kernel_rfl
/-- An entry that came in: its tag, its key, its data. -/
structure EntIn (w : World) (t : Int) (K D : List UInt8) (A : Option Addr) (n c : Nat) : Prop where
  key : K.length = 32
  reads : Reads w w.heap.size A n D
  fit : n ≤ c
  cap : c ≤ 9223372036854775807
  nil : A = none → n = 0 ∧ c = 0
theorem trod_id {H : Type} {enc : TypeId × Value → H} {w : World} {base : Nat} {spare : Nat → Bool} {held : Bool} {fuel : Nat} {cs : List Value} {y : DataW H × List MemPlace} (hcl : cs.length = 32)
    (hf : DataW.trod enc Tryz.prog w base spare held fuel 41 cs = some y) : ∃ l : List UInt8, cs = bytesV l ∧ l.length = 32 := by
  obtain ⟨xs, m, _, _, hl, hxl, hat⟩ := DataW.trod_array under32 hf
  have hone : ∀ i (h : i < cs.length), ∃ b : UInt8, cs[i] = .int .u8 (b.toNat : Int) := fun i h => by
    have h1 := hat i (by omega)
    rw [Tryz.cells_byte0] at h1
    have hd : ((cs.drop (i * 1)).take 1) = [cs[i]] := by
      rw [Nat.mul_one, List.drop_eq_getElem_cons h]; rfl
    rw [hd, List.getElem?_eq_getElem (by omega)] at h1
    obtain ⟨a, ha, _, hw⟩ := DataW.trod_int Tryz.underlying5 h1
    have hb := bounds_u8 hw
    simp only [List.cons.injEq, and_true] at ha
    exact ⟨UInt8.ofNat a.toNat, by rw [ha, UInt8.toNat_ofNat']; congr 1; omega⟩
  refine ⟨cs.map fun v => match v with | .int _ a => UInt8.ofNat a.toNat | _ => 0, ?_, by simp [hcl]⟩
  unfold bytesV
  rw [List.map_map]
  apply List.ext_getElem (by simp)
  intro i h1 h2
  obtain ⟨b, hb⟩ := hone i h1
  rw [List.getElem_map]
  simp [hb]
set_option maxRecDepth 100000 in
theorem open_ent {H : Type} {enc : TypeId × Value → H} {w : World} {r : Reach} {b0 : Nat} {held : Bool} {v : Value} {d : DataW H} {p : List MemPlace} (hv : Value.okWide Tryz.prog w r b0 44 v) (h : DataW.Trod enc Tryz.prog w 0 (fun _ => true) held 44 v d p) :
    ∃ t K D A n c, v = .agg (entV t K (.slice A n c)) ∧ EntIn w t K D A n c := by
  obtain ⟨cs, rfl, hsz⟩ := Go.WideShapes.okWide_struct Tryz.underlying44 hv
  obtain ⟨l⟩ := cs
  obtain ⟨fuel, hf⟩ := h
  obtain ⟨xs, m, hn, hx, hlen, hxl, hg⟩ := DataW.trod_struct Tryz.underlying44 hf
  rw [Tryz.cells_ent] at hlen
  simp only [Value.cells] at hlen hg
  have hl34 : l.length = 34 := hlen
  have hxl3 : xs.length = 3 := hxl
  have hfx : ∀ (i : Nat) (hi : i < xs.length), xs[i]? = some xs[i] := fun i hi => List.getElem?_eq_getElem hi
  have g0 : DataW.trod enc Tryz.prog w 0 (fun _ => true) held m 3 (l.take 1) = some xs[0] := by
    have this : DataW.trod enc Tryz.prog w 0 (fun _ => true) held m 3 ((l.drop 0).take (Tryz.prog.cellsOf 3)) = some xs[0] := (hg 0 _ rfl).trans (hfx 0 (by omega))
    rw [Tryz.cells_int0] at this
    exact this
  have g1 : DataW.trod enc Tryz.prog w 0 (fun _ => true) held m 41 ((l.drop 1).take 32) = some xs[1] := by
    have this : DataW.trod enc Tryz.prog w 0 (fun _ => true) held m 41 ((l.drop 1).take (Tryz.prog.cellsOf 41)) = some xs[1] := (hg 1 _ rfl).trans (hfx 1 (by omega))
    rw [Tryz.cells_id] at this
    exact this
  have g2 : DataW.trod enc Tryz.prog w 0 (fun _ => true) held m 42 ((l.drop 33).take 1) = some xs[2] := by
    have this : DataW.trod enc Tryz.prog w 0 (fun _ => true) held m 42 ((l.drop 33).take (Tryz.prog.cellsOf 42)) = some xs[2] := (hg 2 _ rfl).trans (hfx 2 (by omega))
    rw [Tryz.cells_bytes0] at this
    exact this
  obtain ⟨t, e0, _, w0⟩ := DataW.trod_int Tryz.underlying3 g0
  obtain ⟨K, e1, hK⟩ := trod_id (by simp; omega) g1
  have hb : ∃ (A : Option Addr) (n c : Nat) (D : List UInt8), (l.drop 33).take 1 = [.slice A n c] ∧ Reads w w.heap.size A n D ∧ n ≤ c ∧ c ≤ 9223372036854775807 ∧ (A = none → n = 0 ∧ c = 0) := by
    rcases Go.ChangeShapes.open_ints Tryz.underlying42 Tryz.underlying5 Tryz.cells_byte0 g2 with ⟨e2, _⟩ | ⟨a, len, cap, zs, e2, _, hl, hm, hz, _, hc, hw⟩
    · exact ⟨none, 0, 0, [], by simpa using e2, Reads.nil0, by omega, by omega, fun _ => ⟨rfl, rfl⟩⟩
    · obtain ⟨D, hr, h1, h2, h3⟩ := reads_of_row (a := some a) (len := len) (cap := cap) (zs := zs) (.inr ⟨a, rfl, hl, hm, by simpa using hz, hc, hw⟩)
      exact ⟨some a, len, cap, D, by simpa using e2, hr, h1, h2, h3⟩
  obtain ⟨A, n, c, D, e2, hr, h1, h2, h3⟩ := hb
  refine ⟨t, K, D, A, n, c, ?_, { key := hK, reads := hr, fit := h1, cap := h2, nil := h3 }⟩
  have el : l = entL t K (.slice A n c) := by
    have s1 : l = l.take 1 ++ ((l.drop 1).take 32 ++ (l.drop 33).take 1) := by
      have a1 := (List.take_append_drop 1 l).symm
      have a2 := (List.take_append_drop 32 (l.drop 1)).symm
      rw [List.drop_drop] at a2
      have a3 : (l.drop 33).take 1 = l.drop 33 := List.take_of_length_le (by rw [List.length_drop]; omega)
      rw [a3]
      conv => lhs; rw [a1, a2]
    rw [s1, e1, e2]
    unfold entL
    have e0' : l.take 1 = [.int .i64 t] := by simpa using e0
    rw [e0']
    rfl
  unfold entV
  rw [el]
end Go.Proofs.YtljacdbdjacbkaaGreatDoor

/- A place that came in, opened. It proves no statement. -/

namespace Go.Proofs.YtljacdbdjacbkaaGreatDoor
open Go.RowKit
set_option linter.unusedVariables false
set_option linter.unusedSimpArgs false

theorem Tryz.cells_place0 : Tryz.prog.cellsOf 39 = 3 := by kernel_rfl
set_option maxRecDepth 100000 in
theorem open_place {H : Type} {enc : TypeId × Value → H} {w : World} {r : Reach} {b0 : Nat} {held : Bool} {v : Value} {d : DataW H} {p : List MemPlace} (hv : Value.okWide Tryz.prog w r b0 39 v) (h : DataW.Trod enc Tryz.prog w 0 (fun _ => true) held 39 v d p) :
    ∃ x y z, v = .agg #[.int .i64 x, .int .i64 y, .int .i64 z] ∧ True := by
  obtain ⟨cs, rfl, hsz⟩ := Go.WideShapes.okWide_struct Tryz.underlying39 hv
  obtain ⟨l⟩ := cs
  obtain ⟨fuel, hf⟩ := h
  obtain ⟨xs, m, hn, hx, hlen, hxl, hg⟩ := DataW.trod_struct Tryz.underlying39 hf
  rw [Tryz.cells_place0] at hlen
  simp only [Value.cells] at hlen hg
  have hl7 : l.length = 3 := hlen
  have hxl7 : xs.length = 3 := hxl
  have hfx : ∀ (i : Nat) (hi : i < xs.length), xs[i]? = some xs[i] := fun i hi => List.getElem?_eq_getElem hi
  match l, hl7 with
  | [v0, v1, v2], _ =>
  have g0 : DataW.trod enc Tryz.prog w 0 (fun _ => true) held m 3 [v0] = some xs[0] := by
    have this : DataW.trod enc Tryz.prog w 0 (fun _ => true) held m 3 (([v0, v1, v2].drop 0).take (Tryz.prog.cellsOf 3)) = some xs[0] := (hg 0 _ rfl).trans (hfx 0 (by omega))
    rw [Tryz.cells_int0] at this
    exact this
  have g1 : DataW.trod enc Tryz.prog w 0 (fun _ => true) held m 3 [v1] = some xs[1] := by
    have this : DataW.trod enc Tryz.prog w 0 (fun _ => true) held m 3 (([v0, v1, v2].drop 1).take (Tryz.prog.cellsOf 3)) = some xs[1] := (hg 1 _ rfl).trans (hfx 1 (by omega))
    rw [Tryz.cells_int0] at this
    exact this
  have g2 : DataW.trod enc Tryz.prog w 0 (fun _ => true) held m 3 [v2] = some xs[2] := by
    have this : DataW.trod enc Tryz.prog w 0 (fun _ => true) held m 3 (([v0, v1, v2].drop 2).take (Tryz.prog.cellsOf 3)) = some xs[2] := (hg 2 _ rfl).trans (hfx 2 (by omega))
    rw [Tryz.cells_int0] at this
    exact this
  obtain ⟨x, e0, _, _⟩ := DataW.trod_int Tryz.underlying3 g0
  obtain ⟨y, e1, _, _⟩ := DataW.trod_int Tryz.underlying3 g1
  obtain ⟨z, e2, _, _⟩ := DataW.trod_int Tryz.underlying3 g2
  simp only [List.cons.injEq, and_true] at e0 e1 e2
  subst e0 e1 e2
  exact ⟨x, y, z, rfl, trivial⟩
end Go.Proofs.YtljacdbdjacbkaaGreatDoor
