/- Rows that came in: keys, places, counts. It proves no statement. -/
import Derived.Test.YtlebancjgjcfjaaFxRow
namespace Go.Proofs.Ytlebancjgjcfjaa
open Go.RowKit
set_option linter.unusedVariables false
set_option linter.unusedSimpArgs false

/-- Keys that came in. -/
structure IdRow (w : World) (A : Option Addr) (n c : Nat) (L : List (List UInt8)) : Prop where
  row : FxRow w A n c 32 (L.map bytesV)
  ok : ∀ k ∈ L, k.length = 32
/-- Places, counts that came in: so many numbers each. -/
structure NumRow (m : Nat) (w : World) (A : Option Addr) (n c : Nat) (L : List (List Int)) : Prop where
  row : FxRow w A n c m (L.map (List.map (Value.int .i64)))
  ok : ∀ k ∈ L, k.length = m
abbrev PlRow := NumRow 3
abbrev CnRow := NumRow 2
theorem open_idr {H : Type} {enc : TypeId × Value → H} {w : World} {held : Bool} {fuel : Nat} {cs : List Value} {y : DataW H × List MemPlace} (hf : DataW.trod enc Try.prog w 0 (fun _ => true) held fuel 30 cs = some y) :
    ∃ A n c L, cs = [.slice A n c] ∧ IdRow w A n c L := by
  obtain ⟨A, n, c, E, e, r, q⟩ := open_row 32 (fun x => ∃ l : List UInt8, x = bytesV l ∧ l.length = 32) Try.underlying30 (by omega) Try.cells_id (fun hl h => trod_id hl h) hf
  obtain ⟨L, rfl, hP⟩ := list_of_all bytesV (fun l => l.length = 32) E (fun x hx => (q x hx).1)
  exact ⟨A, n, c, L, e, r, hP⟩
theorem Try.cells_place : Try.prog.cellsOf 36 = 3 := by kernel_rfl
theorem Try.cells_count : Try.prog.cellsOf 40 = 2 := by kernel_rfl
theorem split1 {l : List Value} (i : Nat) (h : i < l.length) {u : Value} (e : (l.drop i).take 1 = [u]) : l[i]? = some u := by
  have := congrArg (fun l => l[0]?) e
  simpa [List.getElem?_take, List.getElem?_drop] using this
set_option maxRecDepth 100000 in
theorem open_placeL {H : Type} {enc : TypeId × Value → H} {w : World} {held : Bool} {fuel : Nat} {l : List Value} {y : DataW H × List MemPlace} (hl : l.length = 3) (hf : DataW.trod enc Try.prog w 0 (fun _ => true) held fuel 36 l = some y) :
    ∃ x : List Int, l = x.map (Value.int .i64) ∧ x.length = 3 := by
  obtain ⟨xs, m, hn, hx, hlen, hxl, hg⟩ := DataW.trod_struct Try.underlying36 hf
  have hxl3 : xs.length = 3 := hxl
  have hfx : ∀ (i : Nat) (hi : i < xs.length), xs[i]? = some xs[i] := fun i hi => List.getElem?_eq_getElem hi
  have g0 : DataW.trod enc Try.prog w 0 (fun _ => true) held m 3 ((l.drop 0).take (Try.prog.cellsOf 3)) = some xs[0] := (hg 0 _ rfl).trans (hfx 0 (by omega))
  have g1 : DataW.trod enc Try.prog w 0 (fun _ => true) held m 3 ((l.drop 1).take (Try.prog.cellsOf 3)) = some xs[1] := (hg 1 _ rfl).trans (hfx 1 (by omega))
  have g2 : DataW.trod enc Try.prog w 0 (fun _ => true) held m 3 ((l.drop 2).take (Try.prog.cellsOf 3)) = some xs[2] := (hg 2 _ rfl).trans (hfx 2 (by omega))
  rw [Try.cells_int0] at g0 g1 g2
  obtain ⟨a, e0, _, _⟩ := DataW.trod_int Try.underlying3 g0
  obtain ⟨b, e1, _, _⟩ := DataW.trod_int Try.underlying3 g1
  obtain ⟨c, e2, _, _⟩ := DataW.trod_int Try.underlying3 g2
  refine ⟨[a, b, c], ?_, rfl⟩
  match l, hl with
  | [x, y, z], _ => simp at e0 e1 e2; simp [e0, e1, e2]
set_option maxRecDepth 100000 in
theorem open_countL {H : Type} {enc : TypeId × Value → H} {w : World} {held : Bool} {fuel : Nat} {l : List Value} {y : DataW H × List MemPlace} (hl : l.length = 2) (hf : DataW.trod enc Try.prog w 0 (fun _ => true) held fuel 40 l = some y) :
    ∃ x : List Int, l = x.map (Value.int .i64) ∧ x.length = 2 := by
  obtain ⟨xs, m, hn, hx, hlen, hxl, hg⟩ := DataW.trod_struct Try.underlying40 hf
  have hxl3 : xs.length = 2 := hxl
  have hfx : ∀ (i : Nat) (hi : i < xs.length), xs[i]? = some xs[i] := fun i hi => List.getElem?_eq_getElem hi
  have g0 : DataW.trod enc Try.prog w 0 (fun _ => true) held m 3 ((l.drop 0).take (Try.prog.cellsOf 3)) = some xs[0] := (hg 0 _ rfl).trans (hfx 0 (by omega))
  have g1 : DataW.trod enc Try.prog w 0 (fun _ => true) held m 3 ((l.drop 1).take (Try.prog.cellsOf 3)) = some xs[1] := (hg 1 _ rfl).trans (hfx 1 (by omega))
  rw [Try.cells_int0] at g0 g1
  obtain ⟨a, e0, _, _⟩ := DataW.trod_int Try.underlying3 g0
  obtain ⟨b, e1, _, _⟩ := DataW.trod_int Try.underlying3 g1
  refine ⟨[a, b], ?_, rfl⟩
  match l, hl with
  | [x, y], _ => simp at e0 e1; simp [e0, e1]
theorem open_plr {H : Type} {enc : TypeId × Value → H} {w : World} {held : Bool} {fuel : Nat} {cs : List Value} {y : DataW H × List MemPlace} (hf : DataW.trod enc Try.prog w 0 (fun _ => true) held fuel 31 cs = some y) :
    ∃ A n c L, cs = [.slice A n c] ∧ PlRow w A n c L := by
  obtain ⟨A, n, c, E, e, r, q⟩ := open_row 3 (fun x => ∃ l : List Int, x = l.map (Value.int .i64) ∧ l.length = 3) Try.underlying31 (by omega) Try.cells_place (fun hl h => open_placeL hl h) hf
  obtain ⟨L, rfl, hP⟩ := list_of_all (List.map (Value.int .i64)) (fun l => l.length = 3) E (fun x hx => (q x hx).1)
  exact ⟨A, n, c, L, e, r, hP⟩
theorem open_cnr {H : Type} {enc : TypeId × Value → H} {w : World} {held : Bool} {fuel : Nat} {cs : List Value} {y : DataW H × List MemPlace} (hf : DataW.trod enc Try.prog w 0 (fun _ => true) held fuel 32 cs = some y) :
    ∃ A n c L, cs = [.slice A n c] ∧ CnRow w A n c L := by
  obtain ⟨A, n, c, E, e, r, q⟩ := open_row 2 (fun x => ∃ l : List Int, x = l.map (Value.int .i64) ∧ l.length = 2) Try.underlying32 (by omega) Try.cells_count (fun hl h => open_countL hl h) hf
  obtain ⟨L, rfl, hP⟩ := list_of_all (List.map (Value.int .i64)) (fun l => l.length = 2) E (fun x hx => (q x hx).1)
  exact ⟨A, n, c, L, e, r, hP⟩
end Go.Proofs.Ytlebancjgjcfjaa
