/- A slice of calls that came in, opened; few of them. It proves no statement. -/
import Derived.Test.YtlebancjgjcfjaaFxRow
import Derived.Deep.DeepMust
namespace Go.Proofs.Ytlebancjgjcfjaa
open Go.RowKit
set_option linter.unusedVariables false
set_option linter.unusedSimpArgs false

/-- A call: its kind, its key, its number. -/
structure Dq where
  k : Int
  K : List UInt8
  v : Int
def dqL (x : Dq) : List Value := .int .i64 x.k :: (bytesV x.K ++ [.int .i64 x.v])
theorem dqL_key {x : Dq} {j : Nat} {u : Value} (h : (bytesV x.K)[j]? = some u) : (dqL x)[1 + j]? = some u := by
  unfold dqL
  have hj := (List.getElem?_eq_some_iff.1 h).1
  rw [Nat.add_comm, List.getElem?_cons_succ, List.getElem?_append_left hj, h]
theorem dqL_v {x : Dq} (h : x.K.length = 32) : (dqL x)[33]? = some (.int .i64 x.v) := by
  unfold dqL
  rw [List.getElem?_cons_succ, List.getElem?_append_right (by rw [bytesV_length]; omega), bytesV_length, h]
  rfl
/-- A call lies at an address. -/
structure DqAt (w : World) (B b o : Nat) (x : Dq) : Prop where
  lt : b < B
  len : x.K.length = 32
  kind : w.cell? ⟨b, o, none⟩ = some (.int .i64 x.k)
  key : w.rangeAt b (o + 1) (bytesV x.K)
  val : w.cell? ⟨b, o + 33, none⟩ = some (.int .i64 x.v)
theorem DqAt.still {w w' : World} {B b o : Nat} {x : Dq} (h : DqAt w B b o x) (hB : B ≤ w.heap.size) (s : Still w w') : DqAt w' B b o x :=
  have hb : b < w.heap.size := Nat.lt_of_lt_of_le h.lt hB
  ⟨h.lt, h.len, (s.cell (p := ⟨b, o, none⟩) hb).trans h.kind, fun j u hj => (s.cell (p := ⟨b, o + 1 + j, none⟩) hb).trans (h.key j u hj), (s.cell (p := ⟨b, o + 33, none⟩) hb).trans h.val⟩
/-- A slice of calls that came in. -/
structure DqRow (w : World) (A : Option Addr) (n c : Nat) (L : List Dq) : Prop where
  at_ : ∀ (i : Nat) (x : Dq), L[i]? = some x → ∃ b o, A = some ⟨b, o, none⟩ ∧ DqAt w w.heap.size b (o + i * 34) x
  len : L.length = n
  fit : n ≤ c
  cap : c ≤ 9223372036854775807
theorem Try.cells_do12 : Try.prog.cellsOf 53 = 34 := by kernel_rfl
set_option maxRecDepth 100000 in
theorem open_dqL {H : Type} {enc : TypeId × Value → H} {w : World} {held : Bool} {fuel : Nat} {l : List Value} {y : DataW H × List MemPlace} (hf : DataW.trod enc Try.prog w 0 (fun _ => true) held fuel 53 l = some y) :
    ∃ x : Dq, l = dqL x ∧ x.K.length = 32 := by
  obtain ⟨xs, m, hn, hx, hlen, hxl, hg⟩ := DataW.trod_struct Try.underlying53 hf
  rw [Try.cells_do12] at hlen
  have hl34 : l.length = 34 := hlen
  have hxl3 : xs.length = 3 := hxl
  have hfx : ∀ (i : Nat) (hi : i < xs.length), xs[i]? = some xs[i] := fun i hi => List.getElem?_eq_getElem hi
  have g0 : DataW.trod enc Try.prog w 0 (fun _ => true) held m 3 (l.take 1) = some xs[0] := by
    have this : DataW.trod enc Try.prog w 0 (fun _ => true) held m 3 ((l.drop 0).take (Try.prog.cellsOf 3)) = some xs[0] := (hg 0 _ rfl).trans (hfx 0 (by omega))
    rw [Try.cells_int0] at this
    exact this
  have g1 : DataW.trod enc Try.prog w 0 (fun _ => true) held m 43 ((l.drop 1).take 32) = some xs[1] := by
    have this : DataW.trod enc Try.prog w 0 (fun _ => true) held m 43 ((l.drop 1).take (Try.prog.cellsOf 43)) = some xs[1] := (hg 1 _ rfl).trans (hfx 1 (by omega))
    rw [Try.cells_id] at this
    exact this
  have g2 : DataW.trod enc Try.prog w 0 (fun _ => true) held m 3 ((l.drop 33).take 1) = some xs[2] := by
    have this : DataW.trod enc Try.prog w 0 (fun _ => true) held m 3 ((l.drop 33).take (Try.prog.cellsOf 3)) = some xs[2] := (hg 2 _ rfl).trans (hfx 2 (by omega))
    rw [Try.cells_int0] at this
    exact this
  obtain ⟨t, e0, _, w0⟩ := DataW.trod_int Try.underlying3 g0
  obtain ⟨K, e1, hK⟩ := trod_id (by simp; omega) g1
  obtain ⟨v, e2, _, w2⟩ := DataW.trod_int Try.underlying3 g2
  refine ⟨⟨t, K, v⟩, ?_, hK⟩
  have s1 : l = l.take 1 ++ ((l.drop 1).take 32 ++ (l.drop 33).take 1) := by
    have a1 := (List.take_append_drop 1 l).symm
    have a2 := (List.take_append_drop 32 (l.drop 1)).symm
    rw [List.drop_drop] at a2
    have a3 : (l.drop 33).take 1 = l.drop 33 := List.take_of_length_le (by rw [List.length_drop]; omega)
    rw [a3]
    conv => lhs; rw [a1, a2]
  have e0' : l.take 1 = [.int .i64 t] := by simpa using e0
  have e2' : (l.drop 33).take 1 = [.int .i64 v] := by simpa using e2
  rw [s1, e0', e1, e2']
  rfl
set_option maxRecDepth 100000 in
theorem open_dq {H : Type} {enc : TypeId × Value → H} {w : World} {held : Bool} {fuel : Nat} {cs : List Value} {y : DataW H × List MemPlace} (hf : DataW.trod enc Try.prog w 0 (fun _ => true) held fuel 22 cs = some y) :
    ∃ A n c L, cs = [.slice A n c] ∧ DqRow w A n c L := by
  rcases DataW.trod_slice Try.underlying22 hf with ⟨e, _⟩ | ⟨a, len, cap, elems, rest, m, _, e, _, _, hl, hm, hel, hi, _, _⟩
  · exact ⟨none, 0, 0, [], e, { at_ := fun i x hx => by simp at hx, len := rfl, fit := Nat.le_refl _, cap := by omega }⟩
  · have each : ∀ i, i < len → ∃ x : Dq, ∃ b o, (some a : Option Addr) = some ⟨b, o, none⟩ ∧ DqAt w w.heap.size b (o + i * 34) x := fun i hlt => by
      have h1 := hi i hlt
      rw [List.getElem?_eq_getElem (by omega), Try.cells_do12, Option.bind_eq_some_iff] at h1
      obtain ⟨l, hl1, hl2⟩ := h1
      obtain ⟨x, rfl, hK⟩ := open_dqL hl2
      have hc := World.cells?_some hl1
      have hcell : ∀ j u, (dqL x)[j]? = some u → w.cell? ((a.add (i * 34)).add j) = some u := fun j u hj => by
        have hlt2 : j < 34 := by
          have h := (List.getElem?_eq_some_iff.1 hj).1
          simp [dqL, bytesV_length, hK] at h
          omega
        first
          | exact (hc.2.2 j hlt2).trans hj
          | exact (hc.2 j hlt2).trans hj
          | exact (hc j hlt2).trans hj
      obtain ⟨b, o, sp⟩ := a
      have hsp : sp = none := by
        have h00 := hi 0 (by omega)
        rw [List.getElem?_eq_getElem (by omega), Try.cells_do12, Option.bind_eq_some_iff] at h00
        obtain ⟨l0, q1, _⟩ := h00
        obtain ⟨_, q2, q3⟩ := World.cells?_some q1
        have q4 := q3 0 (by omega)
        rw [List.getElem?_eq_getElem (by omega)] at q4
        simpa [Addr.add] using World.cell?_spot q4
      subst hsp
      have hat : ∀ j u, (dqL x)[j]? = some u → w.cell? ⟨b, o + i * 34 + j, none⟩ = some u := fun j u hj => by
        have h := hcell j u hj
        rwa [Addr.add_lit, Addr.add_lit] at h
      have h0 := hat 0 _ rfl
      refine ⟨x, b, o, rfl, ⟨by simpa using World.block_lt_of_cell? w _ h0, hK, by simpa using h0, fun j u hj => ?_, hat 33 _ (dqL_v hK)⟩⟩
      rw [Nat.add_assoc]
      exact hat (1 + j) u (dqL_key hj)
    obtain ⟨L, hL, hP⟩ := list_of_each each
    exact ⟨some a, len, cap, L, e, { at_ := hP, len := hL, fit := hl, cap := by unfold maxLen at hm; omega }⟩
/-- Few calls. -/
theorem few_any (A : Option Addr) (n c k : Nat) (w : World) (hn : n ≤ c) (hc : c ≤ 9223372036854775807) (hk : k ≤ 1048576) :
    Calls Try.prog 18 #[.slice A n c, .int .i64 (k : Int)] w fun e w' => e = .returned (.slice A (min n k) c) ∧ w = w' := by
  by_cases hlt : k < n
  · have d1 : (k : Int) < (n : Int) := by omega
    have d2 : (k : Int) ≤ (c : Int) := by omega
    have E := Lib.hid (show min n k = k by omega)
    clear hlt hn hc
    go_enter Try.func18, Try.ntmps18
    go_wp2_with fail
    go_ret
    exact ⟨by rw [E.out]; first | rfl | simp, rfl⟩
  · have d1 : ¬ (k : Int) < (n : Int) := by omega
    have E := Lib.hid (show min n k = n by omega)
    clear hlt hn hc
    go_enter Try.func18, Try.ntmps18
    go_wp2_with fail
    go_ret
    exact ⟨by rw [E.out]; rfl, rfl⟩
end Go.Proofs.Ytlebancjgjcfjaa
