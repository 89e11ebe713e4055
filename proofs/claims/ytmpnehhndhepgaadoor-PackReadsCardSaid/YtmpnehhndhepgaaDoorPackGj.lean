/- Contracts and facts, several texts in one. It proves no statement. -/
import Derived.Test.YtmpnehhndhepgaaDoorPackGa
import Derived.Test.YtmpnehhndhepgaaDoorPackGe
import Derived.Test.YtmpnehhndhepgaaDoorPackGd
import Derived.ChangeSlices
import Derived.SliceStrings
import Derived.ChangeArms
import Derived.Test.YtmpnehhndhepgaaDoorPackGb
import Derived.BigQuiet
import Derived.BigFrame

/- What is left of a slice that came in. It proves no statement. -/

namespace Go.Proofs.YtmpnehhndhepgaaDoor
open Go.RowKit
set_option linter.unusedVariables false

/-- A slice that came in, or what is left of it. -/
structure RowS (w : World) (B : Nat) (A : Option Addr) (n c : Nat) (l : List UInt8) : Prop where
  reads : Reads w B A n l
  fit : n ≤ c
  cap : c ≤ 9223372036854775807
  nil : A = none → n = 0 ∧ c = 0
theorem RowS.still {w w' : World} {B n c : Nat} {A : Option Addr} {l : List UInt8} (h : RowS w B A n c l) (hB : B ≤ w.heap.size) (hs : Still w w') : RowS w' B A n c l := ⟨h.reads.still hB hs, h.fit, h.cap, h.nil⟩
theorem RowS.dropk {w : World} {B n c k : Nat} {A : Option Addr} {l : List UInt8} (h : RowS w B A n c l) (hk : k ≤ n) : RowS w B (A.map (·.add k)) (n - k) (c - k) (l.drop k) :=
  ⟨h.reads.dropk hk, by have := h.fit; omega, by have := h.cap; omega, fun e => by
    have e2 : A = none := by simpa using e
    have := h.nil e2
    omega⟩
theorem RowS.endk {w : World} {B n c : Nat} {A : Option Addr} {l : List UInt8} (h : RowS w B A n c l) {k : Nat} (hk : n ≤ k) : RowS w B A 0 0 (l.drop k) := by
  have e : l.drop k = [] := List.drop_of_length_le (by have := h.reads.1; omega)
  rw [e]
  exact ⟨⟨rfl, fun h => by omega⟩, by omega, by omega, fun _ => ⟨rfl, rfl⟩⟩
/-- A row that came in, cut. -/
theorem cut_row {w : World} {A : Option Addr} {n0 c0 : Nat} {z : List Int} (h : RowIn .u8 w A n0 c0 z) (k : Nat) (hk : 1 ≤ k) :
    ∃ n l, RowS w w.heap.size A n c0 l ∧ n ≤ k ∧ Calls Tryd.prog 15 #[.slice A n0 c0, .int .i64 k] w fun e w' => e = .returned (.slice A n c0) ∧ w = w' := by
  obtain ⟨l0, r0, hc0, hm0, hA0⟩ := reads_of_row h
  exact ⟨_, _, ⟨r0.take k, by omega, hm0, fun e => ⟨by have := (hA0 e).1; omega, (hA0 e).2⟩⟩, by omega, cut_any A n0 c0 k l0 w _ r0 hc0 hm0 hk⟩
end Go.Proofs.YtmpnehhndhepgaaDoor

/- Values that came in, whatever their sizes. It proves no statement. -/





namespace Go.Proofs.YtmpnehhndhepgaaDoor
open Go.RowKit
set_option linter.unusedVariables false
set_option linter.unusedSimpArgs false

def KeysW (w : World) (P : Nat → Prop) (A : Option Addr) (ks : List ByteArray) : Prop :=
  (∀ s ∈ ks, s.size ≤ 9223372036854775807) ∧ (0 < ks.length → ∃ g o, A = some ⟨g, o, none⟩ ∧ P g ∧ g < w.heap.size ∧ ∀ j, j < ks.length → w.cell? ⟨g, o + j, none⟩ = some (.string (ks.getD j ByteArray.empty)))
mutual
/-- The cells cs are the value t, of whatever sizes; what they lead to lies in blocks of which P is said. -/
def HasW (w : World) (P : Nat → Prop) : Tr → Array Value → Prop
  | .mk k i b t ks l, cs => ∃ A n c Ak ck Al cl, cs = #[.int .i64 k, .int .i64 i, .slice A n c, .string t, .slice Ak ks.length ck, .slice Al l.length cl] ∧
      (-9223372036854775808 ≤ k ∧ k ≤ 9223372036854775807) ∧ (-9223372036854775808 ≤ i ∧ i ≤ 9223372036854775807) ∧ (ReadsP w P A n b ∧ n ≤ c ∧ c ≤ 9223372036854775807 ∧ (A = none → n = 0 ∧ c = 0)) ∧ t.size ≤ 9223372036854775807 ∧
      (KeysW w P Ak ks ∧ ks.length ≤ 9223372036854775807) ∧ l.length ≤ 9223372036854775807 ∧ (0 < l.length → ∃ g o, Al = some ⟨g, o, none⟩ ∧ P g ∧ g < w.heap.size ∧ HasLW w P g o l)
def HasLW (w : World) (P : Nat → Prop) (g : Nat) : Nat → List Tr → Prop
  | _, [] => True
  | o, x :: r => (∃ cs, HasW w P x cs ∧ cs.size = 6 ∧ ∀ j v, cs[j]? = some v → w.cell? ⟨g, o + j, none⟩ = some v) ∧ HasLW w P g (o + 6) r
end
mutual
theorem HasW.keep {w w' : World} {P Q : Nat → Prop} (hb : ∀ b, P b → b < w.heap.size → w'.heap[b]? = w.heap[b]?) (hz : w.heap.size ≤ w'.heap.size) (hq : ∀ b, P b → b < w.heap.size → Q b) : ∀ (t : Tr) (cs : Array Value), HasW w P t cs → HasW w' Q t cs
  | .mk k i b t ks l, cs, h => by
    unfold HasW at h ⊢
    obtain ⟨A, n, c, Ak, ck, Al, cl, e, hk, hi, ⟨hr, h1, h2⟩, ht, ⟨hks, hkl⟩, hl, hL⟩ := h
    refine ⟨A, n, c, Ak, ck, Al, cl, e, hk, hi, ⟨⟨hr.1, fun hn => ?_⟩, h1, h2⟩, ht, ⟨⟨hks.1, fun hn => ?_⟩, hkl⟩, hl, fun hn => ?_⟩
    · obtain ⟨b', o, e2, hp, hlt, hc⟩ := hr.2 hn
      exact ⟨b', o, e2, hq _ hp hlt, by omega, fun i hi => (World.cell?_of_block (w := w) (a := ⟨b', o + i, none⟩) (hb b' hp hlt)).trans (hc i hi)⟩
    · obtain ⟨b', o, e2, hp, hlt, hc⟩ := hks.2 hn
      exact ⟨b', o, e2, hq _ hp hlt, by omega, fun i hi => (World.cell?_of_block (w := w) (a := ⟨b', o + i, none⟩) (hb b' hp hlt)).trans (hc i hi)⟩
    · obtain ⟨g, o, e2, hp, hlt, hh⟩ := hL hn
      exact ⟨g, o, e2, hq _ hp hlt, by omega, HasLW.keep hb hz hq g hp hlt o l hh⟩
theorem HasLW.keep {w w' : World} {P Q : Nat → Prop} (hb : ∀ b, P b → b < w.heap.size → w'.heap[b]? = w.heap[b]?) (hz : w.heap.size ≤ w'.heap.size) (hq : ∀ b, P b → b < w.heap.size → Q b) (g : Nat) (hg : P g) (hlt : g < w.heap.size) : ∀ (o : Nat) (l : List Tr), HasLW w P g o l → HasLW w' Q g o l
  | _, [], _ => by unfold HasLW; trivial
  | o, x :: r, h => by
    unfold HasLW at h ⊢
    obtain ⟨⟨cs, hv, hz', hc⟩, hr⟩ := h
    exact ⟨⟨cs, HasW.keep hb hz hq x cs hv, hz', fun j v hj => (World.cell?_of_block (w := w) (a := ⟨g, o + j, none⟩) (hb g hg hlt)).trans (hc j v hj)⟩, HasLW.keep hb hz hq g hg hlt (o + 6) r hr⟩
end
theorem HasLW.at {w : World} {P : Nat → Prop} {g : Nat} : ∀ (l : List Tr) (o : Nat), HasLW w P g o l → ∀ (j : Nat) (x : Tr), l[j]? = some x → ∃ cs, HasW w P x cs ∧ cs.size = 6 ∧ ∀ i v, cs[i]? = some v → w.cell? ⟨g, o + 6 * j + i, none⟩ = some v
  | [], _, _, j, x, hx => by simp at hx
  | y :: r, o, h, 0, x, hx => by
    unfold HasLW at h
    simp only [List.getElem?_cons_zero, Option.some.injEq] at hx
    subst hx
    obtain ⟨⟨cs, hv, hz, hc⟩, _⟩ := h
    exact ⟨cs, hv, hz, fun i v hi => by simpa using hc i v hi⟩
  | y :: r, o, h, j + 1, x, hx => by
    unfold HasLW at h
    obtain ⟨cs, hv, hz, hc⟩ := HasLW.at r (o + 6) h.2 j x (by simpa using hx)
    exact ⟨cs, hv, hz, fun i v hi => by rw [show o + 6 * (j + 1) + i = o + 6 + 6 * j + i by omega]; exact hc i v hi⟩
theorem HasW.size {w : World} {P : Nat → Prop} : ∀ (t : Tr) (cs : Array Value), HasW w P t cs → cs.size = 6
  | .mk k i b t ks l, cs, h => by
    unfold HasW at h
    obtain ⟨A, n, c, Ak, ck, Al, cl, rfl, _⟩ := h
    rfl
theorem HasW.one {w : World} {P : Nat → Prop} : ∀ (t : Tr) (cs : Array Value), HasW w P t cs → cs.all (·.oneCell') = true
  | .mk k i b t ks l, cs, h => by
    unfold HasW at h
    obtain ⟨A, n, c, Ak, ck, Al, cl, rfl, _⟩ := h
    simp [Value.oneCell']
mutual
/-- A value of sizes that a machine has. -/
def smT : Tr → Prop
  | .mk k i b t ks l => b.length ≤ 1048576 ∧ t.size ≤ 1048576 ∧ (∀ s ∈ ks, s.size ≤ 1048576) ∧ ks.length ≤ 1048576 ∧ l.length ≤ 1048576 ∧ smL l
def smL : List Tr → Prop
  | [] => True
  | x :: r => smT x ∧ smL r
end
mutual
theorem HasW.toV {w : World} {P : Nat → Prop} {B : Nat} (hp : ∀ b, P b → b < w.heap.size → b < B) : ∀ (t : Tr) (cs : Array Value), smT t → HasW w P t cs → HasV w B t cs
  | .mk k i b t ks l, cs, hs, h => by
    unfold HasW at h
    unfold HasV
    unfold smT at hs
    obtain ⟨s1, s2, s3, s4, s5, s6⟩ := hs
    obtain ⟨A, n, c, Ak, ck, Al, cl, e, hk, hi, ⟨hr, h1, h2, h3⟩, ht, ⟨hks, hkl⟩, hl, hL⟩ := h
    refine ⟨A, n, c, Ak, ck, Al, cl, e, hk, hi, ⟨⟨hr.1, fun hn => ?_⟩, by have := hr.1; omega, fun e => (h3 e).2⟩, s2, ⟨⟨s3, fun hn => ?_⟩, s4⟩, s5, fun hn => ?_⟩
    · obtain ⟨b', o, e2, hp', hlt, hc⟩ := hr.2 hn
      exact ⟨b', o, e2, hp b' hp' hlt, hc⟩
    · obtain ⟨b', o, e2, hp', hlt, hc⟩ := hks.2 hn
      exact ⟨b', o, e2, hp b' hp' hlt, hc⟩
    · obtain ⟨g, o, e2, hp', hlt, hh⟩ := hL hn
      exact ⟨g, o, e2, hp g hp' hlt, HasLW.toV hp g o l s6 hh⟩
theorem HasLW.toV {w : World} {P : Nat → Prop} {B : Nat} (hp : ∀ b, P b → b < w.heap.size → b < B) (g : Nat) : ∀ (o : Nat) (l : List Tr), smL l → HasLW w P g o l → HasL w B g o l
  | _, [], _, _ => by unfold HasL; trivial
  | o, x :: r, hs, h => by
    unfold HasLW at h
    unfold HasL
    unfold smL at hs
    obtain ⟨⟨cs, hv, hz', hc⟩, hr⟩ := h
    exact ⟨⟨cs, HasW.toV hp x cs hs.1 hv, hz', hc⟩, HasLW.toV hp g (o + 6) r hs.2 hr⟩
end
mutual
theorem hasV_in {w : World} {B : Nat} : ∀ (t : Tr) (cs : Array Value), HasV w B t cs → inT t
  | .mk k i b t ks l, cs, h => by
    unfold HasV at h
    unfold inT
    obtain ⟨A, n, c, Ak, ck, Al, cl, e, hk, hi, hr, ht, hks, hl, hL⟩ := h
    refine ⟨hi, ?_⟩
    rcases l with _ | ⟨x, r⟩
    · unfold inL; trivial
    · obtain ⟨g, o, _, _, hh⟩ := hL (by simp)
      exact hasL_in g o (x :: r) hh
theorem hasL_in {w : World} {B : Nat} (g : Nat) : ∀ (o : Nat) (l : List Tr), HasL w B g o l → inL l
  | _, [], _ => by unfold inL; trivial
  | o, x :: r, h => by
    unfold HasL at h
    unfold inL
    obtain ⟨⟨cs, hv, _⟩, hr⟩ := h
    exact ⟨hasV_in x cs hv, hasL_in g (o + 6) r hr⟩
end

theorem Tryd.cells_value : Tryd.prog.cellsOf 26 = 6 := by kernel_rfl
theorem Tryd.cells_int : Tryd.prog.cellsOf 3 = 1 := by kernel_rfl
theorem Tryd.cells_int64 : Tryd.prog.cellsOf 2 = 1 := by kernel_rfl
theorem Tryd.cells_bytes : Tryd.prog.cellsOf 22 = 1 := by kernel_rfl
theorem Tryd.cells_texts : Tryd.prog.cellsOf 23 = 1 := by kernel_rfl
theorem Tryd.cells_values : Tryd.prog.cellsOf 24 = 1 := by kernel_rfl
theorem Tryd.cells_byte : Tryd.prog.cellsOf 5 = 1 := by kernel_rfl
theorem Tryd.cells_text : Tryd.prog.cellsOf 9 = 1 := by kernel_rfl
/-- So many values, one for each place. -/
theorem trees_of {w : World} {P : Nat → Prop} {g o : Nat} : ∀ (n : Nat), (∀ i, i < n → ∃ x cs, HasW w P x cs ∧ cs.size = 6 ∧ ∀ j v, cs[j]? = some v → w.cell? ⟨g, o + 6 * i + j, none⟩ = some v) → ∃ l, l.length = n ∧ ∀ (o' : Nat), o' = o → HasLW w P g o' l := by
  intro n
  induction n generalizing o with
  | zero => intro _; exact ⟨[], rfl, fun _ _ => by unfold HasLW; trivial⟩
  | succ n ih =>
    intro h
    obtain ⟨x, cs, hv, hz, hc⟩ := h 0 (by omega)
    obtain ⟨l, hl, hL⟩ := ih (o := o + 6) fun i hi => by
      obtain ⟨x, cs, hv, hz, hc⟩ := h (i + 1) (by omega)
      exact ⟨x, cs, hv, hz, fun j v hj => by rw [show o + 6 + 6 * i + j = o + 6 * (i + 1) + j by omega]; exact hc j v hj⟩
    refine ⟨x :: l, by simp [hl], fun o' ho => ?_⟩
    subst ho
    unfold HasLW
    exact ⟨⟨cs, hv, hz, fun j v hj => by simpa using hc j v hj⟩, hL _ rfl⟩

set_option maxRecDepth 100000 in
set_option maxHeartbeats 1600000 in
/-- A value that came in is some tree. -/
theorem raw_has {H : Type} {enc : TypeId × Value → H} {w : World} {held : Bool} : ∀ (fuel : Nat) (cs : List Value) (y : DataW H × List MemPlace), DataW.trod enc Tryd.prog w 0 (fun _ => true) held fuel 26 cs = some y → ∃ x, HasW w (fun _ => True) x cs.toArray := by
  intro fuel
  induction fuel using Nat.strongRecOn with
  | _ fuel ih =>
    intro cs y h
    obtain ⟨xs, n, hn, hx, hlen, hxl, hg⟩ := DataW.trod_struct Tryd.underlying26 h
    rw [Tryd.cells_value] at hlen
    match cs, hlen with
    | [c0, c1, c2, c3, c4, c5], _ =>
      have hf : ∀ (i : Nat) (hi : i < xs.length), xs[i]? = some xs[i] := fun i hi => List.getElem?_eq_getElem hi
      have hxl6 : xs.length = 6 := hxl
      have g0 : DataW.trod enc Tryd.prog w 0 (fun _ => true) held n 3 [c0] = some xs[0] := by
        have this : DataW.trod enc Tryd.prog w 0 (fun _ => true) held n 3 (([c0, c1, c2, c3, c4, c5].drop 0).take (Tryd.prog.cellsOf 3)) = some xs[0] := (hg 0 _ rfl).trans (hf 0 (by omega))
        rw [Tryd.cells_int] at this
        exact this
      have g1 : DataW.trod enc Tryd.prog w 0 (fun _ => true) held n 2 [c1] = some xs[1] := by
        have this : DataW.trod enc Tryd.prog w 0 (fun _ => true) held n 2 (([c0, c1, c2, c3, c4, c5].drop 1).take (Tryd.prog.cellsOf 2)) = some xs[1] := (hg 1 _ rfl).trans (hf 1 (by omega))
        rw [Tryd.cells_int64] at this
        exact this
      have g2 : DataW.trod enc Tryd.prog w 0 (fun _ => true) held n 22 [c2] = some xs[2] := by
        have this : DataW.trod enc Tryd.prog w 0 (fun _ => true) held n 22 (([c0, c1, c2, c3, c4, c5].drop 2).take (Tryd.prog.cellsOf 22)) = some xs[2] := (hg 2 _ rfl).trans (hf 2 (by omega))
        rw [Tryd.cells_bytes] at this
        exact this
      have g3 : DataW.trod enc Tryd.prog w 0 (fun _ => true) held n 9 [c3] = some xs[3] := by
        have this : DataW.trod enc Tryd.prog w 0 (fun _ => true) held n 9 (([c0, c1, c2, c3, c4, c5].drop 3).take (Tryd.prog.cellsOf 9)) = some xs[3] := (hg 3 _ rfl).trans (hf 3 (by omega))
        rw [Tryd.cells_text] at this
        exact this
      have g4 : DataW.trod enc Tryd.prog w 0 (fun _ => true) held n 23 [c4] = some xs[4] := by
        have this : DataW.trod enc Tryd.prog w 0 (fun _ => true) held n 23 (([c0, c1, c2, c3, c4, c5].drop 4).take (Tryd.prog.cellsOf 23)) = some xs[4] := (hg 4 _ rfl).trans (hf 4 (by omega))
        rw [Tryd.cells_texts] at this
        exact this
      have g5 : DataW.trod enc Tryd.prog w 0 (fun _ => true) held n 24 [c5] = some xs[5] := by
        have this : DataW.trod enc Tryd.prog w 0 (fun _ => true) held n 24 (([c0, c1, c2, c3, c4, c5].drop 5).take (Tryd.prog.cellsOf 24)) = some xs[5] := (hg 5 _ rfl).trans (hf 5 (by omega))
        rw [Tryd.cells_values] at this
        exact this
      obtain ⟨k, e0, _, w0⟩ := DataW.trod_int Tryd.underlying3 g0
      obtain ⟨i, e1, _, w1⟩ := DataW.trod_int Tryd.underlying2 g1
      obtain ⟨t, e3, _, hts⟩ := DataW.trod_string Tryd.underlying9 g3
      obtain rfl : c0 = .int .i64 k := by have := e0; simpa using this
      obtain rfl : c1 = .int .i64 i := by have := e1; simpa using this
      obtain rfl : c3 = .string t := by have := e3; simpa using this
      have hb : ∃ (A : Option Addr) (n c : Nat) (b : List UInt8), c2 = .slice A n c ∧ ReadsP w (fun _ => True) A n b ∧ n ≤ c ∧ c ≤ 9223372036854775807 ∧ (A = none → n = 0 ∧ c = 0) := by
        rcases Go.ChangeShapes.open_ints Tryd.underlying22 Tryd.underlying5 Tryd.cells_byte g2 with ⟨e2, _⟩ | ⟨a, len, cap, zs, e2, _, hl, hm, hz, _, hc, hw⟩
        · refine ⟨none, 0, 0, [], by simpa using e2, ⟨rfl, fun h => absurd h (by omega)⟩, by omega, by omega, fun _ => ⟨rfl, rfl⟩⟩
        · obtain ⟨l, hr, h1, h2, h3⟩ := reads_of_row (a := some a) (len := len) (cap := cap) (zs := zs) (.inr ⟨a, rfl, hl, hm, by simpa using hz, hc, hw⟩)
          exact ⟨some a, len, cap, l, by simpa using e2, ⟨hr.1, fun hn => by
            obtain ⟨b, o, e, hlt, hcc⟩ := hr.2 hn
            exact ⟨b, o, e, trivial, hlt, hcc⟩⟩, h1, h2, h3⟩
      have hk : ∃ (A : Option Addr) (ks : List ByteArray) (c : Nat), c4 = .slice A ks.length c ∧ KeysW w (fun _ => True) A ks ∧ ks.length ≤ 9223372036854775807 := by
        rcases Go.ChangeShapes.open_strings Tryd.underlying23 Tryd.underlying9 Tryd.cells_text g4 with ⟨e4, _⟩ | ⟨a, len, cap, ss, e4, _, hl, hm, hz, _, hc, hw⟩
        · exact ⟨none, [], 0, by simpa using e4, ⟨fun s h => by simp at h, fun h => absurd h (by simp)⟩, by simp⟩
        · have hsl : ss.length = cap := by simpa using hz
          have hlen : (ss.take len).length = len := by rw [List.length_take]; omega
          refine ⟨some a, ss.take len, cap, by rw [hlen]; simpa using e4, ⟨fun s hs => by have := hw s (List.mem_of_mem_take hs); unfold maxLen at this; omega, fun hn => ?_⟩, by unfold maxLen at hm; omega⟩
          obtain ⟨b, o, sp⟩ := a
          have h0 := hc 0 (by omega)
          have hsp : sp = none := by simpa [Addr.add] using World.cell?_spot h0
          subst hsp
          refine ⟨b, o, rfl, trivial, by simpa [Addr.add] using World.block_lt_of_cell? w _ h0, fun j hj => ?_⟩
          have hj' := hc j (by omega)
          rw [Addr.add_lit] at hj'
          rw [hj']
          congr 2
          simp [List.getD, show j < len by omega]
      have hv : ∃ (A : Option Addr) (l : List Tr) (c : Nat), c5 = .slice A l.length c ∧ l.length ≤ 9223372036854775807 ∧ (0 < l.length → ∃ g o, A = some ⟨g, o, none⟩ ∧ True ∧ g < w.heap.size ∧ HasLW w (fun _ => True) g o l) := by
        rcases DataW.trod_slice Tryd.underlying24 g5 with ⟨e5, _⟩ | ⟨a, len, cap, elems, rest, n', hn', e5, _, _, hl, hm, hel, hat, _, _⟩
        · exact ⟨none, [], 0, by simpa using e5, by simp, fun h => absurd h (by simp)⟩
        · by_cases h0 : len = 0
          · subst h0
            exact ⟨some a, [], cap, by simpa using e5, by simp, fun h => absurd h (by simp)⟩
          have hex : ∀ i, i < len → ∃ x cs, HasW w (fun _ => True) x cs ∧ cs.size = 6 ∧ ∀ j v, cs[j]? = some v → w.cell? ((a.add (i * 6)).add j) = some v := by
            intro i hi
            have h1 := hat i hi
            rw [List.getElem?_eq_getElem (by omega), Option.bind_eq_some_iff] at h1
            obtain ⟨cs', hc', ht'⟩ := h1
            rw [Tryd.cells_value] at hc'
            obtain ⟨x, hx⟩ := ih n' (by omega) cs' _ ht'
            obtain ⟨_, hcl, hcat⟩ := World.cells?_some hc'
            refine ⟨x, cs'.toArray, hx, by simpa using hcl, fun j v hj => ?_⟩
            have hjl : j < 6 := by have := (Array.getElem?_eq_some_iff.1 hj).1; simpa [hcl] using this
            rw [hcat j hjl]
            simpa using hj
          obtain ⟨b, o, sp⟩ := a
          obtain ⟨x0, cs0, _, hz0, hc0⟩ := hex 0 (by omega)
          have h0c := hc0 0 cs0[0] (by simp [hz0])
          have hsp : sp = none := by simpa [Addr.add] using World.cell?_spot h0c
          subst hsp
          obtain ⟨l, hll, hL⟩ := trees_of (w := w) (P := fun _ => True) (g := b) (o := o) len fun i hi => by
            obtain ⟨x, cs, hv, hz, hc⟩ := hex i hi
            refine ⟨x, cs, hv, hz, fun j v hj => ?_⟩
            have := hc j v hj
            rw [Addr.add_lit, Addr.add_lit] at this
            rw [show o + 6 * i + j = o + i * 6 + j by omega]
            exact this
          exact ⟨some ⟨b, o, none⟩, l, cap, by rw [hll]; simpa using e5, by unfold maxLen at hm; omega, fun _ => ⟨b, o, rfl, trivial, by simpa [Addr.add] using World.block_lt_of_cell? w _ h0c, hL o rfl⟩⟩
      obtain ⟨A, nb, c, b, rfl, hr, h1, h2, h3⟩ := hb
      obtain ⟨Ak, ks, ck, rfl, hkw, hkl⟩ := hk
      obtain ⟨Al, l, cl, rfl, hll, hL⟩ := hv
      refine ⟨.mk k i b t ks l, ?_⟩
      unfold HasW
      exact ⟨A, nb, c, Ak, ck, Al, cl, rfl, bounds_i64 w0, bounds_i64 w1, ⟨hr, h1, h2, h3⟩, by unfold maxLen at hts; omega, ⟨hkw, hkl⟩, hll, hL⟩
end Go.Proofs.YtmpnehhndhepgaaDoor

/- The document's own small values: what they are, and the laws that its walk wants. It proves no statement. -/


namespace Go.Proofs.YtmpnehhndhepgaaDoor
open Go.RowKit
set_option linter.unusedVariables false
set_option linter.unusedSimpArgs false

/-- A text's first bytes. -/
def shB (k : Nat) (s : ByteArray) : ByteArray := if k < s.size then s.extract 0 k else s
theorem shB_size (k : Nat) (s : ByteArray) : (shB k s).size ≤ k := by
  unfold shB
  split
  · simp; omega
  · omega
mutual
/-- A value of at most so many values within: the value, and how many are left. -/
def fewT : Tr → Nat → Tr × Nat
  | .mk k i b t ks l, m => (.mk k i (b.take 700) (shB 700 t) ((ks.take 40).map (shB 100)) (fewL 40 l (m - 1)).1, (fewL 40 l (m - 1)).2)
def fewL : Nat → List Tr → Nat → List Tr × Nat
  | 0, _, m => ([], m)
  | _ + 1, [], m => ([], m)
  | j + 1, x :: r, m => if 0 < m then ((fewT x m).1 :: (fewL j r (fewT x m).2).1, (fewL j r (fewT x m).2).2) else ([], m)
end
mutual
theorem fewT_le : ∀ (x : Tr) (m : Nat), (fewT x m).2 ≤ m
  | .mk k i b t ks l, m => by
    unfold fewT
    have := fewL_le 40 l (m - 1)
    simp only
    omega
theorem fewL_le : ∀ (j : Nat) (l : List Tr) (m : Nat), (fewL j l m).2 ≤ m
  | 0, _, m => by unfold fewL; omega
  | _ + 1, [], m => by unfold fewL; omega
  | j + 1, x :: r, m => by
    unfold fewL
    split
    · have h1 := fewT_le x m
      have h2 := fewL_le j r (fewT x m).2
      simp only
      omega
    · simp
end
mutual
theorem few_sm : ∀ (x : Tr) (m : Nat), smT (fewT x m).1
  | .mk k i b t ks l, m => by
    unfold fewT
    simp only
    unfold smT
    have h1 := few_sml 40 l (m - 1)
    refine ⟨by rw [List.length_take]; omega, by have := shB_size 700 t; omega, fun s hs => ?_, by rw [List.length_map, List.length_take]; omega, by omega, h1.2⟩
    obtain ⟨s0, _, rfl⟩ := List.mem_map.1 hs
    have := shB_size 100 s0
    omega
theorem few_sml : ∀ (j : Nat) (l : List Tr) (m : Nat), (fewL j l m).1.length ≤ j ∧ smL (fewL j l m).1
  | 0, _, m => by unfold fewL; exact ⟨by simp, by unfold smL; trivial⟩
  | _ + 1, [], m => by unfold fewL; exact ⟨by simp, by unfold smL; trivial⟩
  | j + 1, x :: r, m => by
    unfold fewL
    split
    · have h1 := few_sm x m
      have h2 := few_sml j r (fewT x m).2
      simp only
      exact ⟨by simp; omega, by unfold smL; exact ⟨h1, h2.2⟩⟩
    · exact ⟨by simp, by unfold smL; trivial⟩
end
/-- What was taken ahead of what is still to be taken. -/
theorem fewL_step (j : Nat) (l : List Tr) (m : Nat) (hj : j < 40) (x : Tr) (hx : l[j]? = some x) (hm : 0 < m) :
    fewL (40 - j) (l.drop j) m = ((fewT x m).1 :: (fewL (40 - (j + 1)) (l.drop (j + 1)) (fewT x m).2).1, (fewL (40 - (j + 1)) (l.drop (j + 1)) (fewT x m).2).2) := by
  have hl := (List.getElem?_eq_some_iff.1 hx)
  obtain ⟨hlt, hx'⟩ := hl
  rw [List.drop_eq_getElem_cons hlt, hx', show 40 - j = (40 - (j + 1)) + 1 by omega, fewL, if_pos hm]
theorem fewL_stop (j : Nat) (l : List Tr) (m : Nat) (h : ¬ (j < l.length ∧ j < 40 ∧ 0 < m)) : fewL (40 - j) (l.drop j) m = ([], m) := by
  by_cases h1 : j < l.length
  · by_cases h2 : j < 40
    · have h3 : ¬ 0 < m := fun h3 => h ⟨h1, h2, h3⟩
      rw [List.drop_eq_getElem_cons h1, show 40 - j = (40 - (j + 1)) + 1 by omega, fewL, if_neg h3]
    · rw [show 40 - j = 0 by omega, fewL]
  · rw [List.drop_eq_nil_of_le (by omega)]
    rcases 40 - j with _ | q
    · rw [fewL]
    · rw [fewL]

set_option maxHeartbeats 800000 in
theorem short_k (s : ByteArray) (k : Nat) (w : World) (hs : s.size ≤ 9223372036854775807) :
    Calls Tryd.prog 35 #[.string s, .int .i64 (k : Int)] w fun e w' => e = .returned (.string (shB k s)) ∧ w = w' := by
  unfold shB
  obtain ⟨n, hn⟩ : ∃ n, n = s.size := ⟨_, rfl⟩
  by_cases h : k < n
  · have h1 : (k : Int) < (s.size : Int) := by omega
    have h2 : (k : Int) ≤ (s.size : Int) := by omega
    have h3 : (0 : Int) ≤ (k : Int) := by omega
    rw [if_pos (by omega)]
    go_enter Tryd.func35, Tryd.ntmps35
    go_wp2_with fail
    go_ret
    exact ⟨rfl, rfl⟩
  · have h1 : ¬ (k : Int) < (s.size : Int) := by omega
    rw [if_neg (by omega)]
    go_enter Tryd.func35, Tryd.ntmps35
    go_wp2_with fail
    go_ret
    exact ⟨rfl, rfl⟩

theorem step_allocV (w : World) {o : Oper} {a : Act} {K : Act → World → Prop} {Q : Exit → Act → World → Prop} (ho : o.op = .alloc 26)
    (h : K (a.put o.dst (.pointer (some ⟨w.heap.size, 0, none⟩))) (w.alloc (.cells cellsZ 26))) : o.wp Tryd.prog a w K Q := by
  obtain ⟨i0, hi, hz0, hz1, hz2⟩ := info_parts Tryd.infoValue
  unfold Oper.wp
  rw [run_alloc_arr _ o 26 ho cellsZ 6 (by rw [hi]; simp [hz0, hz1]) w]
  exact h
theorem step_storeV (w : World) {o : Oper} {a : Act} {K : Act → World → Prop} {Q : Exit → Act → World → Prop} (x y : Operand) (ho : o.op = .store 26 x y)
    (g : Nat) (cells : Array Value) (hx : a.eval x = .pointer (some ⟨g, 0, none⟩)) (hy : a.eval y = .agg cells) (old : Array Value) (hg : Blk w g 26 old) (h6 : cells.size = 6) (hold : old.size = 6) (h1 : cells.all (·.oneCell') = true)
    (h : K (a.put o.dst undef) (w.setRow g cells)) : o.wp Tryd.prog a w K Q :=
  wp_store_row 26 x y ho g cells hx hy 26 old hg (by rw [sizeValue, h6]) (by rw [hold, h6]) h1 h
theorem step_storeC (w : World) {P : Program} {o : Oper} {a : Act} {K : Act → World → Prop} {Q : Exit → Act → World → Prop} (ty : TypeId) (x y : Operand) (ho : o.op = .store ty x y)
    (b i : Nat) (v old : Value) (hx : a.eval x = .pointer (some ⟨b, i, none⟩)) (hy : a.eval y = v) (hv : v.oneCell' = true) (hi : (P.info? ty).map (·.size) = some 1) (hc : w.cell? ⟨b, i, none⟩ = some old) (hf : w.frozen? ⟨b, i, none⟩ = false)
    (h : K (a.put o.dst undef) (w.setCell ⟨b, i, none⟩ v)) : o.wp P a w K Q := by
  unfold Oper.wp execOp
  simp only [ho, hx, hy, Instr.storeAt, Instr.sureAddr, Sem.run_bind, Sem.run_pure, Result.andThen_ok, storeVar_cell P ty hi ⟨b, i, none⟩ v old hv w hc hf]
  exact h
end Go.Proofs.YtmpnehhndhepgaaDoor

/- A load of a whole row, where the operation's guard holds. It proves no statement. -/

namespace Go.Proofs.YtmpnehhndhepgaaDoor
open Go.RowKit
set_option linter.unusedVariables false

/-- A load of a whole row, where the operation's guard holds. -/
theorem load_rowG {P : Program} {ops : Array Oper} {rest : List Oper} {o : Oper} {a : Act} {w : World} {Q : Exit → Act → World → Prop} (hw : Region.wanted o (yielded ops a.tmps) = true) (ty : TypeId) (x : Operand) (ho : o.op = .load ty x)
    (g : Nat) (hx : a.eval x = .pointer (some ⟨g, 0, none⟩)) (t : TypeId) (cs : Array Value) (fr : Nat × Nat) (d : TypeDesc) (hg : w.heap[g]? = some (.cells cs t fr))
    (hu : P.underlying ty = some d) (hd : (match d with | .struct _ | .array _ _ => true | _ => false) = true) (hi : (P.info? ty).map (·.size) = some cs.size)
    (h : wpList P ops Q rest (a.put o.dst (.agg cs)) w) : wpList P ops Q (o :: rest) a w := by
  unfold wpList
  rw [if_pos hw]
  exact .inl (wp_load_row ty x ho g hx t cs fr d hg hu hd hi h)
end Go.Proofs.YtmpnehhndhepgaaDoor

/- The document's own: whether a value can be. It proves no statement. -/



namespace Go.Proofs.YtmpnehhndhepgaaDoor
open Go.RowKit
set_option linter.unusedVariables false
set_option linter.unusedSimpArgs false

theorem less_tri : ∀ (x y : List UInt8), (Op.bytesLess y x || (y == x)) = !Op.bytesLess x y
  | [], [] => by decide
  | [], b :: y => by simp [Op.bytesLess]
  | a :: x, [] => by simp [Op.bytesLess]
  | a :: x, b :: y => by
    have ih := less_tri x y
    simp only [Op.bytesLess]
    rcases Nat.lt_trichotomy a.toNat b.toNat with h | h | h
    · have h1 : a < b := h
      have h2 : ¬ b < a := fun q => by have : b.toNat < a.toNat := q; omega
      have h3 : ¬ a = b := fun q => by rw [q] at h; omega
      have h4 : ¬ b = a := fun q => h3 q.symm
      simp [h1, h2, h3, h4]
    · obtain rfl : a = b := UInt8.toNat_inj.1 h
      have h2 : ¬ a < a := fun q => by have : a.toNat < a.toNat := q; omega
      simpa [h2] using ih
    · have h1 : b < a := h
      have h2 : ¬ a < b := fun q => by have : a.toNat < b.toNat := q; omega
      have h3 : ¬ a = b := fun q => by rw [q] at h; omega
      have h4 : ¬ b = a := fun q => h3 q.symm
      simp [h1, h2, h3, h4]

set_option maxRecDepth 100000 in
set_option maxHeartbeats 1600000 in
theorem rrises_any (A : Option Addr) (c : Nat) (ks : List ByteArray) (w : World) (B : Nat) (h : Keys w B A ks) (hn : ks.length ≤ 1048576) (hBw : B ≤ w.heap.size) :
    Calls Tryd.prog 45 #[.slice A ks.length c] w fun e w' => e = .returned (.bool (riseB ks)) ∧ Still w w' := by
  obtain ⟨m, hm⟩ : ∃ m, m = ks.length := ⟨_, rfl⟩
  have hiff := riseB_iff ks
  have hat := h.2
  rw [← hm] at hn hiff hat ⊢
  obtain ⟨rb, hrb⟩ : ∃ rb, rb = riseB ks := ⟨_, rfl⟩
  rw [← hrb] at hiff ⊢
  have HIFF := Lib.hid hiff
  have HAT := Lib.hid hat
  have d3 : (m : Int) ≤ 1048576 := by omega
  clear hiff hat hm hrb h hn
  go_enter Tryd.func45, Tryd.ntmps45
  go_wp2_with fail
  go_loopw [3] (fun iv wr => ∃ j : Nat, 1 ≤ j ∧ iv = .int .i64 j ∧ Hid ((∀ i, i + 1 < j → i + 1 < m → Op.bytesLess (ks.getD i ByteArray.empty).toList (ks.getD (i + 1) ByteArray.empty).toList = true) ∧ Still w wr)) (fun iv _ => m - (intOf iv).toNat)
  case atStart => exact ⟨1, by omega, rfl, fun i hi => by omega, Still.refl _⟩
  case round =>
    obtain ⟨j, hj, rfl, hin⟩ := hrel
    by_cases hlt : j < m
    · obtain ⟨g, o, rfl, hgB, hc⟩ := HAT.out (by omega)
      have hwn := hin.out.2
      have hgw : g < w.heap.size := by omega
      have c0 : wr.cell? ⟨g, o + (j - 1), none⟩ = some (.string (ks.getD (j - 1) ByteArray.empty)) := (hwn.cell (p := ⟨g, o + (j - 1), none⟩) hgw).trans (hc (j - 1) (by omega))
      have c1 : wr.cell? ⟨g, o + j, none⟩ = some (.string (ks.getD j ByteArray.empty)) := (hwn.cell (p := ⟨g, o + j, none⟩) hgw).trans (hc j hlt)
      obtain ⟨i0, hi0⟩ : ∃ i0, i0 = j - 1 := ⟨_, rfl⟩
      rw [← hi0] at c0
      have e0 : (j : Int) - 1 = (i0 : Int) := by omega
      have e1 : IntKind.i64.wrap ((j : Int) - 1) = (i0 : Int) := by rw [IntKind.wrap_i64]; omega
      have e2 : IntKind.i64.wrap (i0 : Int) = (i0 : Int) := by rw [IntKind.wrap_i64]; omega
      have d1 : (j : Int) < (m : Int) := by omega
      have d2 : (0 : Int) ≤ (j : Int) := by omega
      have d4 : (0 : Int) ≤ (i0 : Int) := by omega
      have d5 : (i0 : Int) < (m : Int) := by omega
      obtain ⟨a, ha⟩ : ∃ a, a = ks.getD i0 ByteArray.empty := ⟨_, rfl⟩
      obtain ⟨b, hb⟩ : ∃ b, b = ks.getD j ByteArray.empty := ⟨_, rfl⟩
      rw [← ha] at c0
      rw [← hb] at c1
      have HA := Lib.hid ha
      have HB := Lib.hid hb
      have HI0 := Lib.hid hi0
      have HWN := Lib.hid hwn
      have HLT := Lib.hid hlt
      have HJ := Lib.hid hj
      clear ha hb hi0 hwn hlt hc hj hgB hgw
      obtain ⟨q, hq⟩ : ∃ q, q = Op.bytesLess a.toList b.toList := ⟨_, rfl⟩
      have hq' := hq.symm
      have HQ := Lib.hid hq
      clear hq
      have tri := less_tri a.toList b.toList
      rw [← HQ.out] at tri
      obtain ⟨L, hL⟩ : ∃ L, L = Op.bytesLess b.toList a.toList := ⟨_, rfl⟩
      obtain ⟨E, hE⟩ : ∃ E, E = (b.toList == a.toList) := ⟨_, rfl⟩
      rw [← hL, ← hE] at tri
      have hL' := hL.symm
      have hE' := hE.symm
      clear hL hE
      cases q
      · rcases (show (L = true ∧ E = true) ∨ (L = true ∧ E = false) ∨ (L = false ∧ E = true) by cases L <;> cases E <;> simp_all) with ⟨rfl, rfl⟩ | ⟨rfl, rfl⟩ | ⟨rfl, rfl⟩
        all_goals
          clear tri
          go_wp2_with fail
          go_quiet (fail)
          go_wp2_with fail
          (try simp only [Exit.inBlock, Exit.then])
          have hr : rb = false := by
            rw [Bool.eq_false_iff]
            intro h
            have h2 := HIFF.out.1 h i0 (by have := HI0.out; have := HJ.out; have := HLT.out; omega)
            rw [← HA.out, show i0 + 1 = j by have := HI0.out; have := HJ.out; omega, ← HB.out, hq'] at h2
            cases h2
          rw [hr]
          go_ret
          exact ⟨rfl, still_drewN HWN.out _⟩
      · obtain ⟨rfl, rfl⟩ : L = false ∧ E = false := by cases L <;> cases E <;> simp_all
        skip
        clear tri
        go_wp2_with fail
        go_quiet (fail)
        go_wp2_with fail
        go_roundw
        case rel =>
          refine ⟨j + 1, by omega, by go_num, Lib.hid ⟨fun i h1 h2 => ?_, still_drewN HWN.out _⟩⟩
          by_cases hi : i = i0
          · rw [hi, ← HA.out, show i0 + 1 = j by have := HI0.out; have := HJ.out; omega, ← HB.out]; exact hq'
          · exact hin.out.1 i (by have := HI0.out; omega) h2
        case measure => simp [intOf]; have := HLT.out; omega
    · have hr : rb = true := HIFF.out.2 fun i hi => hin.out.1 i (by omega) hi
      have d1 : ¬ (j : Int) < (m : Int) := by omega
      have HR := Lib.hid hr
      clear hr hlt
      have HWN := Lib.hid hin.out.2
      go_wp2_with fail
      go_ret
      rw [HR.out]
      exact ⟨rfl, HWN.out⟩

/-- What is said of the document's own 'Can' at a depth. -/
def RCanOK (d : Nat) : Prop := ∀ (x : Tr) (w : World) (B : Nat) (cs : Array Value), HasV w B x cs → B ≤ w.heap.size →
  Calls Tryd.prog 26 #[.agg cs, .int .i64 (d : Int)] w fun e w' => e = .returned (.bool (canT d x)) ∧ Still w w'

set_option maxRecDepth 100000 in
set_option maxHeartbeats 3200000 in
theorem rcan_list (d : Nat) (hd : d ≤ 16) (OK : RCanOK (d + 1)) (i : Int) (v2 v3 : Value) (Ak : Option Addr) (ks : List ByteArray) (ck : Nat) (Al : Option Addr) (l : List Tr) (cl : Nat) (w : World) (B : Nat) (hB : B ≤ w.heap.size) (hl : l.length ≤ 1048576) (hks : Keys w B Ak ks) (hkl : ks.length ≤ 1048576) (h : 0 < l.length → ∃ g o, Al = some ⟨g, o, none⟩ ∧ g < B ∧ HasL w B g o l) :
    Calls Tryd.prog 26 #[.agg #[.int .i64 6, .int .i64 i, v2, v3, .slice Ak ks.length ck, .slice Al l.length cl], .int .i64 (d : Int)] w fun e w' => e = .returned (.bool (canL (d + 1) l)) ∧ Still w w' := by
  obtain ⟨wA, hA⟩ : ∃ wA, wA = w.alloc (.cells #[.int .i64 6, .int .i64 i, v2, v3, .slice Ak ks.length ck, .slice Al l.length cl] 26) := ⟨_, rfl⟩
  have sA : Still w wA := by rw [hA]; exact (Still.refl w).alloc (Nat.le_refl _) _
  have bA : Blk wA w.heap.size 26 #[.int .i64 6, .int .i64 i, v2, v3, .slice Ak ks.length ck, .slice Al l.length cl] := by rw [hA]; exact Blk.new _ _ _
  obtain ⟨m, hm⟩ : ∃ m, m = l.length := ⟨_, rfl⟩
  rw [← hm] at hl h hA bA ⊢
  obtain ⟨fs, hu⟩ := underValue
  have HU := Lib.hid hu
  have HH := Lib.hid h
  have HM := Lib.hid hm
  have HBW := Lib.hid hB
  have SA := Lib.hid sA
  have BA := Lib.hid bA
  have HA := Lib.hid hA
  have d0 : ¬ 16 < (d : Int) := by omega
  have e2 : IntKind.i64.wrap ((d : Int) + 1) = (d : Int) + 1 := by rw [IntKind.wrap_i64]; omega
  have d3 : (m : Int) ≤ 1048576 := by omega
  have k0 : wA.cell? ⟨w.heap.size, 0, none⟩ = some (.int .i64 6) := bA.cell 0
  have k4 : wA.cell? ⟨w.heap.size, 4, none⟩ = some (.slice Ak ks.length ck) := bA.cell 4
  have k5 : wA.cell? ⟨w.heap.size, 5, none⟩ = some (.slice Al m cl) := bA.cell 5
  clear sA hA bA hm hl h hB hu hd hks hkl
  go_enter Tryd.func26, Tryd.ntmps26
  go_upto_region 1 with fail
  rw [show (w.alloc (.cells #[.int .i64 6, .int .i64 i, v2, v3, .slice Ak ks.length ck, .slice Al m cl] 26)) = wA from HA.out.symm]
  skip
  go_wp2_with fail
  go_loopw [5] (fun iv wr => ∃ j : Nat, j ≤ m ∧ iv = .int .i64 j ∧ Hid (Still w wr ∧ Blk wr w.heap.size 26 #[.int .i64 6, .int .i64 i, v2, v3, .slice Ak ks.length ck, .slice Al m cl] ∧ canL (d + 1) l = canL (d + 1) (l.drop j))) (fun iv _ => m - (intOf iv).toNat)
  case atStart => exact ⟨0, by omega, rfl, SA.out, BA.out, rfl⟩
  case round =>
    obtain ⟨j, hj, rfl, hin⟩ := hrel
    have k0 : wr.cell? ⟨w.heap.size, 0, none⟩ = some (.int .i64 6) := hin.out.2.1.cell 0
    have k5 : wr.cell? ⟨w.heap.size, 5, none⟩ = some (.slice Al m cl) := hin.out.2.1.cell 5
    by_cases hlt : j < m
    · obtain ⟨gl, ol, rfl, hgl, hh⟩ := HH.out (by omega)
      obtain ⟨x, hx⟩ : ∃ x, l[j]? = some x := ⟨_, List.getElem?_eq_getElem (by rw [← HM.out]; exact hlt)⟩
      have bel : Below B w wr := Below.mono hin.out.1 HBW.out
      obtain ⟨⟨lx⟩, hvx, hzx, hcx⟩ := HasL.at l ol (HasL.below bel gl hgl ol l hh) j x hx
      have d1 : (j : Int) < (m : Int) := by omega
      have d2 : (0 : Int) ≤ (j : Int) := by omega
      have C := OK x wr B lx.toArray hvx (Nat.le_trans HBW.out hin.out.1.size)
      have e1 : ((d + 1 : Nat) : Int) = (d : Int) + 1 := by omega
      rw [e1] at C
      have hsx : canL (d + 1) (l.drop j) = (canT (d + 1) x && canL (d + 1) (l.drop (j + 1))) := by
        rw [drop_at l j x hx, canL]
      have RNG := Lib.hid (show wr.rangeAt gl (ol + j * 6) lx from fun q v hq => by
        have := hcx q v (by simpa using hq)
        rwa [show ol + 6 * j + q = ol + j * 6 + q by omega] at this)
      have LX := Lib.hid (show lx.length = 6 by simpa using hzx)
      have HSX := Lib.hid hsx
      have HLT := Lib.hid hlt
      have CC := Lib.hid C
      obtain ⟨q, hq⟩ : ∃ q, q = canT (d + 1) x := ⟨_, rfl⟩
      have CC' : Hid (Calls Tryd.prog 26 #[.agg lx.toArray, .int .i64 ((d : Int) + 1)] wr fun e w' => e = .returned (.bool q) ∧ Still wr w') := by rw [hq]; exact CC
      rw [← hq] at HSX
      clear hlt hx hh hgl hvx hzx hcx bel hsx hq C CC e1
      cases q
      · go_wp2_with (first
          | (guard_target =~ wpList _ _ _ (Oper.mk (some 52) _ _ _ _ _ :: _) _ _; go_must (refine wpList_load_mid rfl 26 (.tmp 51) rfl gl (ol + j * 6) rfl lx (.struct fs) RNG.out HU.out rfl (by rw [sizeValue, LX.out]) ?_)))
        refine CC'.out.mono ?_
        rintro e w1 ⟨rfl, s1⟩
        have S1 := Lib.hid (Still.trans hin.out.1 s1)
        have Q := Lib.hid (show canL (d + 1) l = false by rw [hin.out.2.2, HSX.out]; simp)
        clear s1 CC'
        go_wp2_with fail
        (try simp only [Exit.inBlock, Exit.then])
        go_ret
        rw [Q.out]
        exact ⟨rfl, S1.out⟩
      · go_wp2_with (first
          | (guard_target =~ wpList _ _ _ (Oper.mk (some 52) _ _ _ _ _ :: _) _ _; go_must (refine wpList_load_mid rfl 26 (.tmp 51) rfl gl (ol + j * 6) rfl lx (.struct fs) RNG.out HU.out rfl (by rw [sizeValue, LX.out]) ?_)))
        refine CC'.out.mono ?_
        rintro e w1 ⟨rfl, s1⟩
        have S1 := Lib.hid (Still.trans hin.out.1 s1)
        have BX1 := Lib.hid (hin.out.2.1.still s1)
        clear s1 CC'
        go_wp2_with fail
        go_roundw
        case rel => exact ⟨j + 1, by have := HLT.out; omega, by go_num, S1.out, BX1.out, by rw [hin.out.2.2, HSX.out]; simp⟩
        case measure => simp [intOf]; have := HLT.out; omega
    · obtain rfl : j = m := by omega
      have hend : canL (d + 1) l = true := by
        rw [hin.out.2.2, List.drop_of_length_le (by rw [HM.out]; omega)]
        unfold canL
        rfl
      have HE := Lib.hid hend
      have d1 : ¬ (j : Int) < (j : Int) := by omega
      clear hend hlt
      go_wp2_with fail
      go_ret
      rw [HE.out]
      exact ⟨rfl, hin.out.1⟩

set_option maxRecDepth 100000 in
set_option maxHeartbeats 3200000 in
theorem rcan_map (d : Nat) (hd : d ≤ 16) (OK : RCanOK (d + 1)) (i : Int) (v2 v3 : Value) (Ak : Option Addr) (ks : List ByteArray) (ck : Nat) (Al : Option Addr) (l : List Tr) (cl : Nat) (w : World) (B : Nat) (hB : B ≤ w.heap.size) (hl : l.length ≤ 1048576) (hks : Keys w B Ak ks) (hkl : ks.length ≤ 1048576) (h : 0 < l.length → ∃ g o, Al = some ⟨g, o, none⟩ ∧ g < B ∧ HasL w B g o l) :
    Calls Tryd.prog 26 #[.agg #[.int .i64 7, .int .i64 i, v2, v3, .slice Ak ks.length ck, .slice Al l.length cl], .int .i64 (d : Int)] w fun e w' => e = .returned (.bool ((ks.length == l.length && riseB ks) && canL (d + 1) l)) ∧ Still w w' := by
  obtain ⟨wA, hA⟩ : ∃ wA, wA = w.alloc (.cells #[.int .i64 7, .int .i64 i, v2, v3, .slice Ak ks.length ck, .slice Al l.length cl] 26) := ⟨_, rfl⟩
  have sA : Still w wA := by rw [hA]; exact (Still.refl w).alloc (Nat.le_refl _) _
  have bA : Blk wA w.heap.size 26 #[.int .i64 7, .int .i64 i, v2, v3, .slice Ak ks.length ck, .slice Al l.length cl] := by rw [hA]; exact Blk.new _ _ _
  have RS := Lib.hid (rrises_any Ak ck ks wA B (hks.below (Below.mono sA hB)) hkl (Nat.le_trans hB sA.size))
  obtain ⟨m, hm⟩ : ∃ m, m = l.length := ⟨_, rfl⟩
  rw [← hm] at hl h hA bA ⊢
  obtain ⟨fs, hu⟩ := underValue
  have HU := Lib.hid hu
  have HH := Lib.hid h
  have HM := Lib.hid hm
  have HBW := Lib.hid hB
  have SA := Lib.hid sA
  have BA := Lib.hid bA
  have HA := Lib.hid hA
  have d0 : ¬ 16 < (d : Int) := by omega
  have e2 : IntKind.i64.wrap ((d : Int) + 1) = (d : Int) + 1 := by rw [IntKind.wrap_i64]; omega
  have d3 : (m : Int) ≤ 1048576 := by omega
  have k0 : wA.cell? ⟨w.heap.size, 0, none⟩ = some (.int .i64 7) := bA.cell 0
  have k4 : wA.cell? ⟨w.heap.size, 4, none⟩ = some (.slice Ak ks.length ck) := bA.cell 4
  have k5 : wA.cell? ⟨w.heap.size, 5, none⟩ = some (.slice Al m cl) := bA.cell 5
  obtain ⟨rb, hrb⟩ : ∃ rb, rb = riseB ks := ⟨_, rfl⟩
  rw [← hrb] at RS ⊢
  obtain ⟨nk, hnk⟩ : ∃ nk, nk = ks.length := ⟨_, rfl⟩
  have HNK := Lib.hid hnk
  by_cases hne : ks.length = m
  · have d7 : ((ks.length : Int) != (m : Int)) = false := by simp; omega
    have e0 : (ks.length == m) = true := by simpa using hne
    rw [e0]
    clear sA hA bA hm hl h hB hu hd hks hkl hrb hnk hne e0
    cases rb
    · go_enter Tryd.func26, Tryd.ntmps26
      go_upto_region 1 with fail
      rw [show (w.alloc (.cells #[.int .i64 7, .int .i64 i, v2, v3, .slice Ak ks.length ck, .slice Al m cl] 26)) = wA from HA.out.symm]
      go_wp2_with fail
      refine RS.out.mono ?_
      rintro e w1 ⟨rfl, s1⟩
      have S1 := Lib.hid (SA.out.trans s1)
      clear s1
      go_wp2_with fail
      (try simp only [Exit.inBlock, Exit.then])
      go_ret
      exact ⟨by simp, S1.out⟩
    · have HT := Lib.hid (show ((true && true) && canL (d + 1) l) = canL (d + 1) l by simp)
      rw [HT.out]
      go_enter Tryd.func26, Tryd.ntmps26
      go_upto_region 1 with fail
      rw [show (w.alloc (.cells #[.int .i64 7, .int .i64 i, v2, v3, .slice Ak ks.length ck, .slice Al m cl] 26)) = wA from HA.out.symm]
      go_wp2_with fail
      refine RS.out.mono ?_
      rintro e w1 ⟨rfl, s1⟩
      have S1 := Lib.hid (SA.out.trans s1)
      have BX := Lib.hid (BA.out.still s1)
      clear s1 RS k0 k4 k5
      go_wp2_with fail
      go_loopw [5] (fun iv wr => ∃ j : Nat, j ≤ m ∧ iv = .int .i64 j ∧ Hid (Still w wr ∧ Blk wr w.heap.size 26 #[.int .i64 7, .int .i64 i, v2, v3, .slice Ak ks.length ck, .slice Al m cl] ∧ canL (d + 1) l = canL (d + 1) (l.drop j))) (fun iv _ => m - (intOf iv).toNat)
      case atStart => exact ⟨0, by omega, rfl, S1.out, BX.out, rfl⟩
      case round =>
        obtain ⟨j, hj, rfl, hin⟩ := hrel
        have k0 : wr.cell? ⟨w.heap.size, 0, none⟩ = some (.int .i64 7) := hin.out.2.1.cell 0
        have k5 : wr.cell? ⟨w.heap.size, 5, none⟩ = some (.slice Al m cl) := hin.out.2.1.cell 5
        by_cases hlt : j < m
        · obtain ⟨gl, ol, rfl, hgl, hh⟩ := HH.out (by omega)
          obtain ⟨x, hx⟩ : ∃ x, l[j]? = some x := ⟨_, List.getElem?_eq_getElem (by rw [← HM.out]; exact hlt)⟩
          have bel : Below B w wr := Below.mono hin.out.1 HBW.out
          obtain ⟨⟨lx⟩, hvx, hzx, hcx⟩ := HasL.at l ol (HasL.below bel gl hgl ol l hh) j x hx
          have d1 : (j : Int) < (m : Int) := by omega
          have d2 : (0 : Int) ≤ (j : Int) := by omega
          have C := OK x wr B lx.toArray hvx (Nat.le_trans HBW.out hin.out.1.size)
          have e1 : ((d + 1 : Nat) : Int) = (d : Int) + 1 := by omega
          rw [e1] at C
          have hsx : canL (d + 1) (l.drop j) = (canT (d + 1) x && canL (d + 1) (l.drop (j + 1))) := by
            rw [drop_at l j x hx, canL]
          have RNG := Lib.hid (show wr.rangeAt gl (ol + j * 6) lx from fun q v hq => by
            have := hcx q v (by simpa using hq)
            rwa [show ol + 6 * j + q = ol + j * 6 + q by omega] at this)
          have LX := Lib.hid (show lx.length = 6 by simpa using hzx)
          have HSX := Lib.hid hsx
          have HLT := Lib.hid hlt
          have CC := Lib.hid C
          obtain ⟨q, hq⟩ : ∃ q, q = canT (d + 1) x := ⟨_, rfl⟩
          have CC' : Hid (Calls Tryd.prog 26 #[.agg lx.toArray, .int .i64 ((d : Int) + 1)] wr fun e w' => e = .returned (.bool q) ∧ Still wr w') := by rw [hq]; exact CC
          rw [← hq] at HSX
          clear hlt hx hh hgl hvx hzx hcx bel hsx hq C CC e1
          cases q
          · go_wp2_with (first
              | (guard_target =~ wpList _ _ _ (Oper.mk (some 52) _ _ _ _ _ :: _) _ _; go_must (refine wpList_load_mid rfl 26 (.tmp 51) rfl gl (ol + j * 6) rfl lx (.struct fs) RNG.out HU.out rfl (by rw [sizeValue, LX.out]) ?_)))
            refine CC'.out.mono ?_
            rintro e w1 ⟨rfl, s1⟩
            have S1 := Lib.hid (Still.trans hin.out.1 s1)
            have Q := Lib.hid (show canL (d + 1) l = false by rw [hin.out.2.2, HSX.out]; simp)
            clear s1 CC'
            go_wp2_with fail
            (try simp only [Exit.inBlock, Exit.then])
            go_ret
            rw [Q.out]
            exact ⟨rfl, S1.out⟩
          · go_wp2_with (first
              | (guard_target =~ wpList _ _ _ (Oper.mk (some 52) _ _ _ _ _ :: _) _ _; go_must (refine wpList_load_mid rfl 26 (.tmp 51) rfl gl (ol + j * 6) rfl lx (.struct fs) RNG.out HU.out rfl (by rw [sizeValue, LX.out]) ?_)))
            refine CC'.out.mono ?_
            rintro e w1 ⟨rfl, s1⟩
            have S1 := Lib.hid (Still.trans hin.out.1 s1)
            have BX1 := Lib.hid (hin.out.2.1.still s1)
            clear s1 CC'
            go_wp2_with fail
            go_roundw
            case rel => exact ⟨j + 1, by have := HLT.out; omega, by go_num, S1.out, BX1.out, by rw [hin.out.2.2, HSX.out]; simp⟩
            case measure => simp [intOf]; have := HLT.out; omega
        · obtain rfl : j = m := by omega
          have hend : canL (d + 1) l = true := by
            rw [hin.out.2.2, List.drop_of_length_le (by rw [HM.out]; omega)]
            unfold canL
            rfl
          have HE := Lib.hid hend
          have d1 : ¬ (j : Int) < (j : Int) := by omega
          clear hend hlt
          go_wp2_with fail
          go_ret
          rw [HE.out]
          exact ⟨rfl, hin.out.1⟩

  · have d7 : ((ks.length : Int) != (m : Int)) = true := by simp; omega
    have e0 : (ks.length == m) = false := by simpa using hne
    rw [e0]
    clear sA hA bA hm hl h hB hu hd hks hkl hrb hnk hne e0 RS
    go_enter Tryd.func26, Tryd.ntmps26
    go_upto_region 1 with fail
    rw [show (w.alloc (.cells #[.int .i64 7, .int .i64 i, v2, v3, .slice Ak ks.length ck, .slice Al m cl] 26)) = wA from HA.out.symm]
    go_wp2_with fail
    (try simp only [Exit.inBlock, Exit.then])
    go_ret
    exact ⟨by simp, SA.out⟩

set_option maxRecDepth 100000 in
set_option maxHeartbeats 1600000 in
theorem rcan_deep (cs : Array Value) (lx : List Value) (hcs : cs = lx.toArray) (d : Int) (hd : 16 < d) (w : World) :
    Calls Tryd.prog 26 #[.agg cs, .int .i64 d] w fun e w' => e = .returned (.bool false) ∧ Still w w' := by
  subst hcs
  go_enter Tryd.func26, Tryd.ntmps26
  go_upto_region 0 with fail
  refine wp_region_lit ?_
  refine wpList_box_arr rfl 26 (.tmp 0) rfl (some 2) rfl _ rfl ?_
  go_wp2_with fail
  (try simp only [Exit.inBlock, Exit.then])
  go_ret
  exact ⟨rfl, (Still.refl w).alloc (Nat.le_refl _) _⟩
set_option maxRecDepth 100000 in
set_option maxHeartbeats 1600000 in
theorem rcan_leaf (k i : Int) (v2 v3 v4 : Value) (Al : Option Addr) (m cl : Nat) (d : Int) (hd : ¬ 16 < d) (hk : k ≤ 5 ∨ 7 < k) (w : World) :
    Calls Tryd.prog 26 #[.agg #[.int .i64 k, .int .i64 i, v2, v3, v4, .slice Al m cl], .int .i64 d] w fun e w' => e = .returned (.bool (decide (0 ≤ k) && decide (k ≤ 7))) ∧ Still w w' := by
  obtain ⟨wA, hA⟩ : ∃ wA, wA = w.alloc (.cells #[.int .i64 k, .int .i64 i, v2, v3, v4, .slice Al m cl] 26) := ⟨_, rfl⟩
  have sA : Still w wA := by rw [hA]; exact (Still.refl w).alloc (Nat.le_refl _) _
  have bA : Blk wA w.heap.size 26 #[.int .i64 k, .int .i64 i, v2, v3, v4, .slice Al m cl] := by rw [hA]; exact Blk.new _ _ _
  have k0 : wA.cell? ⟨w.heap.size, 0, none⟩ = some (.int .i64 k) := bA.cell 0
  have k5 : wA.cell? ⟨w.heap.size, 5, none⟩ = some (.slice Al m cl) := bA.cell 5
  have HA := Lib.hid hA
  have SA := Lib.hid sA
  clear hA sA bA
  by_cases h1 : k < 0
  · have e : (decide (0 ≤ k) && decide (k ≤ 7)) = false := by rw [show decide (0 ≤ k) = false by simpa using h1]; rfl
    rw [e]
    clear e hk
    go_enter Tryd.func26, Tryd.ntmps26
    go_upto_region 1 with fail
    rw [← HA.out]
    go_wp2_with fail
    (try simp only [Exit.inBlock, Exit.then])
    go_ret
    exact ⟨rfl, SA.out⟩
  by_cases h2 : 7 < k
  · have e : (decide (0 ≤ k) && decide (k ≤ 7)) = false := by rw [show decide (k ≤ 7) = false by simp; omega]; simp
    rw [e]
    clear e hk
    go_enter Tryd.func26, Tryd.ntmps26
    go_upto_region 1 with fail
    rw [← HA.out]
    go_wp2_with fail
    (try simp only [Exit.inBlock, Exit.then])
    go_ret
    exact ⟨rfl, SA.out⟩
  have e : (decide (0 ≤ k) && decide (k ≤ 7)) = true := by rw [show decide (0 ≤ k) = true by simp; omega, show decide (k ≤ 7) = true by simp; omega]; rfl
  rw [e]
  have h3 : ¬ 6 ≤ k := by omega
  have h4 : ¬ k = 7 := by omega
  have h4' : (k == 7) = false := by simpa using h4
  clear e hk
  by_cases hm : 0 < m
  · have h5 : (0 : Int) < (m : Int) := by omega
    clear hm
    go_enter Tryd.func26, Tryd.ntmps26
    go_upto_region 1 with fail
    rw [← HA.out]
    go_wp2_with fail
    go_loopw [5] (fun iv wr => iv = .int .i64 0 ∧ wr = wA) (fun _ _ => 0)
    case atStart => exact ⟨rfl, rfl⟩
    case round =>
      obtain ⟨rfl, rfl⟩ := hrel
      go_wp2_with fail
      go_ret
      exact ⟨rfl, SA.out⟩
  · have h5 : ¬ (0 : Int) < (m : Int) := by omega
    clear hm
    go_enter Tryd.func26, Tryd.ntmps26
    go_upto_region 1 with fail
    rw [← HA.out]
    go_wp2_with fail
    go_loopw [5] (fun iv wr => iv = .int .i64 0 ∧ wr = wA) (fun _ _ => 0)
    case atStart => exact ⟨rfl, rfl⟩
    case round =>
      obtain ⟨rfl, rfl⟩ := hrel
      go_wp2_with fail
      go_ret
      exact ⟨rfl, SA.out⟩

/-- The document's own 'Can', at a depth of up to 17. -/
theorem rcanOK : ∀ (n d : Nat), d + n = 17 → RCanOK d := by
  intro n
  induction n with
  | zero =>
    intro d hd x w B cs h hB
    obtain rfl : d = 17 := by omega
    obtain ⟨k, i, b, t, ks, l⟩ := x
    unfold HasV at h
    obtain ⟨A, n, c, Ak, ck, Al, cl, rfl, _⟩ := h
    have e : canT 17 (.mk k i b t ks l) = false := by unfold canT; simp
    rw [e]
    exact rcan_deep _ _ rfl 17 (by omega) w
  | succ n ih =>
    intro d hd x w B cs h hB
    have OK := ih (d + 1) (by omega)
    obtain ⟨k, i, b, t, ks, l⟩ := x
    unfold HasV at h
    obtain ⟨A, n', c, Ak, ck, Al, cl, rfl, hkb, hib, hr, ht, ⟨hkeys, hkl⟩, hll, hL⟩ := h
    have hd16 : d ≤ 16 := by omega
    by_cases h6 : k = 6
    · subst h6
      have e : canT d (.mk 6 i b t ks l) = canL (d + 1) l := by
        unfold canT
        rw [show decide (d ≤ 16) = true by simpa using hd16]
        simp
      rw [e]
      exact rcan_list d hd16 OK i _ _ Ak ks ck Al l cl w B hB hll hkeys hkl hL
    by_cases h7 : k = 7
    · subst h7
      have e : canT d (.mk 7 i b t ks l) = ((ks.length == l.length && riseB ks) && canL (d + 1) l) := by
        unfold canT
        rw [show decide (d ≤ 16) = true by simpa using hd16]
        simp
      rw [e]
      exact rcan_map d hd16 OK i _ _ Ak ks ck Al l cl w B hB hll hkeys hkl hL
    have e : canT d (.mk k i b t ks l) = (decide (0 ≤ k) && decide (k ≤ 7)) := by
      unfold canT
      rw [show decide (d ≤ 16) = true by simpa using hd16, show decide (k ≠ 7) = true by simpa using h7]
      by_cases h8 : 7 < k
      · rw [show decide (k ≤ 7) = false by simp; omega]; simp
      · rw [show decide (k < 6) = true by simp; omega]; simp
    rw [e]
    exact rcan_leaf k i _ _ _ Al l.length cl d (by omega) (by omega) w
theorem rcan_any (d : Nat) (hd : d ≤ 17) : RCanOK d := rcanOK (17 - d) d (by omega)
end Go.Proofs.YtmpnehhndhepgaaDoor

/- The document's own: whether two values are the same; all but rows. It proves no statement. -/


namespace Go.Proofs.YtmpnehhndhepgaaDoor
open Go.RowKit
set_option linter.unusedVariables false
set_option linter.unusedSimpArgs false

set_option maxRecDepth 100000 in
set_option maxHeartbeats 1600000 in
theorem rsame_plain (k k' i i' : Int) (b b' : Value) (t t' : ByteArray) (ks ks' l l' : Value) (w : World) (hk : k ≠ k' ∨ (k = k' ∧ k ≠ 4 ∧ k ≠ 6 ∧ k ≠ 7)) :
    Calls Tryd.prog 13 #[.agg #[.int .i64 k, .int .i64 i, b, .string t, ks, l], .agg #[.int .i64 k', .int .i64 i', b', .string t', ks', l']] w fun e w' => e = .returned (.bool (decide (k = k') && (if k = 3 then decide (i = i') else if k = 5 then decide (t = t') else true))) ∧ Still w w' := by
  have st : Still w ((w.alloc (.cells #[.int .i64 k, .int .i64 i, b, .string t, ks, l] 26)).alloc (.cells #[.int .i64 k', .int .i64 i', b', .string t', ks', l'] 26)) := ((Still.refl w).alloc (Nat.le_refl _) _).alloc (by simp) _
  have ST := Lib.hid st
  clear st
  rcases hk with hk | ⟨rfl, h4, h6, h7⟩
  · rw [show decide (k = k') = false by simpa using hk, Bool.false_and]
    have d : (k != k') = true := by simpa using hk
    clear hk
    go_enter Tryd.func13, Tryd.ntmps13
    go_wp2_with fail
    (try simp only [Exit.inBlock, Exit.then])
    go_ret
    exact ⟨rfl, ST.out⟩
  · rw [show decide (k = k) = true by simp, Bool.true_and]
    have d4 : (k == 4) = false := by simpa using h4
    have d6 : (k != 6) = true := by simpa using h6
    have d7 : (k != 7) = true := by simpa using h7
    have d7' : (k == 7) = false := by simpa using h7
    by_cases h3 : k = 3
    · subst h3
      rw [if_pos rfl]
      by_cases hi : i = i'
      · have d : (i != i') = false := by simpa using hi
        rw [show decide (i = i') = true by simpa using hi]
        clear h4 h6 h7 hi
        go_enter Tryd.func13, Tryd.ntmps13
        go_wp2_with fail
        (try simp only [Exit.inBlock, Exit.then])
        go_ret
        exact ⟨rfl, ST.out⟩
      · have d : (i != i') = true := by simpa using hi
        rw [show decide (i = i') = false by simpa using hi]
        clear h4 h6 h7 hi
        go_enter Tryd.func13, Tryd.ntmps13
        go_wp2_with fail
        (try simp only [Exit.inBlock, Exit.then])
        go_ret
        exact ⟨rfl, ST.out⟩
    · rw [if_neg h3]
      have d3 : (k == 3) = false := by simpa using h3
      by_cases h5 : k = 5
      · subst h5
        rw [if_pos rfl]
        obtain ⟨q, hq⟩ : ∃ q, q = (t.toList == t'.toList) := ⟨_, rfl⟩
        rw [show decide (t = t') = q by
          rw [hq, Bool.eq_iff_iff]
          simp [text_iff]]
        have hq' := hq.symm
        have hq2 : (t.toList != t'.toList) = !q := by rw [hq]; rfl
        clear hq h4 h6 h7 d3 d4 d6 d7 d7' h3
        cases q
        all_goals
          go_enter Tryd.func13, Tryd.ntmps13
          go_wp2_with fail
          (try simp only [Exit.inBlock, Exit.then])
          go_ret
          exact ⟨rfl, ST.out⟩
      · rw [if_neg h5]
        have d5 : (k == 5) = false := by simpa using h5
        clear h3 h4 h5 h6 h7
        go_enter Tryd.func13, Tryd.ntmps13
        go_wp2_with fail
        (try simp only [Exit.inBlock, Exit.then])
        go_ret
        exact ⟨rfl, ST.out⟩

set_option maxRecDepth 100000 in
set_option maxHeartbeats 1600000 in
theorem rsame_bytes (i i' : Int) (A A' : Option Addr) (n n' c c' : Nat) (b b' : List UInt8) (t t' : ByteArray) (ks ks' l l' : Value) (w : World) (B B' : Nat) (h : Reads w B A n b) (h' : Reads w B' A' n' b') (hB : B ≤ w.heap.size) (hB' : B' ≤ w.heap.size) (hn : n ≤ 1048576) (hn' : n' ≤ 1048576) :
    Calls Tryd.prog 13 #[.agg #[.int .i64 4, .int .i64 i, .slice A n c, .string t, ks, l], .agg #[.int .i64 4, .int .i64 i', .slice A' n' c', .string t', ks', l']] w fun e w' => e = .returned (.bool (decide (b = b'))) ∧ Still w w' := by
  obtain ⟨wA, hA, sA, b1, b2⟩ := two_boxes w #[.int .i64 4, .int .i64 i, .slice A n c, .string t, ks, l] #[.int .i64 4, .int .i64 i', .slice A' n' c', .string t', ks', l']
  have SB := Lib.hid (same_any A A' n n' c c' b b' wA B B' (h.still hB sA) (h'.still hB' sA) (by omega) (by omega))
  obtain ⟨q, hq⟩ : ∃ q, q = decide (b = b') := ⟨_, rfl⟩
  rw [← hq] at SB ⊢
  have HA := Lib.hid hA
  have SA := Lib.hid sA
  have B1 := Lib.hid b1
  have B2 := Lib.hid b2
  clear hA sA b1 b2 h h' hB hB' hn hn' hq
  cases q
  all_goals
    go_enter Tryd.func13, Tryd.ntmps13
    go_upto_region 1 with fail
    rw [← HA.out]
    have k0 : wA.cell? ⟨w.heap.size, 0, none⟩ = some (.int .i64 4) := B1.out.cell 0
    have k0' : wA.cell? ⟨w.heap.size + 1, 0, none⟩ = some (.int .i64 4) := B2.out.cell 0
    have k2 : wA.cell? ⟨w.heap.size, 2, none⟩ = some (.slice A n c) := B1.out.cell 2
    have k2' : wA.cell? ⟨w.heap.size + 1, 2, none⟩ = some (.slice A' n' c') := B2.out.cell 2
    go_wp2_with fail
    refine SB.out.mono ?_
    rintro e w1 ⟨rfl, s1⟩
    have S1 := Lib.hid (SA.out.trans s1)
    have m0 : w1.cell? ⟨w.heap.size, 0, none⟩ = some (.int .i64 4) := (B1.out.still s1).cell 0
    clear s1 k0 k0' k2 k2'
    go_wp2_with fail
    (try simp only [Exit.inBlock, Exit.then])
    go_ret
    exact ⟨rfl, S1.out⟩
end Go.Proofs.YtmpnehhndhepgaaDoor

/- The document's own: whether two values are the same; lists. It proves no statement. -/



namespace Go.Proofs.YtmpnehhndhepgaaDoor
open Go.RowKit
set_option linter.unusedVariables false
set_option linter.unusedSimpArgs false

/-- What is said of the document's own 'Same'. -/
def RSameOK (x : Tr) : Prop := ∀ (y : Tr) (w : World) (B B' : Nat) (cs cs' : Array Value), HasV w B x cs → HasV w B' y cs' → B ≤ w.heap.size → B' ≤ w.heap.size →
  Calls Tryd.prog 13 #[.agg cs, .agg cs'] w fun e w' => e = .returned (.bool (sameT x y)) ∧ Still w w'

set_option maxRecDepth 100000 in
set_option maxHeartbeats 6400000 in
theorem rsame_list (i i' : Int) (v2 v3 v4 v2' v3' v4' : Value) (Al Al' : Option Addr) (cl cl' : Nat) (l l' : List Tr) (IH : ∀ x ∈ l, RSameOK x) (w : World) (B B' : Nat) (hB : B ≤ w.heap.size) (hB' : B' ≤ w.heap.size) (hn : l.length ≤ 1048576) (hn' : l'.length ≤ 1048576)
    (h : 0 < l.length → ∃ g o, Al = some ⟨g, o, none⟩ ∧ g < B ∧ HasL w B g o l) (h' : 0 < l'.length → ∃ g o, Al' = some ⟨g, o, none⟩ ∧ g < B' ∧ HasL w B' g o l') :
    Calls Tryd.prog 13 #[.agg #[.int .i64 6, .int .i64 i, v2, v3, v4, .slice Al l.length cl], .agg #[.int .i64 6, .int .i64 i', v2', v3', v4', .slice Al' l'.length cl']] w fun e w' => e = .returned (.bool (sameL l l')) ∧ Still w w' := by
  by_cases hlen : l.length = l'.length
  · obtain ⟨m, hm⟩ : ∃ m, m = l.length := ⟨_, rfl⟩
    have hm' : m = l'.length := by omega
    rw [← hm'] at h' ⊢
    rw [← hm] at h hn ⊢
    obtain ⟨wA, hA, sA, b1, b2⟩ := two_boxes w #[.int .i64 6, .int .i64 i, v2, v3, v4, .slice Al m cl] #[.int .i64 6, .int .i64 i', v2', v3', v4', .slice Al' m cl']
    obtain ⟨g0, hg0⟩ : ∃ g0, g0 = w.heap.size := ⟨_, rfl⟩
    have HG0 := Lib.hid hg0
    rw [← hg0] at b1 b2
    have HM := Lib.hid hm
    have HM' := Lib.hid hm'
    have HH := Lib.hid h
    have HH' := Lib.hid h'
    have HBW := Lib.hid hB
    have HBW' := Lib.hid hB'
    have HA := Lib.hid hA
    have SA := Lib.hid sA
    have B1 := Lib.hid b1
    have B2 := Lib.hid b2
    have d3 : (m : Int) ≤ 1048576 := by omega
    clear hA sA b1 b2 hm hm' h h' hB hB' hn hn' hlen hg0
    go_enter Tryd.func13, Tryd.ntmps13
    go_upto_region 1 with fail
    rw [← HA.out, ← HG0.out]
    have k0 : wA.cell? ⟨g0, 0, none⟩ = some (.int .i64 6) := B1.out.cell 0
    have k0' : wA.cell? ⟨g0 + 1, 0, none⟩ = some (.int .i64 6) := B2.out.cell 0
    have k5 : wA.cell? ⟨g0, 5, none⟩ = some (.slice Al m cl) := B1.out.cell 5
    have k5' : wA.cell? ⟨g0 + 1, 5, none⟩ = some (.slice Al' m cl') := B2.out.cell 5
    go_wp2_with fail
    go_loopw [6] (fun iv wr => ∃ j : Nat, j ≤ m ∧ iv = .int .i64 j ∧ Hid (Still w wr ∧ Blk wr g0 26 #[.int .i64 6, .int .i64 i, v2, v3, v4, .slice Al m cl] ∧ Blk wr (g0 + 1) 26 #[.int .i64 6, .int .i64 i', v2', v3', v4', .slice Al' m cl'] ∧ sameL l l' = sameL (l.drop j) (l'.drop j))) (fun iv _ => m - (intOf iv).toNat)
    case atStart => exact ⟨0, by omega, rfl, SA.out, B1.out, B2.out, rfl⟩
    case round =>
      obtain ⟨j, hj, rfl, hin⟩ := hrel
      have k5 : wr.cell? ⟨g0, 5, none⟩ = some (.slice Al m cl) := hin.out.2.1.cell 5
      have k5' : wr.cell? ⟨g0 + 1, 5, none⟩ = some (.slice Al' m cl') := hin.out.2.2.1.cell 5
      by_cases hlt : j < m
      · obtain ⟨gl, ol, rfl, hgl, hh⟩ := HH.out (by omega)
        obtain ⟨gl', ol', rfl, hgl', hh'⟩ := HH'.out (by omega)
        obtain ⟨x, hx⟩ : ∃ x, l[j]? = some x := ⟨_, List.getElem?_eq_getElem (by rw [← HM.out]; exact hlt)⟩
        obtain ⟨x', hx'⟩ : ∃ x, l'[j]? = some x := ⟨_, List.getElem?_eq_getElem (by rw [← HM'.out]; exact hlt)⟩
        obtain ⟨⟨lx⟩, hvx, hzx, hcx⟩ := HasL.at l ol (HasL.below (Below.mono hin.out.1 HBW.out) gl hgl ol l hh) j x hx
        obtain ⟨⟨lx'⟩, hvx', hzx', hcx'⟩ := HasL.at l' ol' (HasL.below (Below.mono hin.out.1 HBW'.out) gl' hgl' ol' l' hh') j x' hx'
        have d1 : (j : Int) < (m : Int) := by omega
        have d2 : (0 : Int) ≤ (j : Int) := by omega
        have hsx : sameL (l.drop j) (l'.drop j) = (sameT x x' && sameL (l.drop (j + 1)) (l'.drop (j + 1))) := by
          rw [drop_at l j x hx, drop_at l' j x' hx', sameL]
        have LX := Lib.hid (show lx.length = 6 by simpa using hzx)
        have LX' := Lib.hid (show lx'.length = 6 by simpa using hzx')
        have rng : wr.rangeAt gl (ol + j * 6) lx := fun q v hq => by
          have := hcx q v (by simpa using hq)
          rwa [show ol + 6 * j + q = ol + j * 6 + q by omega] at this
        have rng' : wr.rangeAt gl' (ol' + j * 6) lx' := fun q v hq => by
          have := hcx' q v (by simpa using hq)
          rwa [show ol' + 6 * j + q = ol' + j * 6 + q by omega] at this
        have hz0 := hin.out.1.size
        have SOK := Lib.hid (show ∀ W, Still wr W → W.cell? ⟨g0, 5, none⟩ = some (.slice (some ⟨gl, ol, none⟩) m cl) ∧ W.cell? ⟨g0 + 1, 5, none⟩ = some (.slice (some ⟨gl', ol', none⟩) m cl') ∧ W.rangeAt gl (ol + j * 6) lx ∧ W.rangeAt gl' (ol' + j * 6) lx' from fun W s =>
          ⟨(hin.out.2.1.still s).cell 5, (hin.out.2.2.1.still s).cell 5, fun q v hq => (s.cell (p := ⟨gl, ol + j * 6 + q, none⟩) (by have := HBW.out; simp only; omega)).trans (rng q v hq), fun q v hq => (s.cell (p := ⟨gl', ol' + j * 6 + q, none⟩) (by have := HBW'.out; simp only; omega)).trans (rng' q v hq)⟩)
        have CC0 := Lib.hid (show ∀ W, Still wr W → Calls Tryd.prog 13 #[.agg lx.toArray, .agg lx'.toArray] W fun e w' => e = .returned (.bool (sameT x x')) ∧ Still W w' from fun W s =>
          IH x (List.mem_of_getElem? hx) x' W B B' lx.toArray lx'.toArray (HasV.below (Below.mono s (Nat.le_trans HBW.out hz0)) _ _ hvx) (HasV.below (Below.mono s (Nat.le_trans HBW'.out hz0)) _ _ hvx') (Nat.le_trans (Nat.le_trans HBW.out hz0) s.size) (Nat.le_trans (Nat.le_trans HBW'.out hz0) s.size))
        have HSX := Lib.hid hsx
        have HLT := Lib.hid hlt
        generalize sameT x x' = q at CC0 HSX
        have CC := CC0
        clear CC0 hlt hx hx' hh hh' hgl hgl' hvx hvx' hzx hzx' hcx hcx' hsx rng rng' hz0
        cases q
        · skip
          go_upto_region 20 with fail
          refine wp_region_held_drew (S := fun W => W.cell? ⟨g0, 5, none⟩ = some (.slice (some ⟨gl, ol, none⟩) m cl) ∧ W.cell? ⟨g0 + 1, 5, none⟩ = some (.slice (some ⟨gl', ol', none⟩) m cl') ∧ W.rangeAt gl (ol + j * 6) lx ∧ W.rangeAt gl' (ol' + j * 6) lx') (by kernel_rfl) ?_ (fun hHeld => ?_)
          · exact SOK.out _ ((Still.refl wr).drew)
          try simp only [Act.put, List.setIfInBounds_toArray, List.set_cons_zero, List.set_cons_succ]
          refine wpAnyH_take (i := 0) (v := .pointer (some ⟨g0, 5, none⟩)) rfl (by kernel_rfl) (by kernel_rfl) (by kernel_rfl) (fun _ _ _ h => h) (Or.inl ⟨by kernel_rfl, fun w hS => by obtain ⟨h0, h1, h2, h3⟩ := hS; go_simp⟩) (by assumption) ?_
          simp only [Act.put, List.setIfInBounds_toArray, List.set_cons_zero, List.set_cons_succ]
          refine wpAnyH_take (i := 1) (v := .slice (some ⟨gl, ol, none⟩) m cl) rfl (by kernel_rfl) (by kernel_rfl) (by kernel_rfl) (fun _ _ _ h => h) (Or.inl ⟨by kernel_rfl, fun w hS => by obtain ⟨h0, h1, h2, h3⟩ := hS; go_simp⟩) (by assumption) ?_
          simp only [Act.put, List.setIfInBounds_toArray, List.set_cons_zero, List.set_cons_succ]
          refine wpAnyH_take (i := 2) (v := .int .i64 (j : Int)) rfl (by kernel_rfl) (by kernel_rfl) (by kernel_rfl) (fun _ _ _ h => h) (Or.inl ⟨by kernel_rfl, fun w hS => by obtain ⟨h0, h1, h2, h3⟩ := hS; go_simp⟩) (by assumption) ?_
          simp only [Act.put, List.setIfInBounds_toArray, List.set_cons_zero, List.set_cons_succ]
          refine wpAnyH_take (i := 3) (v := .pointer (some ⟨gl, ol + j * 6, none⟩)) rfl (by kernel_rfl) (by kernel_rfl) (by kernel_rfl) (fun _ _ _ h => h) (Or.inl ⟨by kernel_rfl, fun w hS => by obtain ⟨h0, h1, h2, h3⟩ := hS; go_simp⟩) (by assumption) ?_
          simp only [Act.put, List.setIfInBounds_toArray, List.set_cons_zero, List.set_cons_succ]
          refine wpAnyH_take (i := 4) (v := .agg lx.toArray) rfl (by kernel_rfl) (by kernel_rfl) (by kernel_rfl) (fun _ _ _ h => h) ?hy4 (by assumption) ?_
          case hy4 =>
            refine yieldsIf_load_mid ?hw4 26 (.tmp 100) ?ho4 gl (ol + j * 6) ?hx4 lx _ (fun w h => h.2.2.1) (Tryd.underlying26) ?hd4 (by rw [sizeValue, LX.out])
            case hw4 => kernel_rfl
            case ho4 => rfl
            case hx4 => kernel_rfl
            case hd4 => rfl
          simp only [Act.put, List.setIfInBounds_toArray, List.set_cons_zero, List.set_cons_succ]
          refine wpAnyH_take (i := 5) (v := .pointer (some ⟨g0 + 1, 5, none⟩)) rfl (by kernel_rfl) (by kernel_rfl) (by kernel_rfl) (fun _ _ _ h => h) (Or.inl ⟨by kernel_rfl, fun w hS => by obtain ⟨h0, h1, h2, h3⟩ := hS; go_simp⟩) (by assumption) ?_
          simp only [Act.put, List.setIfInBounds_toArray, List.set_cons_zero, List.set_cons_succ]
          refine wpAnyH_take (i := 6) (v := .slice (some ⟨gl', ol', none⟩) m cl') rfl (by kernel_rfl) (by kernel_rfl) (by kernel_rfl) (fun _ _ _ h => h) (Or.inl ⟨by kernel_rfl, fun w hS => by obtain ⟨h0, h1, h2, h3⟩ := hS; go_simp⟩) (by assumption) ?_
          simp only [Act.put, List.setIfInBounds_toArray, List.set_cons_zero, List.set_cons_succ]
          refine wpAnyH_take (i := 7) (v := .int .i64 (j : Int)) rfl (by kernel_rfl) (by kernel_rfl) (by kernel_rfl) (fun _ _ _ h => h) (Or.inl ⟨by kernel_rfl, fun w hS => by obtain ⟨h0, h1, h2, h3⟩ := hS; go_simp⟩) (by assumption) ?_
          simp only [Act.put, List.setIfInBounds_toArray, List.set_cons_zero, List.set_cons_succ]
          refine wpAnyH_take (i := 8) (v := .pointer (some ⟨gl', ol' + j * 6, none⟩)) rfl (by kernel_rfl) (by kernel_rfl) (by kernel_rfl) (fun _ _ _ h => h) (Or.inl ⟨by kernel_rfl, fun w hS => by obtain ⟨h0, h1, h2, h3⟩ := hS; go_simp⟩) (by assumption) ?_
          simp only [Act.put, List.setIfInBounds_toArray, List.set_cons_zero, List.set_cons_succ]
          refine wpAnyH_take (i := 9) (v := .agg lx'.toArray) rfl (by kernel_rfl) (by kernel_rfl) (by kernel_rfl) (fun _ _ _ h => h) ?hy9 (by assumption) ?_
          case hy9 =>
            refine yieldsIf_load_mid ?hw9 26 (.tmp 105) ?ho9 gl' (ol' + j * 6) ?hx9 lx' _ (fun w h => h.2.2.2) (Tryd.underlying26) ?hd9 (by rw [sizeValue, LX'.out])
            case hw9 => kernel_rfl
            case ho9 => rfl
            case hx9 => kernel_rfl
            case hd9 => rfl
          simp only [Act.put, List.setIfInBounds_toArray, List.set_cons_zero, List.set_cons_succ]
          refine wpAnyH_ready (rs := [10]) (by kernel_rfl) (by simp) ?_
          refine AllReadyH.cons (o := ⟨some 107, .call { callee := .value (.func 13), args := #[.tmp 101, .tmp 106], argTypes := #[26, 26] }, _, _, _, none⟩) rfl (fun K hK => ?_) AllReadyH.nil
          go_simp
          go_wp2_with (go_at_call 13; refine (CC.out _ ((Still.refl wr).drew)).mono ?_; rintro e w1 ⟨rfl, s1⟩; have t1 : Still wr w1 := Still.trans ((Still.refl wr).drew) s1)
          refine hK.out _ _ (SOK.out _ t1) (fun hHeld => ?_)
          clear hK K
          try simp only [Act.put, List.setIfInBounds_toArray, List.set_cons_zero, List.set_cons_succ]
          refine wpAnyH_take (i := 11) (oi := ⟨some 108, .unOp .not 4 (.tmp 107), _, _, _, none⟩) (v := .bool true) rfl (by kernel_rfl) (by kernel_rfl) (by kernel_rfl) (fun _ _ _ h => h) (Or.inl ⟨by kernel_rfl, fun w hS => by obtain ⟨h0, h1, h2, h3⟩ := hS; go_simp⟩) (by assumption) ?_
          simp only [Act.put, List.setIfInBounds_toArray, List.set_cons_zero, List.set_cons_succ]
          refine wpAnyH_done (by kernel_rfl) ?_ _
          have S1 := Lib.hid (Still.trans hin.out.1 t1)
          have BX := Lib.hid (hin.out.2.1.still t1)
          have BX' := Lib.hid (hin.out.2.2.1.still t1)
          have Q := Lib.hid (show sameL l l' = false by rw [hin.out.2.2.2, HSX.out]; simp)
          go_wp2_with fail
          (try simp only [Exit.inBlock, Exit.then])
          go_ret
          rw [Q.out]
          exact ⟨by simp, S1.out⟩
        · skip
          go_upto_region 20 with fail
          refine wp_region_held_drew (S := fun W => W.cell? ⟨g0, 5, none⟩ = some (.slice (some ⟨gl, ol, none⟩) m cl) ∧ W.cell? ⟨g0 + 1, 5, none⟩ = some (.slice (some ⟨gl', ol', none⟩) m cl') ∧ W.rangeAt gl (ol + j * 6) lx ∧ W.rangeAt gl' (ol' + j * 6) lx') (by kernel_rfl) ?_ (fun hHeld => ?_)
          · exact SOK.out _ ((Still.refl wr).drew)
          try simp only [Act.put, List.setIfInBounds_toArray, List.set_cons_zero, List.set_cons_succ]
          refine wpAnyH_take (i := 0) (v := .pointer (some ⟨g0, 5, none⟩)) rfl (by kernel_rfl) (by kernel_rfl) (by kernel_rfl) (fun _ _ _ h => h) (Or.inl ⟨by kernel_rfl, fun w hS => by obtain ⟨h0, h1, h2, h3⟩ := hS; go_simp⟩) (by assumption) ?_
          simp only [Act.put, List.setIfInBounds_toArray, List.set_cons_zero, List.set_cons_succ]
          refine wpAnyH_take (i := 1) (v := .slice (some ⟨gl, ol, none⟩) m cl) rfl (by kernel_rfl) (by kernel_rfl) (by kernel_rfl) (fun _ _ _ h => h) (Or.inl ⟨by kernel_rfl, fun w hS => by obtain ⟨h0, h1, h2, h3⟩ := hS; go_simp⟩) (by assumption) ?_
          simp only [Act.put, List.setIfInBounds_toArray, List.set_cons_zero, List.set_cons_succ]
          refine wpAnyH_take (i := 2) (v := .int .i64 (j : Int)) rfl (by kernel_rfl) (by kernel_rfl) (by kernel_rfl) (fun _ _ _ h => h) (Or.inl ⟨by kernel_rfl, fun w hS => by obtain ⟨h0, h1, h2, h3⟩ := hS; go_simp⟩) (by assumption) ?_
          simp only [Act.put, List.setIfInBounds_toArray, List.set_cons_zero, List.set_cons_succ]
          refine wpAnyH_take (i := 3) (v := .pointer (some ⟨gl, ol + j * 6, none⟩)) rfl (by kernel_rfl) (by kernel_rfl) (by kernel_rfl) (fun _ _ _ h => h) (Or.inl ⟨by kernel_rfl, fun w hS => by obtain ⟨h0, h1, h2, h3⟩ := hS; go_simp⟩) (by assumption) ?_
          simp only [Act.put, List.setIfInBounds_toArray, List.set_cons_zero, List.set_cons_succ]
          refine wpAnyH_take (i := 4) (v := .agg lx.toArray) rfl (by kernel_rfl) (by kernel_rfl) (by kernel_rfl) (fun _ _ _ h => h) ?hy4 (by assumption) ?_
          case hy4 =>
            refine yieldsIf_load_mid ?hw4 26 (.tmp 100) ?ho4 gl (ol + j * 6) ?hx4 lx _ (fun w h => h.2.2.1) (Tryd.underlying26) ?hd4 (by rw [sizeValue, LX.out])
            case hw4 => kernel_rfl
            case ho4 => rfl
            case hx4 => kernel_rfl
            case hd4 => rfl
          simp only [Act.put, List.setIfInBounds_toArray, List.set_cons_zero, List.set_cons_succ]
          refine wpAnyH_take (i := 5) (v := .pointer (some ⟨g0 + 1, 5, none⟩)) rfl (by kernel_rfl) (by kernel_rfl) (by kernel_rfl) (fun _ _ _ h => h) (Or.inl ⟨by kernel_rfl, fun w hS => by obtain ⟨h0, h1, h2, h3⟩ := hS; go_simp⟩) (by assumption) ?_
          simp only [Act.put, List.setIfInBounds_toArray, List.set_cons_zero, List.set_cons_succ]
          refine wpAnyH_take (i := 6) (v := .slice (some ⟨gl', ol', none⟩) m cl') rfl (by kernel_rfl) (by kernel_rfl) (by kernel_rfl) (fun _ _ _ h => h) (Or.inl ⟨by kernel_rfl, fun w hS => by obtain ⟨h0, h1, h2, h3⟩ := hS; go_simp⟩) (by assumption) ?_
          simp only [Act.put, List.setIfInBounds_toArray, List.set_cons_zero, List.set_cons_succ]
          refine wpAnyH_take (i := 7) (v := .int .i64 (j : Int)) rfl (by kernel_rfl) (by kernel_rfl) (by kernel_rfl) (fun _ _ _ h => h) (Or.inl ⟨by kernel_rfl, fun w hS => by obtain ⟨h0, h1, h2, h3⟩ := hS; go_simp⟩) (by assumption) ?_
          simp only [Act.put, List.setIfInBounds_toArray, List.set_cons_zero, List.set_cons_succ]
          refine wpAnyH_take (i := 8) (v := .pointer (some ⟨gl', ol' + j * 6, none⟩)) rfl (by kernel_rfl) (by kernel_rfl) (by kernel_rfl) (fun _ _ _ h => h) (Or.inl ⟨by kernel_rfl, fun w hS => by obtain ⟨h0, h1, h2, h3⟩ := hS; go_simp⟩) (by assumption) ?_
          simp only [Act.put, List.setIfInBounds_toArray, List.set_cons_zero, List.set_cons_succ]
          refine wpAnyH_take (i := 9) (v := .agg lx'.toArray) rfl (by kernel_rfl) (by kernel_rfl) (by kernel_rfl) (fun _ _ _ h => h) ?hy9 (by assumption) ?_
          case hy9 =>
            refine yieldsIf_load_mid ?hw9 26 (.tmp 105) ?ho9 gl' (ol' + j * 6) ?hx9 lx' _ (fun w h => h.2.2.2) (Tryd.underlying26) ?hd9 (by rw [sizeValue, LX'.out])
            case hw9 => kernel_rfl
            case ho9 => rfl
            case hx9 => kernel_rfl
            case hd9 => rfl
          simp only [Act.put, List.setIfInBounds_toArray, List.set_cons_zero, List.set_cons_succ]
          refine wpAnyH_ready (rs := [10]) (by kernel_rfl) (by simp) ?_
          refine AllReadyH.cons (o := ⟨some 107, .call { callee := .value (.func 13), args := #[.tmp 101, .tmp 106], argTypes := #[26, 26] }, _, _, _, none⟩) rfl (fun K hK => ?_) AllReadyH.nil
          go_simp
          go_wp2_with (go_at_call 13; refine (CC.out _ ((Still.refl wr).drew)).mono ?_; rintro e w1 ⟨rfl, s1⟩; have t1 : Still wr w1 := Still.trans ((Still.refl wr).drew) s1)
          refine hK.out _ _ (SOK.out _ t1) (fun hHeld => ?_)
          clear hK K
          try simp only [Act.put, List.setIfInBounds_toArray, List.set_cons_zero, List.set_cons_succ]
          refine wpAnyH_take (i := 11) (oi := ⟨some 108, .unOp .not 4 (.tmp 107), _, _, _, none⟩) (v := .bool false) rfl (by kernel_rfl) (by kernel_rfl) (by kernel_rfl) (fun _ _ _ h => h) (Or.inl ⟨by kernel_rfl, fun w hS => by obtain ⟨h0, h1, h2, h3⟩ := hS; go_simp⟩) (by assumption) ?_
          simp only [Act.put, List.setIfInBounds_toArray, List.set_cons_zero, List.set_cons_succ]
          refine wpAnyH_done (by kernel_rfl) ?_ _
          have S1 := Lib.hid (Still.trans hin.out.1 t1)
          have BX := Lib.hid (hin.out.2.1.still t1)
          have BX' := Lib.hid (hin.out.2.2.1.still t1)
          have Q := Lib.hid (show sameL l l' = sameL (l.drop (j + 1)) (l'.drop (j + 1)) by rw [hin.out.2.2.2, HSX.out]; simp)
          clear t1
          go_wp2_with fail
          go_roundw
          case rel => exact ⟨j + 1, by have := HLT.out; omega, by go_num, S1.out, BX.out, BX'.out, Q.out⟩
          case measure => simp [intOf]; have := HLT.out; omega
      · obtain rfl : j = m := by omega
        have hend : sameL l l' = true := by
          rw [hin.out.2.2.2, List.drop_of_length_le (by rw [HM.out]; omega), List.drop_of_length_le (by rw [HM'.out]; omega)]
          unfold sameL
          rfl
        have HE := Lib.hid hend
        have d1 : ¬ (j : Int) < (j : Int) := by omega
        clear hend hlt
        go_wp2_with fail
        go_ret
        rw [HE.out]
        exact ⟨by simp, hin.out.1⟩
  · have hs : sameL l l' = false := sameL_len l l' hlen
    rw [hs]
    obtain ⟨m, hm⟩ : ∃ m, m = l.length := ⟨_, rfl⟩
    obtain ⟨m', hm'⟩ : ∃ m', m' = l'.length := ⟨_, rfl⟩
    rw [← hm, ← hm'] at hlen ⊢
    have d : ((m : Int) != (m' : Int)) = true := by simp; omega
    have ST := Lib.hid (show Still w ((w.alloc (.cells #[.int .i64 6, .int .i64 i, v2, v3, v4, .slice Al m cl] 26)).alloc (.cells #[.int .i64 6, .int .i64 i', v2', v3', v4', .slice Al' m' cl'] 26)) from ((Still.refl w).alloc (Nat.le_refl _) _).alloc (by simp) _)
    clear hm hm' hlen h h' hn hn' hs
    go_enter Tryd.func13, Tryd.ntmps13
    go_wp2_with fail
    (try simp only [Exit.inBlock, Exit.then])
    go_ret
    exact ⟨rfl, ST.out⟩
end Go.Proofs.YtmpnehhndhepgaaDoor

/- The document's own: whether two values are the same; maps, all. It proves no statement. -/





namespace Go.Proofs.YtmpnehhndhepgaaDoor
open Go.RowKit
set_option linter.unusedVariables false
set_option linter.unusedSimpArgs false

theorem keys_all {ks ks' : List ByteArray} (h : ks.length = ks'.length) : ks = ks' ↔ ∀ j, j < ks.length → ks.getD j ByteArray.empty = ks'.getD j ByteArray.empty := by
  constructor
  · rintro rfl j _; rfl
  · intro hh
    apply List.ext_getElem h
    intro j h1 h2
    have := hh j h1
    simpa [List.getD, h1, h2] using this

set_option maxRecDepth 100000 in
set_option maxHeartbeats 6400000 in
theorem rsame_map (i i' : Int) (v2 v3 v2' v3' : Value) (Ak Ak' : Option Addr) (ck ck' : Nat) (ks ks' : List ByteArray) (Al Al' : Option Addr) (cl cl' : Nat) (l l' : List Tr) (IH : ∀ x ∈ l, RSameOK x) (w : World) (B B' : Nat) (hB : B ≤ w.heap.size) (hB' : B' ≤ w.heap.size) (hn : l.length ≤ 1048576) (hn' : l'.length ≤ 1048576)
    (hk : Keys w B Ak ks) (hk' : Keys w B' Ak' ks') (hkl : ks.length ≤ 1048576) (hkl' : ks'.length ≤ 1048576)
    (h : 0 < l.length → ∃ g o, Al = some ⟨g, o, none⟩ ∧ g < B ∧ HasL w B g o l) (h' : 0 < l'.length → ∃ g o, Al' = some ⟨g, o, none⟩ ∧ g < B' ∧ HasL w B' g o l') :
    Calls Tryd.prog 13 #[.agg #[.int .i64 7, .int .i64 i, v2, v3, .slice Ak ks.length ck, .slice Al l.length cl], .agg #[.int .i64 7, .int .i64 i', v2', v3', .slice Ak' ks'.length ck', .slice Al' l'.length cl']] w fun e w' => e = .returned (.bool (decide (ks = ks') && sameL l l')) ∧ Still w w' := by
  obtain ⟨m, hm⟩ : ∃ m, m = l.length := ⟨_, rfl⟩
  obtain ⟨m', hm'⟩ : ∃ m, m = l'.length := ⟨_, rfl⟩
  rw [← hm] at h hn ⊢
  rw [← hm'] at h' hn' ⊢
  by_cases hkn : ks.length = ks'.length
  · have KALL := Lib.hid (keys_all hkn)
    have hat := hk.2
    have hat' := hk'.2
    obtain ⟨nk, hnk⟩ : ∃ m, m = ks.length := ⟨_, rfl⟩
    have hnk' : nk = ks'.length := by omega
    rw [← hnk'] at hat' ⊢
    rw [← hnk] at KALL hat hkl ⊢
    obtain ⟨wA, hA, sA, b1, b2⟩ := two_boxes w #[.int .i64 7, .int .i64 i, v2, v3, .slice Ak nk ck, .slice Al m cl] #[.int .i64 7, .int .i64 i', v2', v3', .slice Ak' nk ck', .slice Al' m' cl']
    obtain ⟨g0, hg0⟩ : ∃ g0, g0 = w.heap.size := ⟨_, rfl⟩
    have HG0 := Lib.hid hg0
    rw [← hg0] at b1 b2
    have HM := Lib.hid hm
    have HM' := Lib.hid hm'
    have HH := Lib.hid h
    have HH' := Lib.hid h'
    have HBW := Lib.hid hB
    have HBW' := Lib.hid hB'
    have HA := Lib.hid hA
    have SA := Lib.hid sA
    have B1 := Lib.hid b1
    have B2 := Lib.hid b2
    have HAT := Lib.hid hat
    have HAT' := Lib.hid hat'
    have d3 : (nk : Int) ≤ 1048576 := by omega
    have d3m : (m : Int) ≤ 1048576 := by omega
    obtain ⟨kq, hkq⟩ : ∃ kq, kq = decide (ks = ks') := ⟨_, rfl⟩
    have HKQ := Lib.hid hkq
    rw [← hkq]
    clear hA sA b1 b2 hm hm' h h' hB hB' hn hn' hg0 hk hk' hkl hkl' hat hat' hnk hnk' hkn hkq
    go_enter Tryd.func13, Tryd.ntmps13
    go_upto_region 1 with fail
    rw [← HA.out, ← HG0.out]
    have k0 : wA.cell? ⟨g0, 0, none⟩ = some (.int .i64 7) := B1.out.cell 0
    have k0' : wA.cell? ⟨g0 + 1, 0, none⟩ = some (.int .i64 7) := B2.out.cell 0
    have k4 : wA.cell? ⟨g0, 4, none⟩ = some (.slice Ak nk ck) := B1.out.cell 4
    have k4' : wA.cell? ⟨g0 + 1, 4, none⟩ = some (.slice Ak' nk ck') := B2.out.cell 4
    go_wp2_with fail
    go_loopw [5] (fun iv wr => ∃ j : Nat, j ≤ nk ∧ iv = .int .i64 j ∧ Hid (Still w wr ∧ Blk wr g0 26 #[.int .i64 7, .int .i64 i, v2, v3, .slice Ak nk ck, .slice Al m cl] ∧ Blk wr (g0 + 1) 26 #[.int .i64 7, .int .i64 i', v2', v3', .slice Ak' nk ck', .slice Al' m' cl'] ∧ ∀ q, q < j → ks.getD q ByteArray.empty = ks'.getD q ByteArray.empty)) (fun iv _ => nk - (intOf iv).toNat)
    case atStart => exact ⟨0, by omega, rfl, SA.out, B1.out, B2.out, fun q hq => by omega⟩
    case round =>
      clear k0 k0' k4 k4'
      obtain ⟨j, hj, rfl, hin⟩ := hrel
      have k4 : wr.cell? ⟨g0, 4, none⟩ = some (.slice Ak nk ck) := hin.out.2.1.cell 4
      have k4' : wr.cell? ⟨g0 + 1, 4, none⟩ = some (.slice Ak' nk ck') := hin.out.2.2.1.cell 4
      by_cases hlt : j < nk
      · obtain ⟨gk, ok, rfl, hgk, hc⟩ := HAT.out (by omega)
        obtain ⟨gk', ok', rfl, hgk', hc'⟩ := HAT'.out (by omega)
        obtain ⟨a, ha⟩ : ∃ a, a = ks.getD j ByteArray.empty := ⟨_, rfl⟩
        obtain ⟨b, hb⟩ : ∃ b, b = ks'.getD j ByteArray.empty := ⟨_, rfl⟩
        have ca : wr.cell? ⟨gk, ok + j, none⟩ = some (.string a) := (hin.out.1.cell (p := ⟨gk, ok + j, none⟩) (by have := HBW.out; simp only; omega)).trans (by rw [hc j hlt, ha])
        have cb : wr.cell? ⟨gk', ok' + j, none⟩ = some (.string b) := (hin.out.1.cell (p := ⟨gk', ok' + j, none⟩) (by have := HBW'.out; simp only; omega)).trans (by rw [hc' j hlt, hb])
        have d1 : (j : Int) < (nk : Int) := by omega
        have d2 : (0 : Int) ≤ (j : Int) := by omega
        obtain ⟨q, hq⟩ : ∃ q, q = (a.toList == b.toList) := ⟨_, rfl⟩
        have hq' := hq.symm
        have hq2 : (a.toList != b.toList) = !q := by rw [hq]; rfl
        have HQ := Lib.hid (show q = decide (a = b) by rw [hq, Bool.eq_iff_iff]; simp [text_iff])
        have HAJ := Lib.hid ha
        have HBJ := Lib.hid hb
        have HLT := Lib.hid hlt
        clear ha hb hq hc hc' hgk hgk' hlt hj
        cases q
        · have hkf : kq = false := by
            rw [HKQ.out, decide_eq_false_iff_not]
            intro e
            have := (KALL.out.1 e) j HLT.out
            rw [← HAJ.out, ← HBJ.out] at this
            have h2 := HQ.out
            rw [decide_eq_true this] at h2
            cases h2
          have HKF := Lib.hid hkf
          clear hkf
          go_wp2_with fail
          go_quiet (fail)
          go_wp2_with fail
          (try simp only [Exit.inBlock, Exit.then])
          go_ret
          rw [HKF.out]
          exact ⟨rfl, still_drewN hin.out.1 _⟩
        · have hab : a = b := of_decide_eq_true HQ.out.symm
          have HAB := Lib.hid hab
          clear hab
          go_wp2_with fail
          go_quiet (fail)
          go_wp2_with fail
          go_roundw
          case rel =>
            refine ⟨j + 1, by have := HLT.out; omega, by go_num, Lib.hid ⟨still_drewN hin.out.1 _, hin.out.2.1.still (still_drewN (Still.refl wr) _), hin.out.2.2.1.still (still_drewN (Still.refl wr) _), fun q hq => ?_⟩⟩
            by_cases hqj : q = j
            · rw [hqj, ← HAJ.out, ← HBJ.out]; exact HAB.out
            · exact hin.out.2.2.2 q (by omega)
          case measure => simp [intOf]; have := HLT.out; omega
      · obtain rfl : j = nk := by omega
        have hkt : kq = true := by rw [HKQ.out, decide_eq_true_eq]; exact KALL.out.2 hin.out.2.2.2
        obtain rfl := hkt
        have d1 : ¬ (j : Int) < (j : Int) := by omega
        obtain ⟨w8, hw8⟩ : ∃ w8, w8 = wr := ⟨_, rfl⟩
        rw [← hw8] at hin k4 k4' ⊢
        have S8 := Lib.hid hin.out.1
        have X8 := Lib.hid hin.out.2.1
        have Y8 := Lib.hid hin.out.2.2.1
        have k0 : w8.cell? ⟨g0, 0, none⟩ = some (.int .i64 7) := X8.out.cell 0
        have k0' : w8.cell? ⟨g0 + 1, 0, none⟩ = some (.int .i64 7) := Y8.out.cell 0
        have k5 : w8.cell? ⟨g0, 5, none⟩ = some (.slice Al m cl) := X8.out.cell 5
        have k5' : w8.cell? ⟨g0 + 1, 5, none⟩ = some (.slice Al' m' cl') := Y8.out.cell 5
        clear hlt hj hin hw8 KALL HKQ B1 B2 SA HAT HAT'
        obtain ⟨j0, hj0⟩ : ∃ x, x = j := ⟨_, rfl⟩
        rw [← hj0] at X8 Y8
        clear hj0
        by_cases hlen : m = m'
        · subst hlen
          go_wp2_with fail
          go_loopw [6] (fun iv wr => ∃ j : Nat, j ≤ m ∧ iv = .int .i64 j ∧ Hid (Still w wr ∧ Blk wr g0 26 #[.int .i64 7, .int .i64 i, v2, v3, .slice Ak j0 ck, .slice Al m cl] ∧ Blk wr (g0 + 1) 26 #[.int .i64 7, .int .i64 i', v2', v3', .slice Ak' j0 ck', .slice Al' m cl'] ∧ sameL l l' = sameL (l.drop j) (l'.drop j))) (fun iv _ => m - (intOf iv).toNat)
          case atStart => exact ⟨0, by omega, rfl, S8.out, X8.out, Y8.out, rfl⟩
          case round =>
            obtain ⟨j, hj, rfl, hin⟩ := hrel
            have k5 : wr.cell? ⟨g0, 5, none⟩ = some (.slice Al m cl) := hin.out.2.1.cell 5
            have k5' : wr.cell? ⟨g0 + 1, 5, none⟩ = some (.slice Al' m cl') := hin.out.2.2.1.cell 5
            by_cases hlt : j < m
            · obtain ⟨gl, ol, rfl, hgl, hh⟩ := HH.out (by omega)
              obtain ⟨gl', ol', rfl, hgl', hh'⟩ := HH'.out (by omega)
              obtain ⟨x, hx⟩ : ∃ x, l[j]? = some x := ⟨_, List.getElem?_eq_getElem (by rw [← HM.out]; exact hlt)⟩
              obtain ⟨x', hx'⟩ : ∃ x, l'[j]? = some x := ⟨_, List.getElem?_eq_getElem (by rw [← HM'.out]; exact hlt)⟩
              obtain ⟨⟨lx⟩, hvx, hzx, hcx⟩ := HasL.at l ol (HasL.below (Below.mono hin.out.1 HBW.out) gl hgl ol l hh) j x hx
              obtain ⟨⟨lx'⟩, hvx', hzx', hcx'⟩ := HasL.at l' ol' (HasL.below (Below.mono hin.out.1 HBW'.out) gl' hgl' ol' l' hh') j x' hx'
              have d1 : (j : Int) < (m : Int) := by omega
              have d2 : (0 : Int) ≤ (j : Int) := by omega
              have hsx : sameL (l.drop j) (l'.drop j) = (sameT x x' && sameL (l.drop (j + 1)) (l'.drop (j + 1))) := by
                rw [drop_at l j x hx, drop_at l' j x' hx', sameL]
              have LX := Lib.hid (show lx.length = 6 by simpa using hzx)
              have LX' := Lib.hid (show lx'.length = 6 by simpa using hzx')
              have rng : wr.rangeAt gl (ol + j * 6) lx := fun q v hq => by
                have := hcx q v (by simpa using hq)
                rwa [show ol + 6 * j + q = ol + j * 6 + q by omega] at this
              have rng' : wr.rangeAt gl' (ol' + j * 6) lx' := fun q v hq => by
                have := hcx' q v (by simpa using hq)
                rwa [show ol' + 6 * j + q = ol' + j * 6 + q by omega] at this
              have hz0 := hin.out.1.size
              have SOK := Lib.hid (show ∀ W, Still wr W → W.cell? ⟨g0, 5, none⟩ = some (.slice (some ⟨gl, ol, none⟩) m cl) ∧ W.cell? ⟨g0 + 1, 5, none⟩ = some (.slice (some ⟨gl', ol', none⟩) m cl') ∧ W.rangeAt gl (ol + j * 6) lx ∧ W.rangeAt gl' (ol' + j * 6) lx' from fun W s =>
                ⟨(hin.out.2.1.still s).cell 5, (hin.out.2.2.1.still s).cell 5, fun q v hq => (s.cell (p := ⟨gl, ol + j * 6 + q, none⟩) (by have := HBW.out; simp only; omega)).trans (rng q v hq), fun q v hq => (s.cell (p := ⟨gl', ol' + j * 6 + q, none⟩) (by have := HBW'.out; simp only; omega)).trans (rng' q v hq)⟩)
              have CC0 := Lib.hid (show ∀ W, Still wr W → Calls Tryd.prog 13 #[.agg lx.toArray, .agg lx'.toArray] W fun e w' => e = .returned (.bool (sameT x x')) ∧ Still W w' from fun W s =>
                IH x (List.mem_of_getElem? hx) x' W B B' lx.toArray lx'.toArray (HasV.below (Below.mono s (Nat.le_trans HBW.out hz0)) _ _ hvx) (HasV.below (Below.mono s (Nat.le_trans HBW'.out hz0)) _ _ hvx') (Nat.le_trans (Nat.le_trans HBW.out hz0) s.size) (Nat.le_trans (Nat.le_trans HBW'.out hz0) s.size))
              have HSX := Lib.hid hsx
              have HLT := Lib.hid hlt
              generalize sameT x x' = q at CC0 HSX
              have CC := CC0
              clear CC0 hlt hx hx' hh hh' hgl hgl' hvx hvx' hzx hzx' hcx hcx' hsx rng rng' hz0
              cases q
              · skip
                go_upto_region 20 with fail
                refine wp_region_held_drew (S := fun W => W.cell? ⟨g0, 5, none⟩ = some (.slice (some ⟨gl, ol, none⟩) m cl) ∧ W.cell? ⟨g0 + 1, 5, none⟩ = some (.slice (some ⟨gl', ol', none⟩) m cl') ∧ W.rangeAt gl (ol + j * 6) lx ∧ W.rangeAt gl' (ol' + j * 6) lx') (by kernel_rfl) ?_ (fun hHeld => ?_)
                · exact SOK.out _ ((Still.refl wr).drew)
                try simp only [Act.put, List.setIfInBounds_toArray, List.set_cons_zero, List.set_cons_succ]
                refine wpAnyH_take (i := 0) (v := .pointer (some ⟨g0, 5, none⟩)) rfl (by kernel_rfl) (by kernel_rfl) (by kernel_rfl) (fun _ _ _ h => h) (Or.inl ⟨by kernel_rfl, fun w hS => by obtain ⟨h0, h1, h2, h3⟩ := hS; go_simp⟩) (by assumption) ?_
                simp only [Act.put, List.setIfInBounds_toArray, List.set_cons_zero, List.set_cons_succ]
                refine wpAnyH_take (i := 1) (v := .slice (some ⟨gl, ol, none⟩) m cl) rfl (by kernel_rfl) (by kernel_rfl) (by kernel_rfl) (fun _ _ _ h => h) (Or.inl ⟨by kernel_rfl, fun w hS => by obtain ⟨h0, h1, h2, h3⟩ := hS; go_simp⟩) (by assumption) ?_
                simp only [Act.put, List.setIfInBounds_toArray, List.set_cons_zero, List.set_cons_succ]
                refine wpAnyH_take (i := 2) (v := .int .i64 (j : Int)) rfl (by kernel_rfl) (by kernel_rfl) (by kernel_rfl) (fun _ _ _ h => h) (Or.inl ⟨by kernel_rfl, fun w hS => by obtain ⟨h0, h1, h2, h3⟩ := hS; go_simp⟩) (by assumption) ?_
                simp only [Act.put, List.setIfInBounds_toArray, List.set_cons_zero, List.set_cons_succ]
                refine wpAnyH_take (i := 3) (v := .pointer (some ⟨gl, ol + j * 6, none⟩)) rfl (by kernel_rfl) (by kernel_rfl) (by kernel_rfl) (fun _ _ _ h => h) (Or.inl ⟨by kernel_rfl, fun w hS => by obtain ⟨h0, h1, h2, h3⟩ := hS; go_simp⟩) (by assumption) ?_
                simp only [Act.put, List.setIfInBounds_toArray, List.set_cons_zero, List.set_cons_succ]
                refine wpAnyH_take (i := 4) (v := .agg lx.toArray) rfl (by kernel_rfl) (by kernel_rfl) (by kernel_rfl) (fun _ _ _ h => h) ?hy4 (by assumption) ?_
                case hy4 =>
                  refine yieldsIf_load_mid ?hw4 26 (.tmp 100) ?ho4 gl (ol + j * 6) ?hx4 lx _ (fun w h => h.2.2.1) (Tryd.underlying26) ?hd4 (by rw [sizeValue, LX.out])
                  case hw4 => kernel_rfl
                  case ho4 => rfl
                  case hx4 => kernel_rfl
                  case hd4 => rfl
                simp only [Act.put, List.setIfInBounds_toArray, List.set_cons_zero, List.set_cons_succ]
                refine wpAnyH_take (i := 5) (v := .pointer (some ⟨g0 + 1, 5, none⟩)) rfl (by kernel_rfl) (by kernel_rfl) (by kernel_rfl) (fun _ _ _ h => h) (Or.inl ⟨by kernel_rfl, fun w hS => by obtain ⟨h0, h1, h2, h3⟩ := hS; go_simp⟩) (by assumption) ?_
                simp only [Act.put, List.setIfInBounds_toArray, List.set_cons_zero, List.set_cons_succ]
                refine wpAnyH_take (i := 6) (v := .slice (some ⟨gl', ol', none⟩) m cl') rfl (by kernel_rfl) (by kernel_rfl) (by kernel_rfl) (fun _ _ _ h => h) (Or.inl ⟨by kernel_rfl, fun w hS => by obtain ⟨h0, h1, h2, h3⟩ := hS; go_simp⟩) (by assumption) ?_
                simp only [Act.put, List.setIfInBounds_toArray, List.set_cons_zero, List.set_cons_succ]
                refine wpAnyH_take (i := 7) (v := .int .i64 (j : Int)) rfl (by kernel_rfl) (by kernel_rfl) (by kernel_rfl) (fun _ _ _ h => h) (Or.inl ⟨by kernel_rfl, fun w hS => by obtain ⟨h0, h1, h2, h3⟩ := hS; go_simp⟩) (by assumption) ?_
                simp only [Act.put, List.setIfInBounds_toArray, List.set_cons_zero, List.set_cons_succ]
                refine wpAnyH_take (i := 8) (v := .pointer (some ⟨gl', ol' + j * 6, none⟩)) rfl (by kernel_rfl) (by kernel_rfl) (by kernel_rfl) (fun _ _ _ h => h) (Or.inl ⟨by kernel_rfl, fun w hS => by obtain ⟨h0, h1, h2, h3⟩ := hS; go_simp⟩) (by assumption) ?_
                simp only [Act.put, List.setIfInBounds_toArray, List.set_cons_zero, List.set_cons_succ]
                refine wpAnyH_take (i := 9) (v := .agg lx'.toArray) rfl (by kernel_rfl) (by kernel_rfl) (by kernel_rfl) (fun _ _ _ h => h) ?hy9 (by assumption) ?_
                case hy9 =>
                  refine yieldsIf_load_mid ?hw9 26 (.tmp 105) ?ho9 gl' (ol' + j * 6) ?hx9 lx' _ (fun w h => h.2.2.2) (Tryd.underlying26) ?hd9 (by rw [sizeValue, LX'.out])
                  case hw9 => kernel_rfl
                  case ho9 => rfl
                  case hx9 => kernel_rfl
                  case hd9 => rfl
                simp only [Act.put, List.setIfInBounds_toArray, List.set_cons_zero, List.set_cons_succ]
                refine wpAnyH_ready (rs := [10]) (by kernel_rfl) (by simp) ?_
                refine AllReadyH.cons (o := ⟨some 107, .call { callee := .value (.func 13), args := #[.tmp 101, .tmp 106], argTypes := #[26, 26] }, _, _, _, none⟩) rfl (fun K hK => ?_) AllReadyH.nil
                go_simp
                go_wp2_with (go_at_call 13; refine (CC.out _ ((Still.refl wr).drew)).mono ?_; rintro e w1 ⟨rfl, s1⟩; have t1 : Still wr w1 := Still.trans ((Still.refl wr).drew) s1)
                refine hK.out _ _ (SOK.out _ t1) (fun hHeld => ?_)
                clear hK K
                try simp only [Act.put, List.setIfInBounds_toArray, List.set_cons_zero, List.set_cons_succ]
                refine wpAnyH_take (i := 11) (oi := ⟨some 108, .unOp .not 4 (.tmp 107), _, _, _, none⟩) (v := .bool true) rfl (by kernel_rfl) (by kernel_rfl) (by kernel_rfl) (fun _ _ _ h => h) (Or.inl ⟨by kernel_rfl, fun w hS => by obtain ⟨h0, h1, h2, h3⟩ := hS; go_simp⟩) (by assumption) ?_
                simp only [Act.put, List.setIfInBounds_toArray, List.set_cons_zero, List.set_cons_succ]
                refine wpAnyH_done (by kernel_rfl) ?_ _
                have S1 := Lib.hid (Still.trans hin.out.1 t1)
                have BX := Lib.hid (hin.out.2.1.still t1)
                have BX' := Lib.hid (hin.out.2.2.1.still t1)
                have Q := Lib.hid (show sameL l l' = false by rw [hin.out.2.2.2, HSX.out]; simp)
                go_wp2_with fail
                (try simp only [Exit.inBlock, Exit.then])
                go_ret
                rw [Q.out]
                exact ⟨by simp, S1.out⟩
              · skip
                go_upto_region 20 with fail
                refine wp_region_held_drew (S := fun W => W.cell? ⟨g0, 5, none⟩ = some (.slice (some ⟨gl, ol, none⟩) m cl) ∧ W.cell? ⟨g0 + 1, 5, none⟩ = some (.slice (some ⟨gl', ol', none⟩) m cl') ∧ W.rangeAt gl (ol + j * 6) lx ∧ W.rangeAt gl' (ol' + j * 6) lx') (by kernel_rfl) ?_ (fun hHeld => ?_)
                · exact SOK.out _ ((Still.refl wr).drew)
                try simp only [Act.put, List.setIfInBounds_toArray, List.set_cons_zero, List.set_cons_succ]
                refine wpAnyH_take (i := 0) (v := .pointer (some ⟨g0, 5, none⟩)) rfl (by kernel_rfl) (by kernel_rfl) (by kernel_rfl) (fun _ _ _ h => h) (Or.inl ⟨by kernel_rfl, fun w hS => by obtain ⟨h0, h1, h2, h3⟩ := hS; go_simp⟩) (by assumption) ?_
                simp only [Act.put, List.setIfInBounds_toArray, List.set_cons_zero, List.set_cons_succ]
                refine wpAnyH_take (i := 1) (v := .slice (some ⟨gl, ol, none⟩) m cl) rfl (by kernel_rfl) (by kernel_rfl) (by kernel_rfl) (fun _ _ _ h => h) (Or.inl ⟨by kernel_rfl, fun w hS => by obtain ⟨h0, h1, h2, h3⟩ := hS; go_simp⟩) (by assumption) ?_
                simp only [Act.put, List.setIfInBounds_toArray, List.set_cons_zero, List.set_cons_succ]
                refine wpAnyH_take (i := 2) (v := .int .i64 (j : Int)) rfl (by kernel_rfl) (by kernel_rfl) (by kernel_rfl) (fun _ _ _ h => h) (Or.inl ⟨by kernel_rfl, fun w hS => by obtain ⟨h0, h1, h2, h3⟩ := hS; go_simp⟩) (by assumption) ?_
                simp only [Act.put, List.setIfInBounds_toArray, List.set_cons_zero, List.set_cons_succ]
                refine wpAnyH_take (i := 3) (v := .pointer (some ⟨gl, ol + j * 6, none⟩)) rfl (by kernel_rfl) (by kernel_rfl) (by kernel_rfl) (fun _ _ _ h => h) (Or.inl ⟨by kernel_rfl, fun w hS => by obtain ⟨h0, h1, h2, h3⟩ := hS; go_simp⟩) (by assumption) ?_
                simp only [Act.put, List.setIfInBounds_toArray, List.set_cons_zero, List.set_cons_succ]
                refine wpAnyH_take (i := 4) (v := .agg lx.toArray) rfl (by kernel_rfl) (by kernel_rfl) (by kernel_rfl) (fun _ _ _ h => h) ?hy4 (by assumption) ?_
                case hy4 =>
                  refine yieldsIf_load_mid ?hw4 26 (.tmp 100) ?ho4 gl (ol + j * 6) ?hx4 lx _ (fun w h => h.2.2.1) (Tryd.underlying26) ?hd4 (by rw [sizeValue, LX.out])
                  case hw4 => kernel_rfl
                  case ho4 => rfl
                  case hx4 => kernel_rfl
                  case hd4 => rfl
                simp only [Act.put, List.setIfInBounds_toArray, List.set_cons_zero, List.set_cons_succ]
                refine wpAnyH_take (i := 5) (v := .pointer (some ⟨g0 + 1, 5, none⟩)) rfl (by kernel_rfl) (by kernel_rfl) (by kernel_rfl) (fun _ _ _ h => h) (Or.inl ⟨by kernel_rfl, fun w hS => by obtain ⟨h0, h1, h2, h3⟩ := hS; go_simp⟩) (by assumption) ?_
                simp only [Act.put, List.setIfInBounds_toArray, List.set_cons_zero, List.set_cons_succ]
                refine wpAnyH_take (i := 6) (v := .slice (some ⟨gl', ol', none⟩) m cl') rfl (by kernel_rfl) (by kernel_rfl) (by kernel_rfl) (fun _ _ _ h => h) (Or.inl ⟨by kernel_rfl, fun w hS => by obtain ⟨h0, h1, h2, h3⟩ := hS; go_simp⟩) (by assumption) ?_
                simp only [Act.put, List.setIfInBounds_toArray, List.set_cons_zero, List.set_cons_succ]
                refine wpAnyH_take (i := 7) (v := .int .i64 (j : Int)) rfl (by kernel_rfl) (by kernel_rfl) (by kernel_rfl) (fun _ _ _ h => h) (Or.inl ⟨by kernel_rfl, fun w hS => by obtain ⟨h0, h1, h2, h3⟩ := hS; go_simp⟩) (by assumption) ?_
                simp only [Act.put, List.setIfInBounds_toArray, List.set_cons_zero, List.set_cons_succ]
                refine wpAnyH_take (i := 8) (v := .pointer (some ⟨gl', ol' + j * 6, none⟩)) rfl (by kernel_rfl) (by kernel_rfl) (by kernel_rfl) (fun _ _ _ h => h) (Or.inl ⟨by kernel_rfl, fun w hS => by obtain ⟨h0, h1, h2, h3⟩ := hS; go_simp⟩) (by assumption) ?_
                simp only [Act.put, List.setIfInBounds_toArray, List.set_cons_zero, List.set_cons_succ]
                refine wpAnyH_take (i := 9) (v := .agg lx'.toArray) rfl (by kernel_rfl) (by kernel_rfl) (by kernel_rfl) (fun _ _ _ h => h) ?hy9 (by assumption) ?_
                case hy9 =>
                  refine yieldsIf_load_mid ?hw9 26 (.tmp 105) ?ho9 gl' (ol' + j * 6) ?hx9 lx' _ (fun w h => h.2.2.2) (Tryd.underlying26) ?hd9 (by rw [sizeValue, LX'.out])
                  case hw9 => kernel_rfl
                  case ho9 => rfl
                  case hx9 => kernel_rfl
                  case hd9 => rfl
                simp only [Act.put, List.setIfInBounds_toArray, List.set_cons_zero, List.set_cons_succ]
                refine wpAnyH_ready (rs := [10]) (by kernel_rfl) (by simp) ?_
                refine AllReadyH.cons (o := ⟨some 107, .call { callee := .value (.func 13), args := #[.tmp 101, .tmp 106], argTypes := #[26, 26] }, _, _, _, none⟩) rfl (fun K hK => ?_) AllReadyH.nil
                go_simp
                go_wp2_with (go_at_call 13; refine (CC.out _ ((Still.refl wr).drew)).mono ?_; rintro e w1 ⟨rfl, s1⟩; have t1 : Still wr w1 := Still.trans ((Still.refl wr).drew) s1)
                refine hK.out _ _ (SOK.out _ t1) (fun hHeld => ?_)
                clear hK K
                try simp only [Act.put, List.setIfInBounds_toArray, List.set_cons_zero, List.set_cons_succ]
                refine wpAnyH_take (i := 11) (oi := ⟨some 108, .unOp .not 4 (.tmp 107), _, _, _, none⟩) (v := .bool false) rfl (by kernel_rfl) (by kernel_rfl) (by kernel_rfl) (fun _ _ _ h => h) (Or.inl ⟨by kernel_rfl, fun w hS => by obtain ⟨h0, h1, h2, h3⟩ := hS; go_simp⟩) (by assumption) ?_
                simp only [Act.put, List.setIfInBounds_toArray, List.set_cons_zero, List.set_cons_succ]
                refine wpAnyH_done (by kernel_rfl) ?_ _
                have S1 := Lib.hid (Still.trans hin.out.1 t1)
                have BX := Lib.hid (hin.out.2.1.still t1)
                have BX' := Lib.hid (hin.out.2.2.1.still t1)
                have Q := Lib.hid (show sameL l l' = sameL (l.drop (j + 1)) (l'.drop (j + 1)) by rw [hin.out.2.2.2, HSX.out]; simp)
                clear t1
                go_wp2_with fail
                go_roundw
                case rel => exact ⟨j + 1, by have := HLT.out; omega, by go_num, S1.out, BX.out, BX'.out, Q.out⟩
                case measure => simp [intOf]; have := HLT.out; omega
            · obtain rfl : j = m := by omega
              have hend : sameL l l' = true := by
                rw [hin.out.2.2.2, List.drop_of_length_le (by rw [HM.out]; omega), List.drop_of_length_le (by rw [HM'.out]; omega)]
                unfold sameL
                rfl
              have HE := Lib.hid hend
              have d1 : ¬ (j : Int) < (j : Int) := by omega
              clear hend hlt
              go_wp2_with fail
              go_ret
              rw [HE.out]
              exact ⟨by simp, hin.out.1⟩
        · have d : ((m : Int) != (m' : Int)) = true := by simp; omega
          have HS := Lib.hid (show sameL l l' = false from sameL_len l l' (by rw [← HM.out, ← HM'.out]; exact hlen))
          clear hlen
          go_wp2_with fail
          (try simp only [Exit.inBlock, Exit.then])
          go_ret
          rw [HS.out]
          exact ⟨by simp, S8.out⟩
  · have hs : (decide (ks = ks') && sameL l l') = false := by
      rw [show decide (ks = ks') = false by rw [decide_eq_false_iff_not]; intro e; exact hkn (by rw [e])]
      rfl
    rw [hs]
    obtain ⟨nk, hnk⟩ : ∃ m, m = ks.length := ⟨_, rfl⟩
    obtain ⟨nk', hnk'⟩ : ∃ m', m' = ks'.length := ⟨_, rfl⟩
    rw [← hnk, ← hnk'] at hkn ⊢
    have d : ((nk : Int) != (nk' : Int)) = true := by simp; omega
    have ST := Lib.hid (show Still w ((w.alloc (.cells #[.int .i64 7, .int .i64 i, v2, v3, .slice Ak nk ck, .slice Al m cl] 26)).alloc (.cells #[.int .i64 7, .int .i64 i', v2', v3', .slice Ak' nk' ck', .slice Al' m' cl'] 26)) from ((Still.refl w).alloc (Nat.le_refl _) _).alloc (by simp) _)
    clear hm hm' hnk hnk' hkn h h' hn hn' hs hk hk' hkl hkl'
    go_enter Tryd.func13, Tryd.ntmps13
    go_wp2_with fail
    (try simp only [Exit.inBlock, Exit.then])
    go_ret
    exact ⟨rfl, ST.out⟩

/-- The document's own 'Same' of each value, with whatever other. -/
theorem rsameOK : ∀ (x : Tr), RSameOK x
  | .mk k i b t ks l => by
    intro y w B B' cs cs' h h' hB hB'
    obtain ⟨k', i', b', t', ks', l'⟩ := y
    unfold HasV at h h'
    obtain ⟨A, n, c, Ak, ck, Al, cl, rfl, hkb, hib, ⟨hr, hn, hA⟩, ht, ⟨hkeys, hkl⟩, hll, hL⟩ := h
    obtain ⟨A', n', c', Ak', ck', Al', cl', rfl, hkb', hib', ⟨hr', hn', hA'⟩, ht', ⟨hkeys', hkl'⟩, hll', hL'⟩ := h'
    have IH : ∀ x ∈ l, RSameOK x := fun x hx => rsameOK x
    unfold sameT
    by_cases hk : k = k'
    · subst hk
      by_cases h4 : k = 4
      · subst h4
        rw [show decide ((4 : Int) = 4) = true by rfl, Bool.true_and, if_neg (by decide), if_pos rfl]
        exact rsame_bytes i i' A A' n n' c c' b b' t t' _ _ _ _ w B B' hr hr' hB hB' hn hn'
      by_cases h6 : k = 6
      · subst h6
        rw [show decide ((6 : Int) = 6) = true by rfl, Bool.true_and, if_neg (by decide), if_neg (by decide), if_neg (by decide), if_pos rfl]
        exact rsame_list i i' _ _ _ _ _ _ Al Al' cl cl' l l' IH w B B' hB hB' hll hll' hL hL'
      by_cases h7 : k = 7
      · subst h7
        rw [show decide ((7 : Int) = 7) = true by rfl, Bool.true_and, if_neg (by decide), if_neg (by decide), if_neg (by decide), if_neg (by decide), if_pos rfl]
        exact rsame_map i i' _ _ _ _ Ak Ak' ck ck' ks ks' Al Al' cl cl' l l' IH w B B' hB hB' hll hll' hkeys hkeys' hkl hkl' hL hL'
      rw [if_neg h4, if_neg h6, if_neg h7]
      exact rsame_plain k k i i' _ _ t t' _ _ _ _ w (.inr ⟨rfl, h4, h6, h7⟩)
    · have e : ∀ r : Bool, (decide (k = k') && r) = false := fun r => by rw [show decide (k = k') = false by simpa using hk, Bool.false_and]
      rw [e]
      have P := rsame_plain k k' i i' (.slice A n c) (.slice A' n' c') t t' (.slice Ak ks.length ck) (.slice Ak' ks'.length ck') (.slice Al l.length cl) (.slice Al' l'.length cl') w (.inl hk)
      rw [e] at P
      exact P
end Go.Proofs.YtmpnehhndhepgaaDoor

/- A row of bytes of the call's own, each of which may be spoilt. It proves no statement. -/

namespace Go.Proofs.YtmpnehhndhepgaaDoor
open Go.RowKit
set_option linter.unusedVariables false
set_option linter.unusedSimpArgs false

/-- Bytes, n of them at least, from a block's beginning on. -/
def Byt (w : World) (g n : Nat) : Prop := ∃ cur, Blk w g 5 cur ∧ ∀ i, i < n → ∃ y : Int, 0 ≤ y ∧ y < 256 ∧ cur[i]? = some (.int .u8 y)
theorem Byt.at_ {w : World} {g n i : Nat} (h : Byt w g n) (hi : i < n) : ∃ y : Int, 0 ≤ y ∧ y < 256 ∧ w.cell? ⟨g, i, none⟩ = some (.int .u8 y) ∧ w.frozen? ⟨g, i, none⟩ = false := by
  obtain ⟨cur, hb, hc⟩ := h
  obtain ⟨y, h0, h1, h2⟩ := hc i hi
  exact ⟨y, h0, h1, (hb.cell i).trans h2, hb.frozen i⟩
theorem Byt.set {w : World} {g n i : Nat} {z : Int} (h : Byt w g n) (hi : i < n) (h0 : 0 ≤ z) (h1 : z < 256) : Byt (w.setCell ⟨g, i, none⟩ (.int .u8 z)) g n := by
  obtain ⟨cur, hb, hc⟩ := h
  refine ⟨_, hb.setc i _, fun j hj => ?_⟩
  obtain ⟨y, q0, q1, q2⟩ := hc j hj
  by_cases hij : i = j
  · subst hij
    have : i < cur.size := (Array.getElem?_eq_some_iff.1 q2).1
    exact ⟨z, h0, h1, by simp [this]⟩
  · exact ⟨y, q0, q1, by rw [Array.getElem?_setIfInBounds_ne hij]; exact q2⟩
theorem Byt.keep {w w' : World} {g n : Nat} (h : Byt w g n) (hb : w'.heap[g]? = w.heap[g]?) : Byt w' g n := by
  obtain ⟨cur, h1, h2⟩ := h
  exact ⟨cur, hb.trans h1, h2⟩
theorem Byt.lt {w : World} {g n : Nat} (h : Byt w g n) : g < w.heap.size := by
  obtain ⟨cur, h1, h2⟩ := h
  exact h1.lt
/-- A row of the call's own is such, where it has bytes. -/
theorem byt_own {w : World} {base n : Nat} {v : Value} {l : List UInt8} (h : w.ownsRow base 5 1 v n (bytesV l)) (hn : 0 < n) : ∃ g c, v = .slice (some ⟨g, 0, none⟩) n c ∧ base ≤ g ∧ Byt w g n := by
  rcases h.2 with ⟨_, h0⟩ | ⟨g, cap, cur, hv, hlo, hgb, _⟩
  · omega
  · subst hv
    refine ⟨g, cap, rfl, hlo, cur, hgb, fun i hi => ?_⟩
    have hl : (bytesV l).length = 1 * n := by have := h.1; omega
    have hc := h.cellAt i (by omega)
    have hb : Blk w g 5 cur := hgb
    rw [hb.cell i] at hc
    have hl2 : l.length = n := by simpa [bytesV] using hl
    have hx : (bytesV l)[i]? = some (Value.int .u8 (((l[i]'(by omega)).toNat : Nat) : Int)) := by simp [bytesV, List.getElem?_eq_getElem (show i < l.length by omega)]
    have hlt := (l[i]'(by omega)).toNat_lt
    exact ⟨_, by omega, by omega, hc.trans hx⟩
theorem grown_setc0 {w w' : World} {g i : Nat} {u : Value} (gr : w.grownBy w' (some g)) : w.grownBy (w'.setCell ⟨g, i, none⟩ u) (some g) :=
  ⟨gr.os, gr.tape, gr.output, by simpa [World.setCell] using gr.size, fun k hk hne => (Below.heap_setCell _ _ _ k (fun e => hne (by simp only at e; rw [e]))).trans (gr.block k hk hne)⟩
/-- One more, in a byte. -/
theorem u8_more (y : Int) (h0 : 0 ≤ y) (h1 : y < 256) : 0 ≤ IntKind.u8.wrap (y + 1) ∧ IntKind.u8.wrap (y + 1) < 256 := by
  unfold IntKind.wrap
  simp [IntKind.bits, IntKind.signed]
  omega
end Go.Proofs.YtmpnehhndhepgaaDoor
