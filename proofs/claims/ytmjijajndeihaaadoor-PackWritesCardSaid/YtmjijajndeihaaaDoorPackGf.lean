/- Contracts and facts, several texts in one. It proves no statement. -/
import Derived.Test.YtmjijajndeihaaaDoorPackGe
import Derived.Test.YtmjijajndeihaaaDoorPackGd
import Derived.ChangeSlices
import Derived.SliceStrings
import Derived.ChangeArms
import Derived.Deep.DeepCutAuto
import Derived.Deep.CutBlock

/- Values that came in, whatever their sizes. It proves no statement. -/





namespace Go.Proofs.YtmjijajndeihaaaDoor
open Go.RowKit
set_option linter.unusedVariables false
set_option linter.unusedSimpArgs false

def KeysW (w : World) (P : Nat → Prop) (A : Option Addr) (ks : List ByteArray) : Prop :=
  (∀ s ∈ ks, s.size ≤ 9223372036854775807) ∧ (0 < ks.length → ∃ g o, A = some ⟨g, o, none⟩ ∧ P g ∧ g < w.heap.size ∧ ∀ j, j < ks.length → w.cell? ⟨g, o + j, none⟩ = some (.string (ks.getD j ByteArray.empty)))
mutual
/-- The cells cs are the value t, of whatever sizes; what they lead to lies in blocks of which P is said. -/
def HasW (w : World) (P : Nat → Prop) : Tr → Array Value → Prop
  | .mk k i b t ks l, cs => ∃ A n c Ak ck Al cl, cs = #[.int .i64 k, .int .i64 i, .slice A n c, .string t, .slice Ak ks.length ck, .slice Al l.length cl] ∧
      (-9223372036854775808 ≤ k ∧ k ≤ 9223372036854775807) ∧ (-9223372036854775808 ≤ i ∧ i ≤ 9223372036854775807) ∧ (ReadsP w P A n b ∧ n ≤ c ∧ c ≤ 9223372036854775807 ∧ (A = none → n = 0 ∧ c = 0)) ∧ t.size ≤ 9223372036854775807 ∧
      (KeysW w P Ak ks ∧ ks.length ≤ 9223372036854775807) ∧ l.length ≤ 9223372036854775807 ∧ (0 < l.length → ∃ g o, Al = some ⟨g, o, none⟩ ∧ P g ∧ g < w.heap.size ∧ HasLW w P g o l)
def HasLW (w : World) (P : Nat → Prop) (g : Nat) : Nat → List Tr → Prop
  | _, [] => True
  | o, x :: r => (∃ cs, HasW w P x cs ∧ cs.size = 6 ∧ ∀ j v, cs[j]? = some v → w.cell? ⟨g, o + j, none⟩ = some v) ∧ HasLW w P g (o + 6) r
end
mutual
theorem HasW.keep {w w' : World} {P Q : Nat → Prop} (hb : ∀ b, P b → b < w.heap.size → w'.heap[b]? = w.heap[b]?) (hz : w.heap.size ≤ w'.heap.size) (hq : ∀ b, P b → b < w.heap.size → Q b) : ∀ (t : Tr) (cs : Array Value), HasW w P t cs → HasW w' Q t cs
  | .mk k i b t ks l, cs, h => by
    unfold HasW at h ⊢
    obtain ⟨A, n, c, Ak, ck, Al, cl, e, hk, hi, ⟨hr, h1, h2⟩, ht, ⟨hks, hkl⟩, hl, hL⟩ := h
    refine ⟨A, n, c, Ak, ck, Al, cl, e, hk, hi, ⟨⟨hr.1, fun hn => ?_⟩, h1, h2⟩, ht, ⟨⟨hks.1, fun hn => ?_⟩, hkl⟩, hl, fun hn => ?_⟩
    · obtain ⟨b', o, e2, hp, hlt, hc⟩ := hr.2 hn
      exact ⟨b', o, e2, hq _ hp hlt, by omega, fun i hi => (World.cell?_of_block (w := w) (a := ⟨b', o + i, none⟩) (hb b' hp hlt)).trans (hc i hi)⟩
    · obtain ⟨b', o, e2, hp, hlt, hc⟩ := hks.2 hn
      exact ⟨b', o, e2, hq _ hp hlt, by omega, fun i hi => (World.cell?_of_block (w := w) (a := ⟨b', o + i, none⟩) (hb b' hp hlt)).trans (hc i hi)⟩
    · obtain ⟨g, o, e2, hp, hlt, hh⟩ := hL hn
      exact ⟨g, o, e2, hq _ hp hlt, by omega, HasLW.keep hb hz hq g hp hlt o l hh⟩
theorem HasLW.keep {w w' : World} {P Q : Nat → Prop} (hb : ∀ b, P b → b < w.heap.size → w'.heap[b]? = w.heap[b]?) (hz : w.heap.size ≤ w'.heap.size) (hq : ∀ b, P b → b < w.heap.size → Q b) (g : Nat) (hg : P g) (hlt : g < w.heap.size) : ∀ (o : Nat) (l : List Tr), HasLW w P g o l → HasLW w' Q g o l
  | _, [], _ => by unfold HasLW; trivial
  | o, x :: r, h => by
    unfold HasLW at h ⊢
    obtain ⟨⟨cs, hv, hz', hc⟩, hr⟩ := h
    exact ⟨⟨cs, HasW.keep hb hz hq x cs hv, hz', fun j v hj => (World.cell?_of_block (w := w) (a := ⟨g, o + j, none⟩) (hb g hg hlt)).trans (hc j v hj)⟩, HasLW.keep hb hz hq g hg hlt (o + 6) r hr⟩
end
theorem HasLW.at {w : World} {P : Nat → Prop} {g : Nat} : ∀ (l : List Tr) (o : Nat), HasLW w P g o l → ∀ (j : Nat) (x : Tr), l[j]? = some x → ∃ cs, HasW w P x cs ∧ cs.size = 6 ∧ ∀ i v, cs[i]? = some v → w.cell? ⟨g, o + 6 * j + i, none⟩ = some v
  | [], _, _, j, x, hx => by simp at hx
  | y :: r, o, h, 0, x, hx => by
    unfold HasLW at h
    simp only [List.getElem?_cons_zero, Option.some.injEq] at hx
    subst hx
    obtain ⟨⟨cs, hv, hz, hc⟩, _⟩ := h
    exact ⟨cs, hv, hz, fun i v hi => by simpa using hc i v hi⟩
  | y :: r, o, h, j + 1, x, hx => by
    unfold HasLW at h
    obtain ⟨cs, hv, hz, hc⟩ := HasLW.at r (o + 6) h.2 j x (by simpa using hx)
    exact ⟨cs, hv, hz, fun i v hi => by rw [show o + 6 * (j + 1) + i = o + 6 + 6 * j + i by omega]; exact hc i v hi⟩
theorem HasW.size {w : World} {P : Nat → Prop} : ∀ (t : Tr) (cs : Array Value), HasW w P t cs → cs.size = 6
  | .mk k i b t ks l, cs, h => by
    unfold HasW at h
    obtain ⟨A, n, c, Ak, ck, Al, cl, rfl, _⟩ := h
    rfl
theorem HasW.one {w : World} {P : Nat → Prop} : ∀ (t : Tr) (cs : Array Value), HasW w P t cs → cs.all (·.oneCell') = true
  | .mk k i b t ks l, cs, h => by
    unfold HasW at h
    obtain ⟨A, n, c, Ak, ck, Al, cl, rfl, _⟩ := h
    simp [Value.oneCell']
mutual
/-- A value of sizes that a machine has. -/
def smT : Tr → Prop
  | .mk k i b t ks l => b.length ≤ 1048576 ∧ t.size ≤ 1048576 ∧ (∀ s ∈ ks, s.size ≤ 1048576) ∧ ks.length ≤ 1048576 ∧ l.length ≤ 1048576 ∧ smL l
def smL : List Tr → Prop
  | [] => True
  | x :: r => smT x ∧ smL r
end
mutual
theorem HasW.toV {w : World} {P : Nat → Prop} {B : Nat} (hp : ∀ b, P b → b < w.heap.size → b < B) : ∀ (t : Tr) (cs : Array Value), smT t → HasW w P t cs → HasV w B t cs
  | .mk k i b t ks l, cs, hs, h => by
    unfold HasW at h
    unfold HasV
    unfold smT at hs
    obtain ⟨s1, s2, s3, s4, s5, s6⟩ := hs
    obtain ⟨A, n, c, Ak, ck, Al, cl, e, hk, hi, ⟨hr, h1, h2, h3⟩, ht, ⟨hks, hkl⟩, hl, hL⟩ := h
    refine ⟨A, n, c, Ak, ck, Al, cl, e, hk, hi, ⟨⟨hr.1, fun hn => ?_⟩, by have := hr.1; omega, fun e => (h3 e).2⟩, s2, ⟨⟨s3, fun hn => ?_⟩, s4⟩, s5, fun hn => ?_⟩
    · obtain ⟨b', o, e2, hp', hlt, hc⟩ := hr.2 hn
      exact ⟨b', o, e2, hp b' hp' hlt, hc⟩
    · obtain ⟨b', o, e2, hp', hlt, hc⟩ := hks.2 hn
      exact ⟨b', o, e2, hp b' hp' hlt, hc⟩
    · obtain ⟨g, o, e2, hp', hlt, hh⟩ := hL hn
      exact ⟨g, o, e2, hp g hp' hlt, HasLW.toV hp g o l s6 hh⟩
theorem HasLW.toV {w : World} {P : Nat → Prop} {B : Nat} (hp : ∀ b, P b → b < w.heap.size → b < B) (g : Nat) : ∀ (o : Nat) (l : List Tr), smL l → HasLW w P g o l → HasL w B g o l
  | _, [], _, _ => by unfold HasL; trivial
  | o, x :: r, hs, h => by
    unfold HasLW at h
    unfold HasL
    unfold smL at hs
    obtain ⟨⟨cs, hv, hz', hc⟩, hr⟩ := h
    exact ⟨⟨cs, HasW.toV hp x cs hs.1 hv, hz', hc⟩, HasLW.toV hp g (o + 6) r hs.2 hr⟩
end
mutual
theorem hasV_in {w : World} {B : Nat} : ∀ (t : Tr) (cs : Array Value), HasV w B t cs → inT t
  | .mk k i b t ks l, cs, h => by
    unfold HasV at h
    unfold inT
    obtain ⟨A, n, c, Ak, ck, Al, cl, e, hk, hi, hr, ht, hks, hl, hL⟩ := h
    refine ⟨hi, ?_⟩
    rcases l with _ | ⟨x, r⟩
    · unfold inL; trivial
    · obtain ⟨g, o, _, _, hh⟩ := hL (by simp)
      exact hasL_in g o (x :: r) hh
theorem hasL_in {w : World} {B : Nat} (g : Nat) : ∀ (o : Nat) (l : List Tr), HasL w B g o l → inL l
  | _, [], _ => by unfold inL; trivial
  | o, x :: r, h => by
    unfold HasL at h
    unfold inL
    obtain ⟨⟨cs, hv, _⟩, hr⟩ := h
    exact ⟨hasV_in x cs hv, hasL_in g (o + 6) r hr⟩
end

theorem Tryd.cells_value : Tryd.prog.cellsOf 26 = 6 := by kernel_rfl
theorem Tryd.cells_int : Tryd.prog.cellsOf 3 = 1 := by kernel_rfl
theorem Tryd.cells_int64 : Tryd.prog.cellsOf 2 = 1 := by kernel_rfl
theorem Tryd.cells_bytes : Tryd.prog.cellsOf 22 = 1 := by kernel_rfl
theorem Tryd.cells_texts : Tryd.prog.cellsOf 23 = 1 := by kernel_rfl
theorem Tryd.cells_values : Tryd.prog.cellsOf 24 = 1 := by kernel_rfl
theorem Tryd.cells_byte : Tryd.prog.cellsOf 5 = 1 := by kernel_rfl
theorem Tryd.cells_text : Tryd.prog.cellsOf 9 = 1 := by kernel_rfl
/-- So many values, one for each place. -/
theorem trees_of {w : World} {P : Nat → Prop} {g o : Nat} : ∀ (n : Nat), (∀ i, i < n → ∃ x cs, HasW w P x cs ∧ cs.size = 6 ∧ ∀ j v, cs[j]? = some v → w.cell? ⟨g, o + 6 * i + j, none⟩ = some v) → ∃ l, l.length = n ∧ ∀ (o' : Nat), o' = o → HasLW w P g o' l := by
  intro n
  induction n generalizing o with
  | zero => intro _; exact ⟨[], rfl, fun _ _ => by unfold HasLW; trivial⟩
  | succ n ih =>
    intro h
    obtain ⟨x, cs, hv, hz, hc⟩ := h 0 (by omega)
    obtain ⟨l, hl, hL⟩ := ih (o := o + 6) fun i hi => by
      obtain ⟨x, cs, hv, hz, hc⟩ := h (i + 1) (by omega)
      exact ⟨x, cs, hv, hz, fun j v hj => by rw [show o + 6 + 6 * i + j = o + 6 * (i + 1) + j by omega]; exact hc j v hj⟩
    refine ⟨x :: l, by simp [hl], fun o' ho => ?_⟩
    subst ho
    unfold HasLW
    exact ⟨⟨cs, hv, hz, fun j v hj => by simpa using hc j v hj⟩, hL _ rfl⟩

set_option maxRecDepth 100000 in
set_option maxHeartbeats 1600000 in
/-- A value that came in is some tree. -/
theorem raw_has {H : Type} {enc : TypeId × Value → H} {w : World} {held : Bool} : ∀ (fuel : Nat) (cs : List Value) (y : DataW H × List MemPlace), DataW.trod enc Tryd.prog w 0 (fun _ => true) held fuel 26 cs = some y → ∃ x, HasW w (fun _ => True) x cs.toArray := by
  intro fuel
  induction fuel using Nat.strongRecOn with
  | _ fuel ih =>
    intro cs y h
    obtain ⟨xs, n, hn, hx, hlen, hxl, hg⟩ := DataW.trod_struct Tryd.underlying26 h
    rw [Tryd.cells_value] at hlen
    match cs, hlen with
    | [c0, c1, c2, c3, c4, c5], _ =>
      have hf : ∀ (i : Nat) (hi : i < xs.length), xs[i]? = some xs[i] := fun i hi => List.getElem?_eq_getElem hi
      have hxl6 : xs.length = 6 := hxl
      have g0 : DataW.trod enc Tryd.prog w 0 (fun _ => true) held n 3 [c0] = some xs[0] := by
        have this : DataW.trod enc Tryd.prog w 0 (fun _ => true) held n 3 (([c0, c1, c2, c3, c4, c5].drop 0).take (Tryd.prog.cellsOf 3)) = some xs[0] := (hg 0 _ rfl).trans (hf 0 (by omega))
        rw [Tryd.cells_int] at this
        exact this
      have g1 : DataW.trod enc Tryd.prog w 0 (fun _ => true) held n 2 [c1] = some xs[1] := by
        have this : DataW.trod enc Tryd.prog w 0 (fun _ => true) held n 2 (([c0, c1, c2, c3, c4, c5].drop 1).take (Tryd.prog.cellsOf 2)) = some xs[1] := (hg 1 _ rfl).trans (hf 1 (by omega))
        rw [Tryd.cells_int64] at this
        exact this
      have g2 : DataW.trod enc Tryd.prog w 0 (fun _ => true) held n 22 [c2] = some xs[2] := by
        have this : DataW.trod enc Tryd.prog w 0 (fun _ => true) held n 22 (([c0, c1, c2, c3, c4, c5].drop 2).take (Tryd.prog.cellsOf 22)) = some xs[2] := (hg 2 _ rfl).trans (hf 2 (by omega))
        rw [Tryd.cells_bytes] at this
        exact this
      have g3 : DataW.trod enc Tryd.prog w 0 (fun _ => true) held n 9 [c3] = some xs[3] := by
        have this : DataW.trod enc Tryd.prog w 0 (fun _ => true) held n 9 (([c0, c1, c2, c3, c4, c5].drop 3).take (Tryd.prog.cellsOf 9)) = some xs[3] := (hg 3 _ rfl).trans (hf 3 (by omega))
        rw [Tryd.cells_text] at this
        exact this
      have g4 : DataW.trod enc Tryd.prog w 0 (fun _ => true) held n 23 [c4] = some xs[4] := by
        have this : DataW.trod enc Tryd.prog w 0 (fun _ => true) held n 23 (([c0, c1, c2, c3, c4, c5].drop 4).take (Tryd.prog.cellsOf 23)) = some xs[4] := (hg 4 _ rfl).trans (hf 4 (by omega))
        rw [Tryd.cells_texts] at this
        exact this
      have g5 : DataW.trod enc Tryd.prog w 0 (fun _ => true) held n 24 [c5] = some xs[5] := by
        have this : DataW.trod enc Tryd.prog w 0 (fun _ => true) held n 24 (([c0, c1, c2, c3, c4, c5].drop 5).take (Tryd.prog.cellsOf 24)) = some xs[5] := (hg 5 _ rfl).trans (hf 5 (by omega))
        rw [Tryd.cells_values] at this
        exact this
      obtain ⟨k, e0, _, w0⟩ := DataW.trod_int Tryd.underlying3 g0
      obtain ⟨i, e1, _, w1⟩ := DataW.trod_int Tryd.underlying2 g1
      obtain ⟨t, e3, _, hts⟩ := DataW.trod_string Tryd.underlying9 g3
      obtain rfl : c0 = .int .i64 k := by have := e0; simpa using this
      obtain rfl : c1 = .int .i64 i := by have := e1; simpa using this
      obtain rfl : c3 = .string t := by have := e3; simpa using this
      have hb : ∃ (A : Option Addr) (n c : Nat) (b : List UInt8), c2 = .slice A n c ∧ ReadsP w (fun _ => True) A n b ∧ n ≤ c ∧ c ≤ 9223372036854775807 ∧ (A = none → n = 0 ∧ c = 0) := by
        rcases Go.ChangeShapes.open_ints Tryd.underlying22 Tryd.underlying5 Tryd.cells_byte g2 with ⟨e2, _⟩ | ⟨a, len, cap, zs, e2, _, hl, hm, hz, _, hc, hw⟩
        · refine ⟨none, 0, 0, [], by simpa using e2, ⟨rfl, fun h => absurd h (by omega)⟩, by omega, by omega, fun _ => ⟨rfl, rfl⟩⟩
        · obtain ⟨l, hr, h1, h2, h3⟩ := reads_of_row (a := some a) (len := len) (cap := cap) (zs := zs) (.inr ⟨a, rfl, hl, hm, by simpa using hz, hc, hw⟩)
          exact ⟨some a, len, cap, l, by simpa using e2, ⟨hr.1, fun hn => by
            obtain ⟨b, o, e, hlt, hcc⟩ := hr.2 hn
            exact ⟨b, o, e, trivial, hlt, hcc⟩⟩, h1, h2, h3⟩
      have hk : ∃ (A : Option Addr) (ks : List ByteArray) (c : Nat), c4 = .slice A ks.length c ∧ KeysW w (fun _ => True) A ks ∧ ks.length ≤ 9223372036854775807 := by
        rcases Go.ChangeShapes.open_strings Tryd.underlying23 Tryd.underlying9 Tryd.cells_text g4 with ⟨e4, _⟩ | ⟨a, len, cap, ss, e4, _, hl, hm, hz, _, hc, hw⟩
        · exact ⟨none, [], 0, by simpa using e4, ⟨fun s h => by simp at h, fun h => absurd h (by simp)⟩, by simp⟩
        · have hsl : ss.length = cap := by simpa using hz
          have hlen : (ss.take len).length = len := by rw [List.length_take]; omega
          refine ⟨some a, ss.take len, cap, by rw [hlen]; simpa using e4, ⟨fun s hs => by have := hw s (List.mem_of_mem_take hs); unfold maxLen at this; omega, fun hn => ?_⟩, by unfold maxLen at hm; omega⟩
          obtain ⟨b, o, sp⟩ := a
          have h0 := hc 0 (by omega)
          have hsp : sp = none := by simpa [Addr.add] using World.cell?_spot h0
          subst hsp
          refine ⟨b, o, rfl, trivial, by simpa [Addr.add] using World.block_lt_of_cell? w _ h0, fun j hj => ?_⟩
          have hj' := hc j (by omega)
          rw [Addr.add_lit] at hj'
          rw [hj']
          congr 2
          simp [List.getD, show j < len by omega]
      have hv : ∃ (A : Option Addr) (l : List Tr) (c : Nat), c5 = .slice A l.length c ∧ l.length ≤ 9223372036854775807 ∧ (0 < l.length → ∃ g o, A = some ⟨g, o, none⟩ ∧ True ∧ g < w.heap.size ∧ HasLW w (fun _ => True) g o l) := by
        rcases DataW.trod_slice Tryd.underlying24 g5 with ⟨e5, _⟩ | ⟨a, len, cap, elems, rest, n', hn', e5, _, _, hl, hm, hel, hat, _, _⟩
        · exact ⟨none, [], 0, by simpa using e5, by simp, fun h => absurd h (by simp)⟩
        · by_cases h0 : len = 0
          · subst h0
            exact ⟨some a, [], cap, by simpa using e5, by simp, fun h => absurd h (by simp)⟩
          have hex : ∀ i, i < len → ∃ x cs, HasW w (fun _ => True) x cs ∧ cs.size = 6 ∧ ∀ j v, cs[j]? = some v → w.cell? ((a.add (i * 6)).add j) = some v := by
            intro i hi
            have h1 := hat i hi
            rw [List.getElem?_eq_getElem (by omega), Option.bind_eq_some_iff] at h1
            obtain ⟨cs', hc', ht'⟩ := h1
            rw [Tryd.cells_value] at hc'
            obtain ⟨x, hx⟩ := ih n' (by omega) cs' _ ht'
            obtain ⟨_, hcl, hcat⟩ := World.cells?_some hc'
            refine ⟨x, cs'.toArray, hx, by simpa using hcl, fun j v hj => ?_⟩
            have hjl : j < 6 := by have := (Array.getElem?_eq_some_iff.1 hj).1; simpa [hcl] using this
            rw [hcat j hjl]
            simpa using hj
          obtain ⟨b, o, sp⟩ := a
          obtain ⟨x0, cs0, _, hz0, hc0⟩ := hex 0 (by omega)
          have h0c := hc0 0 cs0[0] (by simp [hz0])
          have hsp : sp = none := by simpa [Addr.add] using World.cell?_spot h0c
          subst hsp
          obtain ⟨l, hll, hL⟩ := trees_of (w := w) (P := fun _ => True) (g := b) (o := o) len fun i hi => by
            obtain ⟨x, cs, hv, hz, hc⟩ := hex i hi
            refine ⟨x, cs, hv, hz, fun j v hj => ?_⟩
            have := hc j v hj
            rw [Addr.add_lit, Addr.add_lit] at this
            rw [show o + 6 * i + j = o + i * 6 + j by omega]
            exact this
          exact ⟨some ⟨b, o, none⟩, l, cap, by rw [hll]; simpa using e5, by unfold maxLen at hm; omega, fun _ => ⟨b, o, rfl, trivial, by simpa [Addr.add] using World.block_lt_of_cell? w _ h0c, hL o rfl⟩⟩
      obtain ⟨A, nb, c, b, rfl, hr, h1, h2, h3⟩ := hb
      obtain ⟨Ak, ks, ck, rfl, hkw, hkl⟩ := hk
      obtain ⟨Al, l, cl, rfl, hll, hL⟩ := hv
      refine ⟨.mk k i b t ks l, ?_⟩
      unfold HasW
      exact ⟨A, nb, c, Ak, ck, Al, cl, rfl, bounds_i64 w0, bounds_i64 w1, ⟨hr, h1, h2, h3⟩, by unfold maxLen at hts; omega, ⟨hkw, hkl⟩, hll, hL⟩
end Go.Proofs.YtmjijajndeihaaaDoor

/- The document's own small values: what they are, and the laws that its walk wants. It proves no statement. -/


namespace Go.Proofs.YtmjijajndeihaaaDoor
open Go.RowKit
set_option linter.unusedVariables false
set_option linter.unusedSimpArgs false

/-- A text's first bytes. -/
def shB (k : Nat) (s : ByteArray) : ByteArray := if k < s.size then s.extract 0 k else s
theorem shB_size (k : Nat) (s : ByteArray) : (shB k s).size ≤ k := by
  unfold shB
  split
  · simp; omega
  · omega
mutual
/-- A value of at most so many values within: the value, and how many are left. -/
def fewT : Tr → Nat → Tr × Nat
  | .mk k i b t ks l, m => (.mk k i (b.take 700) (shB 700 t) ((ks.take 40).map (shB 100)) (fewL 40 l (m - 1)).1, (fewL 40 l (m - 1)).2)
def fewL : Nat → List Tr → Nat → List Tr × Nat
  | 0, _, m => ([], m)
  | _ + 1, [], m => ([], m)
  | j + 1, x :: r, m => if 0 < m then ((fewT x m).1 :: (fewL j r (fewT x m).2).1, (fewL j r (fewT x m).2).2) else ([], m)
end
mutual
theorem fewT_le : ∀ (x : Tr) (m : Nat), (fewT x m).2 ≤ m
  | .mk k i b t ks l, m => by
    unfold fewT
    have := fewL_le 40 l (m - 1)
    simp only
    omega
theorem fewL_le : ∀ (j : Nat) (l : List Tr) (m : Nat), (fewL j l m).2 ≤ m
  | 0, _, m => by unfold fewL; omega
  | _ + 1, [], m => by unfold fewL; omega
  | j + 1, x :: r, m => by
    unfold fewL
    split
    · have h1 := fewT_le x m
      have h2 := fewL_le j r (fewT x m).2
      simp only
      omega
    · simp
end
mutual
theorem few_sm : ∀ (x : Tr) (m : Nat), smT (fewT x m).1
  | .mk k i b t ks l, m => by
    unfold fewT
    simp only
    unfold smT
    have h1 := few_sml 40 l (m - 1)
    refine ⟨by rw [List.length_take]; omega, by have := shB_size 700 t; omega, fun s hs => ?_, by rw [List.length_map, List.length_take]; omega, by omega, h1.2⟩
    obtain ⟨s0, _, rfl⟩ := List.mem_map.1 hs
    have := shB_size 100 s0
    omega
theorem few_sml : ∀ (j : Nat) (l : List Tr) (m : Nat), (fewL j l m).1.length ≤ j ∧ smL (fewL j l m).1
  | 0, _, m => by unfold fewL; exact ⟨by simp, by unfold smL; trivial⟩
  | _ + 1, [], m => by unfold fewL; exact ⟨by simp, by unfold smL; trivial⟩
  | j + 1, x :: r, m => by
    unfold fewL
    split
    · have h1 := few_sm x m
      have h2 := few_sml j r (fewT x m).2
      simp only
      exact ⟨by simp; omega, by unfold smL; exact ⟨h1, h2.2⟩⟩
    · exact ⟨by simp, by unfold smL; trivial⟩
end
/-- What was taken ahead of what is still to be taken. -/
theorem fewL_step (j : Nat) (l : List Tr) (m : Nat) (hj : j < 40) (x : Tr) (hx : l[j]? = some x) (hm : 0 < m) :
    fewL (40 - j) (l.drop j) m = ((fewT x m).1 :: (fewL (40 - (j + 1)) (l.drop (j + 1)) (fewT x m).2).1, (fewL (40 - (j + 1)) (l.drop (j + 1)) (fewT x m).2).2) := by
  have hl := (List.getElem?_eq_some_iff.1 hx)
  obtain ⟨hlt, hx'⟩ := hl
  rw [List.drop_eq_getElem_cons hlt, hx', show 40 - j = (40 - (j + 1)) + 1 by omega, fewL, if_pos hm]
theorem fewL_stop (j : Nat) (l : List Tr) (m : Nat) (h : ¬ (j < l.length ∧ j < 40 ∧ 0 < m)) : fewL (40 - j) (l.drop j) m = ([], m) := by
  by_cases h1 : j < l.length
  · by_cases h2 : j < 40
    · have h3 : ¬ 0 < m := fun h3 => h ⟨h1, h2, h3⟩
      rw [List.drop_eq_getElem_cons h1, show 40 - j = (40 - (j + 1)) + 1 by omega, fewL, if_neg h3]
    · rw [show 40 - j = 0 by omega, fewL]
  · rw [List.drop_eq_nil_of_le (by omega)]
    rcases 40 - j with _ | q
    · rw [fewL]
    · rw [fewL]

set_option maxHeartbeats 800000 in
theorem short_k (s : ByteArray) (k : Nat) (w : World) (hs : s.size ≤ 9223372036854775807) :
    Calls Tryd.prog 26 #[.string s, .int .i64 (k : Int)] w fun e w' => e = .returned (.string (shB k s)) ∧ w = w' := by
  unfold shB
  obtain ⟨n, hn⟩ : ∃ n, n = s.size := ⟨_, rfl⟩
  by_cases h : k < n
  · have h1 : (k : Int) < (s.size : Int) := by omega
    have h2 : (k : Int) ≤ (s.size : Int) := by omega
    have h3 : (0 : Int) ≤ (k : Int) := by omega
    rw [if_pos (by omega)]
    go_enter Tryd.func26, Tryd.ntmps26
    go_wp2_with fail
    go_ret
    exact ⟨rfl, rfl⟩
  · have h1 : ¬ (k : Int) < (s.size : Int) := by omega
    rw [if_neg (by omega)]
    go_enter Tryd.func26, Tryd.ntmps26
    go_wp2_with fail
    go_ret
    exact ⟨rfl, rfl⟩

theorem step_allocV (w : World) {o : Oper} {a : Act} {K : Act → World → Prop} {Q : Exit → Act → World → Prop} (ho : o.op = .alloc 26)
    (h : K (a.put o.dst (.pointer (some ⟨w.heap.size, 0, none⟩))) (w.alloc (.cells cellsZ 26))) : o.wp Tryd.prog a w K Q := by
  obtain ⟨i0, hi, hz0, hz1, hz2⟩ := info_parts Tryd.infoValue
  unfold Oper.wp
  rw [run_alloc_arr _ o 26 ho cellsZ 6 (by rw [hi]; simp [hz0, hz1]) w]
  exact h
theorem step_storeV (w : World) {o : Oper} {a : Act} {K : Act → World → Prop} {Q : Exit → Act → World → Prop} (x y : Operand) (ho : o.op = .store 26 x y)
    (g : Nat) (cells : Array Value) (hx : a.eval x = .pointer (some ⟨g, 0, none⟩)) (hy : a.eval y = .agg cells) (old : Array Value) (hg : Blk w g 26 old) (h6 : cells.size = 6) (hold : old.size = 6) (h1 : cells.all (·.oneCell') = true)
    (h : K (a.put o.dst undef) (w.setRow g cells)) : o.wp Tryd.prog a w K Q :=
  wp_store_row 26 x y ho g cells hx hy 26 old hg (by rw [sizeValue, h6]) (by rw [hold, h6]) h1 h
theorem step_storeC (w : World) {P : Program} {o : Oper} {a : Act} {K : Act → World → Prop} {Q : Exit → Act → World → Prop} (ty : TypeId) (x y : Operand) (ho : o.op = .store ty x y)
    (b i : Nat) (v old : Value) (hx : a.eval x = .pointer (some ⟨b, i, none⟩)) (hy : a.eval y = v) (hv : v.oneCell' = true) (hi : (P.info? ty).map (·.size) = some 1) (hc : w.cell? ⟨b, i, none⟩ = some old) (hf : w.frozen? ⟨b, i, none⟩ = false)
    (h : K (a.put o.dst undef) (w.setCell ⟨b, i, none⟩ v)) : o.wp P a w K Q := by
  unfold Oper.wp execOp
  simp only [ho, hx, hy, Instr.storeAt, Instr.sureAddr, Sem.run_bind, Sem.run_pure, Result.andThen_ok, storeVar_cell P ty hi ⟨b, i, none⟩ v old hv w hc hf]
  exact h
end Go.Proofs.YtmjijajndeihaaaDoor

/- What holds in the two loops that make a value small. It proves no statement. -/

namespace Go.Proofs.YtmjijajndeihaaaDoor
open Go.RowKit
set_option linter.unusedVariables false
set_option linter.unusedSimpArgs false

theorem own_formG {w : World} {base n z : Nat} {e : TypeId} {v : Value} {xs : List Value} (h : w.ownsRow base e z v n xs) : ∃ A c, v = .slice A n c ∧ n ≤ c ∧ c ≤ 9223372036854775807 ∧ (A = none → n = 0 ∧ c = 0) := by
  rcases h.2 with ⟨rfl, rfl⟩ | ⟨g, cap, cur, rfl, _, _, hnc, hm, _⟩
  · exact ⟨none, 0, rfl, Nat.le_refl _, by omega, fun _ => ⟨rfl, rfl⟩⟩
  · exact ⟨_, cap, rfl, hnc, by unfold maxLen at hm; omega, fun e => by cases e⟩
/-- A row of the call's own stays where one other cell turns. -/
theorem own_setc {w : World} {base n z g i : Nat} {e : TypeId} {v u : Value} {xs : List Value} (h : w.ownsRow base e z v n xs) (ne : v.ownBlock ≠ some g) : (w.setCell ⟨g, i, none⟩ u).ownsRow base e z v n xs := by
  refine ⟨h.1, ?_⟩
  rcases h.2 with hn | ⟨g', cap, cur, rfl, hb, hgg, rest⟩
  · exact .inl hn
  · refine .inr ⟨g', cap, cur, rfl, hb, ?_, rest⟩
    rw [Below.heap_setCell w _ u g' (fun e => ne (by simp only at e; rw [e]; rfl))]
    exact hgg

theorem own_of_block {w w' : World} {base n z : Nat} {e : TypeId} {v : Value} {xs : List Value} (h : w.ownsRow base e z v n xs) (hb : ∀ b, v.ownBlock = some b → w'.heap[b]? = w.heap[b]?) : w'.ownsRow base e z v n xs := by
  refine ⟨h.1, ?_⟩
  rcases h.2 with hn | ⟨g', cap, cur, rfl, hlo, hgg, rest⟩
  · exact .inl hn
  · exact .inr ⟨g', cap, cur, rfl, hlo, (hb g' rfl).trans hgg, rest⟩
/-- In the loop over the keys. -/
structure Few1 (wc wr : World) (g5 : Nat) (v0 v1 v2 v3 : Value) (kv : Value) (j : Nat) (kk : List ByteArray) : Prop where
  own : wr.ownsRow wc.heap.size 9 1 kv j (kk.map Value.string)
  bx : Blk wr g5 26 #[v0, v1, v2, v3, kv, .slice none 0 0]
  gr : wc.grownBy wr (some g5)
  lt : g5 < wc.heap.size
section
variable {wc wr w' : World} {g5 : Nat} {v0 v1 v2 v3 kv : Value} {j : Nat} {kk : List ByteArray}
theorem Few1.ne (F : Few1 wc wr g5 v0 v1 v2 v3 kv j kk) : kv.ownBlock ≠ some g5 := fun e => by have h1 := (F.own.lt _ e).1; have h2 := F.lt; omega
theorem Few1.still (F : Few1 wc wr g5 v0 v1 v2 v3 kv j kk) (s : Still wr w') : Few1 wc w' g5 v0 v1 v2 v3 kv j kk :=
  ⟨F.own.kept (grown_of_still (r := some g5) s) (.inr F.ne), F.bx.still s, grown_trans F.gr (grown_of_still s), F.lt⟩
theorem Few1.push (F : Few1 wc wr g5 v0 v1 v2 v3 kv j kk) {v' : Value} {s : ByteArray} (own : w'.ownsRow wc.heap.size 9 1 v' (j + 1) (kk.map Value.string ++ [.string s])) (gr : wr.grownBy w' kv.ownBlock) (loc : v'.ownBlock = kv.ownBlock ∨ v'.ownBlock = some wr.heap.size) :
    Blk w' g5 26 #[v0, v1, v2, v3, kv, .slice none 0 0] ∧ Few1 wc (w'.setCell ⟨g5, 4, none⟩ v') g5 v0 v1 v2 v3 v' (j + 1) (kk ++ [s]) := by
  have b' : Blk w' g5 26 #[v0, v1, v2, v3, kv, .slice none 0 0] := (gr.block g5 F.bx.lt (fun e => F.ne e.symm)).trans F.bx
  have ne' : v'.ownBlock ≠ some g5 := fun e => by
    have h1 := (own.lt _ e).1
    have h2 := F.lt
    omega
  have hz := F.gr.size
  refine ⟨b', ⟨?_, b'.setc 4 _, ?_, F.lt⟩⟩
  · have := own_setc (g := g5) (i := 4) (u := v') own ne'
    rw [List.map_append]
    exact this
  · have g1 : wc.grownBy w' (some g5) := ⟨gr.os.trans F.gr.os, gr.tape.trans F.gr.tape, gr.output.trans F.gr.output, Nat.le_trans F.gr.size gr.size, fun q hq hne => (gr.block q (by omega) (fun e => by have := (F.own.lt _ e.symm).1; omega)).trans (F.gr.block q hq hne)⟩
    exact ⟨g1.os, g1.tape, g1.output, by have := g1.size; simpa [World.setCell] using this, fun q hq hne => (Below.heap_setCell w' _ v' q (fun e => hne (by simp only at e; rw [e]))).trans (g1.block q hq hne)⟩
end

/-- The cells xs are the values l, one behind the other, of whatever sizes. -/
def HasRW (w : World) (P : Nat → Prop) : List Tr → List Value → Prop
  | [], xs => xs = []
  | x :: r, xs => ∃ cs rest, xs = cs ++ rest ∧ cs.length = 6 ∧ HasW w P x cs.toArray ∧ HasRW w P r rest
theorem HasRW.keep {w w' : World} {P Q : Nat → Prop} (hb : ∀ b, P b → b < w.heap.size → w'.heap[b]? = w.heap[b]?) (hz : w.heap.size ≤ w'.heap.size) (hq : ∀ b, P b → b < w.heap.size → Q b) : ∀ (l : List Tr) (xs : List Value), HasRW w P l xs → HasRW w' Q l xs
  | [], xs, h => h
  | x :: r, xs, h => by
    unfold HasRW at h ⊢
    obtain ⟨cs, rest, e, hc, hv, hr⟩ := h
    exact ⟨cs, rest, e, hc, HasW.keep hb hz hq x _ hv, HasRW.keep hb hz hq r rest hr⟩
theorem HasRW.snoc {w : World} {P : Nat → Prop} {x : Tr} {cs : List Value} (hv : HasW w P x cs.toArray) (hc : cs.length = 6) : ∀ (l : List Tr) (xs : List Value), HasRW w P l xs → HasRW w P (l ++ [x]) (xs ++ cs)
  | [], xs, h => by
    unfold HasRW at h
    subst h
    exact ⟨cs, [], by simp, hc, hv, rfl⟩
  | y :: r, xs, h => by
    unfold HasRW at h
    obtain ⟨c1, rest, rfl, h1, h2, h3⟩ := h
    exact ⟨c1, rest ++ cs, by simp, h1, h2, HasRW.snoc hv hc r rest h3⟩
theorem HasRW.toL {w : World} {P : Nat → Prop} {g : Nat} : ∀ (l : List Tr) (xs : List Value) (o : Nat), HasRW w P l xs → (∀ i v, xs[i]? = some v → w.cell? ⟨g, o + i, none⟩ = some v) → HasLW w P g o l
  | [], xs, o, h, hx => by unfold HasLW; trivial
  | x :: r, xs, o, h, hx => by
    unfold HasRW at h
    obtain ⟨cs, rest, rfl, hc, hv, hr⟩ := h
    unfold HasLW
    refine ⟨⟨cs.toArray, hv, by simpa using hc, fun j v hj => hx j v ?_⟩, HasRW.toL r rest (o + 6) hr fun i v hi => ?_⟩
    · have hjl : j < cs.length := by
        have := (Array.getElem?_eq_some_iff.1 hj).1
        simpa using this
      rw [List.getElem?_append_left hjl]
      simpa using hj
    · have := hx (6 + i) v (by rw [List.getElem?_append_right (by omega), hc, show 6 + i - 6 = i by omega]; exact hi)
      rwa [show o + (6 + i) = o + 6 + i by omega] at this

/-- In the loop over the values: two boxes turn, nothing else that was there. -/
structure Few2 (wd wr : World) (B0 g5 gl : Nat) (v0 v1 v2 v3 v4 : Value) (lv : Value) (j : Nat) (xs : List Value) (al : List Tr) (m : Nat) : Prop where
  own : wr.ownsRow wd.heap.size 26 6 lv j xs
  row : HasRW wr (fun b => B0 ≤ b ∧ b ≠ g5 ∧ lv.ownBlock ≠ some b) al xs
  bx : Blk wr g5 26 #[v0, v1, v2, v3, v4, lv]
  bl : Blk wr gl 3 #[.int .i64 (m : Int)]
  os : wr.os = wd.os
  tape : wr.tape = wd.tape
  output : wr.output = wd.output
  size : wd.heap.size ≤ wr.heap.size
  block : ∀ q, q < wd.heap.size → q ≠ g5 → q ≠ gl → wr.heap[q]? = wd.heap[q]?
  lt : g5 < wd.heap.size
  ltl : gl < B0
  le : B0 ≤ g5
section
variable {wd wr w' : World} {B0 g5 gl : Nat} {v0 v1 v2 v3 v4 lv : Value} {j m : Nat} {xs : List Value} {al : List Tr}
theorem Few2.ne (F : Few2 wd wr B0 g5 gl v0 v1 v2 v3 v4 lv j xs al m) : lv.ownBlock ≠ some g5 := fun e => by have h1 := (F.own.lt _ e).1; have h2 := F.lt; omega
theorem Few2.nel (F : Few2 wd wr B0 g5 gl v0 v1 v2 v3 v4 lv j xs al m) : lv.ownBlock ≠ some gl := fun e => by have h1 := (F.own.lt _ e).1; have h2 := F.lt; have h3 := F.ltl; have h4 := F.le; omega
/-- What calls do that turn but the number that is left. -/
theorem Few2.call (F : Few2 wd wr B0 g5 gl v0 v1 v2 v3 v4 lv j xs al m) {m' : Nat} (gr : wr.grownBy w' (some gl)) (bl : Blk w' gl 3 #[.int .i64 (m' : Int)]) : Few2 wd w' B0 g5 gl v0 v1 v2 v3 v4 lv j xs al m' :=
  { own := F.own.kept gr (.inr F.nel)
    row := HasRW.keep (fun b hb hl => gr.block b hl (fun e => by have := Option.some.inj e; have := hb.1; have := F.ltl; omega)) gr.size (fun _ hb _ => hb) _ _ F.row
    bx := (gr.block g5 F.bx.lt (fun e => by have := Option.some.inj e; have := F.ltl; have := F.le; omega)).trans F.bx
    bl := bl
    os := gr.os.trans F.os
    tape := gr.tape.trans F.tape
    output := gr.output.trans F.output
    size := Nat.le_trans F.size gr.size
    block := fun q hq h1 h2 => (gr.block q (by have := F.size; omega) (fun e => h2 (Option.some.inj e))).trans (F.block q hq h1 h2)
    lt := F.lt
    ltl := F.ltl
    le := F.le }
theorem Few2.still (F : Few2 wd wr B0 g5 gl v0 v1 v2 v3 v4 lv j xs al m) (s : Still wr w') : Few2 wd w' B0 g5 gl v0 v1 v2 v3 v4 lv j xs al m := F.call (grown_of_still s) (F.bl.still s)
theorem Few2.push (F : Few2 wd wr B0 g5 gl v0 v1 v2 v3 v4 lv j xs al m) {x : Tr} {cs : List Value} (h6 : cs.length = 6) (hv : HasW wr (fun b => B0 ≤ b ∧ b ≠ g5 ∧ lv.ownBlock ≠ some b) x cs.toArray) {v' : Value} (own : w'.ownsRow wd.heap.size 26 6 v' (j + 1) (xs ++ cs)) (gr : wr.grownBy w' lv.ownBlock) (loc : v'.ownBlock = lv.ownBlock ∨ v'.ownBlock = some wr.heap.size) :
    Blk w' g5 26 #[v0, v1, v2, v3, v4, lv] ∧ Few2 wd (w'.setCell ⟨g5, 5, none⟩ v') B0 g5 gl v0 v1 v2 v3 v4 v' (j + 1) (xs ++ cs) (al ++ [x]) m := by
  have b' : Blk w' g5 26 #[v0, v1, v2, v3, v4, lv] := (gr.block g5 F.bx.lt (fun e => F.ne e.symm)).trans F.bx
  have l' : Blk w' gl 3 #[.int .i64 (m : Int)] := (gr.block gl F.bl.lt (fun e => F.nel e.symm)).trans F.bl
  have ne' : v'.ownBlock ≠ some g5 := fun e => by have h1 := (own.lt _ e).1; have h2 := F.lt; omega
  have new : ∀ b, v'.ownBlock = some b → lv.ownBlock = some b ∨ b = wr.heap.size := fun b e => by
    rcases loc with h | h
    · exact .inl (h ▸ e)
    · rw [h] at e; exact .inr (Option.some.inj e).symm
  have k : ∀ b, (B0 ≤ b ∧ b ≠ g5 ∧ lv.ownBlock ≠ some b) → b < wr.heap.size → (w'.setCell ⟨g5, 5, none⟩ v').heap[b]? = wr.heap[b]? := fun b hb hl =>
    (Below.heap_setCell w' _ v' b (fun e => hb.2.1 e)).trans (gr.block b hl fun e => hb.2.2 e.symm)
  have q : ∀ b, (B0 ≤ b ∧ b ≠ g5 ∧ lv.ownBlock ≠ some b) → b < wr.heap.size → (B0 ≤ b ∧ b ≠ g5 ∧ v'.ownBlock ≠ some b) := fun b hb hl => ⟨hb.1, hb.2.1, fun e => by
    rcases new b e with h | h
    · exact hb.2.2 h
    · omega⟩
  have hz : wr.heap.size ≤ (w'.setCell ⟨g5, 5, none⟩ v').heap.size := by have := gr.size; simpa [World.setCell] using this
  refine ⟨b', ?_⟩
  exact
  { own := own_setc (g := g5) (i := 5) (u := v') own ne'
    row := HasRW.snoc (HasW.keep k hz q _ _ hv) h6 _ _ (HasRW.keep k hz q _ _ F.row)
    bx := b'.setc 5 _
    bl := l'.far (by have := F.ltl; have := F.le; simp only; omega) _
    os := gr.os.trans F.os
    tape := gr.tape.trans F.tape
    output := gr.output.trans F.output
    size := Nat.le_trans F.size hz
    block := fun q hq h1 h2 => (Below.heap_setCell w' _ v' q (fun e => h1 e)).trans ((gr.block q (by have := F.size; omega) (fun e => by have := (F.own.lt _ e.symm).1; omega)).trans (F.block q hq h1 h2))
    lt := F.lt
    ltl := F.ltl
    le := F.le }
end
theorem few_kk {ks : List ByteArray} {j : Nat} (h : j < ks.length) : (ks.take (j + 1)).map (shB 100) = (ks.take j).map (shB 100) ++ [shB 100 (ks.getD j ByteArray.empty)] := by
  rw [List.take_add_one, List.map_append]
  simp [List.getD, h]
theorem few_fin {w : World} {B0 base7 basek basel n5 j c7 : Nat} {A7 : Option Addr} {k i : Int} {B7 : List UInt8} {t7 : ByteArray} {kk : List ByteArray} {kv lv : Value} {xs : List Value} {al : List Tr} {P : Nat → Prop}
    (hk : -9223372036854775808 ≤ k ∧ k ≤ 9223372036854775807) (hi : -9223372036854775808 ≤ i ∧ i ≤ 9223372036854775807)
    (own7 : w.ownsRow base7 5 1 (.slice A7 B7.length c7) B7.length (bytesV B7)) (h7 : B0 ≤ base7) (t7l : t7.size ≤ 700)
    (ownk : w.ownsRow basek 9 1 kv n5 (kk.map Value.string)) (hbk : B0 ≤ basek) (kkl : kk.length = n5) (kks : ∀ s ∈ kk, s.size ≤ 100) (n5l : n5 ≤ 40)
    (ownl : w.ownsRow basel 26 6 lv j xs) (hbl : B0 ≤ basel) (row : HasRW w P al xs) (hP : ∀ b, P b → B0 ≤ b) (all : al.length = j) (jl : j ≤ 40) :
    HasW w (fun b => B0 ≤ b) (.mk k i B7 t7 kk al) #[.int .i64 k, .int .i64 i, .slice A7 B7.length c7, .string t7, kv, lv] := by
  obtain ⟨_, _, he, f1, f2, f3⟩ := own_form own7
  injection he with e1 e2 e3
  subst e1
  subst e3
  obtain ⟨Ak, ck, rfl, _⟩ := own_formG ownk
  obtain ⟨Al, cl, rfl, _⟩ := own_formG ownl
  subst kkl
  subst all
  unfold HasW
  refine ⟨A7, B7.length, c7, Ak, ck, Al, cl, rfl, hk, hi, ⟨⟨rfl, fun hn => ?_⟩, f1, f2, f3⟩, by omega, ⟨⟨fun s hs => by have := kks s hs; omega, fun hn => ?_⟩, by omega⟩, by omega, fun hn => ?_⟩
  · obtain ⟨b, o, e, hlt, hc⟩ := (Reads.of_own own7).2 hn
    exact ⟨b, o, e, by have := (own7.lt b (by rw [e]; rfl)).1; omega, hlt, hc⟩
  · rcases ownk.2 with ⟨_, h0⟩ | ⟨g, cap, cur, hv, hlo, hg, _⟩
    · omega
    · injection hv with e1 e2 e3
      subst e1
      refine ⟨g, 0, rfl, by omega, (Array.getElem?_eq_some_iff.1 hg).1, fun q hq => ?_⟩
      rw [Nat.zero_add]
      refine (ownk.cellAt q (by omega)).trans ?_
      simp [List.getD, hq]
  · rcases ownl.2 with ⟨_, h0⟩ | ⟨g, cap, cur, hv, hlo, hg, _⟩
    · omega
    · injection hv with e1 e2 e3
      subst e1
      refine ⟨g, 0, rfl, by omega, (Array.getElem?_eq_some_iff.1 hg).1, ?_⟩
      refine HasRW.toL _ _ 0 (HasRW.keep (fun _ _ _ => rfl) (Nat.le_refl _) (fun b hb _ => hP b hb) _ _ row) fun q v hq => ?_
      rw [Nat.zero_add]
      have hl := ownl.1
      have hql := (List.getElem?_eq_some_iff.1 hq).1
      exact (ownl.cellAt q (by omega)).trans hq
end Go.Proofs.YtmjijajndeihaaaDoor

/- The document's own small values, its own walk. It proves no statement. -/




namespace Go.Proofs.YtmjijajndeihaaaDoor
open Go.RowKit
set_option linter.unusedVariables false
set_option linter.unusedSimpArgs false

/-- What is said of making a value small. -/
def FewOK (x : Tr) : Prop := ∀ (w : World) (P : Nat → Prop) (cs : Array Value) (gl m : Nat), HasW w P x cs → (∀ b, P b → b ≠ gl) → Blk w gl 3 #[.int .i64 (m : Int)] → 1 ≤ m → m ≤ 60 →
  Calls Tryd.prog 16 #[.agg cs, .pointer (some ⟨gl, 0, none⟩)] w fun e w' => (∃ ds : List Value, e = .returned (.agg ds.toArray) ∧ ds.length = 6 ∧ ds.toArray.all (·.oneCell') = true ∧ HasW w' (fun b => w.heap.size ≤ b) (fewT x m).1 ds.toArray) ∧ Blk w' gl 3 #[.int .i64 ((fewT x m).2 : Int)] ∧ w.grownBy w' (some gl)

/-- What the reads of one statement find. -/
def FewS (g2 : Nat) (k i : Int) (v2 : Value) (t : ByteArray) (w : World) : Prop :=
  w.cell? ⟨g2, 0, none⟩ = some (.int .i64 k) ∧ w.cell? ⟨g2, 1, none⟩ = some (.int .i64 i) ∧ w.cell? ⟨g2, 2, none⟩ = some v2 ∧ w.cell? ⟨g2, 3, none⟩ = some (.string t)
/-- Behind the first statement that makes the new value. -/
structure FewA (wB wx : World) (g5 : Nat) (A7 : Option Addr) (c7 : Nat) (k i : Int) (b : List UInt8) (t : ByteArray) : Prop where
  lo : wB.heap.size ≤ g5
  st : Still wB wx
  bx : Blk wx g5 26 #[.int .i64 k, .int .i64 i, .slice A7 b.length c7, .string t, .slice none 0 0, .slice none 0 0]
  own : wx.ownsRow wB.heap.size 5 1 (.slice A7 b.length c7) b.length (bytesV b)
  ne : (Value.slice A7 b.length c7).ownBlock ≠ some g5
theorem below_row {w w' : World} {B g : Nat} {cs : Array Value} (s : Below B w w') (h : B ≤ g) : Below B w (w'.setRow g cs) := below_setRow s h _

/-- What lay below a world stays, but for one number's cell. -/
structure OldW (wB : World) (gl : Nat) (W : World) : Prop where
  size : wB.heap.size ≤ W.heap.size
  block : ∀ q, q < wB.heap.size → q ≠ gl → W.heap[q]? = wB.heap[q]?
section
variable {wB W W' : World} {gl : Nat}
theorem OldW.drew (h : OldW wB gl W) : OldW wB gl W.drew := ⟨h.size, h.block⟩
theorem OldW.alloc (h : OldW wB gl W) (o : Obj) : OldW wB gl (W.alloc o) := ⟨by have := h.size; have := (still_new W o).size; omega, fun q hq hn => ((still_new W o).block q (by have := h.size; omega)).trans (h.block q hq hn)⟩
theorem OldW.push (h : OldW wB gl W) {r : Option Nat} (gr : W.grownBy W' r) (hr : ∀ b, r = some b → wB.heap.size ≤ b) : OldW wB gl W' :=
  ⟨Nat.le_trans h.size gr.size, fun q hq hn => (gr.block q (by have := h.size; omega) (fun e => by have := hr q e.symm; omega)).trans (h.block q hq hn)⟩
theorem OldW.call (h : OldW wB gl W) (gr : W.grownBy W' (some gl)) : OldW wB gl W' :=
  ⟨Nat.le_trans h.size gr.size, fun q hq hn => (gr.block q (by have := h.size; omega) (fun e => hn (Option.some.inj e))).trans (h.block q hq hn)⟩
theorem OldW.setc (h : OldW wB gl W) {g i : Nat} (hg : wB.heap.size ≤ g) (u : Value) : OldW wB gl (W.setCell ⟨g, i, none⟩ u) :=
  ⟨by have := h.size; simpa [World.setCell] using this, fun q hq hn => (Below.heap_setCell W _ u q (by simp only; omega)).trans (h.block q hq hn)⟩
theorem OldW.cell (h : OldW wB gl W) {b i : Nat} (hb : b < wB.heap.size) (hn : b ≠ gl) : W.cell? ⟨b, i, none⟩ = wB.cell? ⟨b, i, none⟩ := World.cell?_of_block (w := wB) (a := ⟨b, i, none⟩) (h.block b hb hn)
end
theorem few_val {wd W W' : World} {B0 g5 gl j m : Nat} {v0 v1 v2 v3 v4 lv : Value} {xs : List Value} {al : List Tr} {x : Tr} {ds : List Value} (F : Few2 wd W B0 g5 gl v0 v1 v2 v3 v4 lv j xs al m) (h : HasW W' (fun b => W.heap.size ≤ b) x ds.toArray) :
    HasW W' (fun b => B0 ≤ b ∧ b ≠ g5 ∧ lv.ownBlock ≠ some b) x ds.toArray :=
  HasW.keep (fun _ _ _ => rfl) (Nat.le_refl _) (fun b hb _ => ⟨by have h1 := F.bx.lt; have h2 := F.le; omega, by have := F.bx.lt; omega, fun e => by have := (F.own.lt _ e).2; omega⟩) _ _ h

theorem own_row {w : World} {base n g : Nat} {v : Value} {xs : List Value} {cs : Array Value} (h : w.ownsRow base 5 1 v n xs) (ne : v.ownBlock ≠ some g) : (w.setRow g cs).ownsRow base 5 1 v n xs := by
  refine ⟨h.1, ?_⟩
  rcases h.2 with hn | ⟨g', cap, cur, rfl, hb, hgg, rest⟩
  · exact .inl hn
  · refine .inr ⟨g', cap, cur, rfl, hb, ?_, rest⟩
    rw [setRow_other w g g' cs (fun e => ne (by rw [e]; rfl))]
    exact hgg

set_option maxRecDepth 100000 in
set_option maxHeartbeats 6400000 in
theorem few_mk (k i : Int) (b : List UInt8) (t : ByteArray) (ks : List ByteArray) (l : List Tr) (IH : ∀ x ∈ l, FewOK x) : FewOK (.mk k i b t ks l) := by
  intro w P cs gl m hv hP hbl hm1 hm60
  obtain ⟨D, hD⟩ : ∃ D, D = fewT (.mk k i b t ks l) m := ⟨_, rfl⟩
  rw [← hD]
  unfold fewT at hD
  obtain ⟨m1, hm⟩ : ∃ m1, m1 = m - 1 := ⟨_, rfl⟩
  rw [← hm] at hD
  have e0 : (m : Int) - 1 = (m1 : Int) := by omega
  have e1 : IntKind.i64.wrap ((m : Int) - 1) = (m1 : Int) := by rw [IntKind.wrap_i64]; omega
  have e2 : IntKind.i64.wrap (m1 : Int) = (m1 : Int) := by rw [IntKind.wrap_i64]; omega
  obtain ⟨lx⟩ := cs
  obtain ⟨wA, hA, sA, b2, b4⟩ := two_boxes w lx.toArray cellsZ
  have hlt := hbl.lt
  have blA := hbl.still sA
  obtain ⟨wB, hB⟩ : ∃ wB, wB = wA.setCell ⟨gl, 0, none⟩ (.int .i64 (m1 : Int)) := ⟨_, rfl⟩
  have blB : Blk wB gl 3 #[.int .i64 (m1 : Int)] := by rw [hB]; exact blA.setc 0 _
  have b2B : Blk wB w.heap.size 26 lx.toArray := by rw [hB]; exact b2.far (by simp only; omega) _
  have b4B : Blk wB (w.heap.size + 1) 26 cellsZ := by rw [hB]; exact b4.far (by simp only; omega) _
  have gB : w.grownBy wB (some gl) := by
    refine ⟨by rw [hB]; exact sA.os, by rw [hB]; exact sA.tape, by rw [hB]; exact sA.output, by rw [hB]; have := sA.size; simpa [World.setCell] using this, fun q hq hne => ?_⟩
    rw [hB, Below.heap_setCell wA _ _ q (fun e => hne (by simp only at e; rw [e]))]
    exact sA.block q hq
  have hvB : HasW wB (fun b => P b ∧ b < w.heap.size) (.mk k i b t ks l) lx.toArray := HasW.keep (fun q hp hq => gB.block q hq (fun e => hP q hp (Option.some.inj e))) gB.size (fun q hp hq => ⟨hp, hq⟩) _ _ hv
  have hone := HasW.one _ _ hvB
  unfold HasW at hvB
  obtain ⟨A, n, c, Ak, ck, Al, cl, ecs, hk, hi, ⟨hr, h1, h2, h3⟩, ht, ⟨hks, hkl⟩, hl, hL⟩ := hvB
  obtain ⟨g2, hg2⟩ : ∃ g2, g2 = w.heap.size := ⟨_, rfl⟩
  rw [ecs] at b2B
  rw [← hg2] at b2B b4B
  have rdB : Reads wB wB.heap.size A n b := ⟨hr.1, fun hn => by
    obtain ⟨b', o, e, _, hlt, hc⟩ := hr.2 hn
    exact ⟨b', o, e, hlt, hc⟩⟩
  have SOK := Lib.hid (show ∀ W, Still wB W → FewS g2 k i (.slice A n c) t W from fun W s => ⟨(b2B.still s).cell 0, (b2B.still s).cell 1, (b2B.still s).cell 2, (b2B.still s).cell 3⟩)
  have CUT := Lib.hid (show ∀ W, Still wB W → Calls Tryd.prog 11 #[.slice A n c, .int .i64 700] W fun e w' => e = .returned (.slice A (min n 700) c) ∧ W = w' from fun W s => cut_any A n c 700 b W _ (rdB.still (Nat.le_refl _) s) h1 h2 (by omega))
  have COPY0 := Lib.hid (show ∀ W, Still wB W → Calls Tryd.prog 12 #[.slice A (min n 700) c] W fun e w' => (∃ A7 c7, e = .returned (.slice A7 (b.take 700).length c7) ∧ w'.ownsRow W.heap.size 5 1 (.slice A7 (b.take 700).length c7) (b.take 700).length (bytesV (b.take 700))) ∧ Still W w' from fun W s =>
    (copy_any A (min n 700) c (b.take 700) W _ ((rdB.still (Nat.le_refl _) s).take 700) (by omega) (fun e => ⟨by have := (h3 e).1; omega, (h3 e).2⟩)).mono fun e w' h => by
      obtain ⟨⟨v, rfl, own⟩, s'⟩ := h
      have hlen : min n 700 = (b.take 700).length := by rw [List.length_take, hr.1]; omega
      rw [hlen] at own
      obtain ⟨A7, c7, rfl, _⟩ := own_form own
      exact ⟨⟨A7, c7, rfl, own⟩, s'⟩)
  have SHO0 := Lib.hid (fun W => short_k t 700 W ht)
  have SHO1 : Hid (∀ W, Calls Tryd.prog 26 #[.string t, .int .i64 700] W fun e w' => e = .returned (.string (shB 700 t)) ∧ W = w') := SHO0
  obtain ⟨n7, hn7⟩ : ∃ n7, n7 = min n 700 := ⟨_, rfl⟩
  rw [← hn7] at CUT COPY0
  obtain ⟨B7, hB7⟩ : ∃ B7, B7 = b.take 700 := ⟨_, rfl⟩
  obtain ⟨t7, ht7⟩ : ∃ t7, t7 = shB 700 t := ⟨_, rfl⟩
  rw [← hB7] at COPY0 hD
  rw [← ht7] at SHO1 hD
  have COPY : Hid (∀ W, Still wB W → Calls Tryd.prog 12 #[.slice A n7 c] W fun e w' => (∃ A7 c7, e = .returned (.slice A7 B7.length c7) ∧ w'.ownsRow W.heap.size 5 1 (.slice A7 B7.length c7) B7.length (bytesV B7)) ∧ Still W w') := COPY0
  have SHO : Hid (∀ W, Calls Tryd.prog 26 #[.string t, .int .i64 700] W fun e w' => e = .returned (.string t7) ∧ W = w') := SHO1
  clear COPY0 SHO0 SHO1
  have c0 : wA.cell? ⟨gl, 0, none⟩ = some (.int .i64 (m : Int)) := blA.cell 0
  have f0 : wA.frozen? ⟨gl, 0, none⟩ = false := blA.frozen 0
  have HA := Lib.hid hA
  have HB := Lib.hid hB
  have HG2 := Lib.hid hg2
  have HD := Lib.hid hD
  have HLT := Lib.hid hlt
  have BLB := Lib.hid blB
  have B2B := Lib.hid b2B
  have B4B := Lib.hid b4B
  have GB := Lib.hid gB
  have ECS := Lib.hid ecs
  have HKB := Lib.hid hk
  have HIB := Lib.hid hi
  have HKS := Lib.hid hks
  have HKL := Lib.hid hkl
  have HL := Lib.hid hl
  have HLL := Lib.hid hL
  have IH' := Lib.hid IH
  have HM := Lib.hid (show m1 ≤ 59 by omega)
  have HB7 := Lib.hid (show B7.length ≤ 700 by rw [hB7, List.length_take]; omega)
  have HT7 := Lib.hid (show t7.size ≤ 700 by rw [ht7]; exact shB_size _ _)
  have HP := Lib.hid hP
  have SZB := Lib.hid (show wB.heap.size = w.heap.size + 2 by rw [hB, hA]; simp [World.setCell])
  clear hA hB hg2 hD hlt blB b2B b4B gB ecs hk hi hks hkl hl hL IH hm hm1 hm60 sA b2 b4 blA hbl hv hone hr h1 h2 h3 ht rdB hn7 hB7 ht7 hP
  go_enter Tryd.func16, Tryd.ntmps16
  go_upto_region 0 with fail
  refine wp_region_lit ?_
  refine wpList_box_arr rfl 26 (.tmp 0) rfl (some 2) rfl _ rfl ?_
  go_upto_region 1 with fail
  rw [show ((w.alloc (.cells lx.toArray 26)).alloc (.cells #[.int .i64 0, .int .i64 0, .slice none 0 0, .string ⟨#[]⟩, .slice none 0 0, .slice none 0 0] 26)) = wA from HA.out.symm]
  go_upto_region 2 with fail
  rw [← HB.out]
  rw [← HG2.out]
  go_cut [5] (fun s5 wx => ∃ g5 A7 c7, s5 = .pointer (some ⟨g5, 0, none⟩) ∧ Hid (FewA wB wx g5 A7 c7 k i B7 t7))
  case first =>
    go_wp2_with fail
    refine wp_region_held_drew (S := FewS g2 k i (.slice A n c) t) (by kernel_rfl) ?_ (fun hHeld => ?_)
    · exact SOK.out _ ((Still.refl wB).drew)
    have K0 := Lib.hid (show Still wB wB.drew from (Still.refl wB).drew)
    obtain ⟨wa, hwa⟩ : ∃ wa, wa = wB.drew := ⟨_, rfl⟩
    rw [← hwa] at hHeld K0 ⊢
    clear hwa
    try simp only [Act.put, List.setIfInBounds_toArray, List.set_cons_zero, List.set_cons_succ]
    refine wpAnyH_take (i := 0) (v := .pointer (some ⟨g2, 0, none⟩)) rfl (by kernel_rfl) (by kernel_rfl) (by kernel_rfl) (fun _ _ _ h => h) (Or.inl ⟨by kernel_rfl, fun w hS => by obtain ⟨h0, h1, h2, h3⟩ := hS; go_simp⟩) (by assumption) ?_
    simp only [Act.put, List.setIfInBounds_toArray, List.set_cons_zero, List.set_cons_succ]
    refine wpAnyH_take (i := 1) (v := .int .i64 k) rfl (by kernel_rfl) (by kernel_rfl) (by kernel_rfl) (fun _ _ _ h => h) (Or.inl ⟨by kernel_rfl, fun w hS => by obtain ⟨h0, h1, h2, h3⟩ := hS; go_simp⟩) (by assumption) ?_
    simp only [Act.put, List.setIfInBounds_toArray, List.set_cons_zero, List.set_cons_succ]
    refine wpAnyH_take (i := 2) (v := .pointer (some ⟨g2, 1, none⟩)) rfl (by kernel_rfl) (by kernel_rfl) (by kernel_rfl) (fun _ _ _ h => h) (Or.inl ⟨by kernel_rfl, fun w hS => by obtain ⟨h0, h1, h2, h3⟩ := hS; go_simp⟩) (by assumption) ?_
    simp only [Act.put, List.setIfInBounds_toArray, List.set_cons_zero, List.set_cons_succ]
    refine wpAnyH_take (i := 3) (v := .int .i64 i) rfl (by kernel_rfl) (by kernel_rfl) (by kernel_rfl) (fun _ _ _ h => h) (Or.inl ⟨by kernel_rfl, fun w hS => by obtain ⟨h0, h1, h2, h3⟩ := hS; go_simp⟩) (by assumption) ?_
    simp only [Act.put, List.setIfInBounds_toArray, List.set_cons_zero, List.set_cons_succ]
    refine wpAnyH_take (i := 4) (v := .pointer (some ⟨g2, 2, none⟩)) rfl (by kernel_rfl) (by kernel_rfl) (by kernel_rfl) (fun _ _ _ h => h) (Or.inl ⟨by kernel_rfl, fun w hS => by obtain ⟨h0, h1, h2, h3⟩ := hS; go_simp⟩) (by assumption) ?_
    simp only [Act.put, List.setIfInBounds_toArray, List.set_cons_zero, List.set_cons_succ]
    refine wpAnyH_take (i := 5) (v := .slice A n c) rfl (by kernel_rfl) (by kernel_rfl) (by kernel_rfl) (fun _ _ _ h => h) (Or.inl ⟨by kernel_rfl, fun w hS => by obtain ⟨h0, h1, h2, h3⟩ := hS; go_simp⟩) (by assumption) ?_
    simp only [Act.put, List.setIfInBounds_toArray, List.set_cons_zero, List.set_cons_succ]
    refine wpAnyH_take (i := 8) (v := .pointer (some ⟨g2, 3, none⟩)) rfl (by kernel_rfl) (by kernel_rfl) (by kernel_rfl) (fun _ _ _ h => h) (Or.inl ⟨by kernel_rfl, fun w hS => by obtain ⟨h0, h1, h2, h3⟩ := hS; go_simp⟩) (by assumption) ?_
    simp only [Act.put, List.setIfInBounds_toArray, List.set_cons_zero, List.set_cons_succ]
    refine wpAnyH_take (i := 9) (v := .string t) rfl (by kernel_rfl) (by kernel_rfl) (by kernel_rfl) (fun _ _ _ h => h) (Or.inl ⟨by kernel_rfl, fun w hS => by obtain ⟨h0, h1, h2, h3⟩ := hS; go_simp⟩) (by assumption) ?_
    simp only [Act.put, List.setIfInBounds_toArray, List.set_cons_zero, List.set_cons_succ]
    refine wpAnyH_ready (rs := [6, 12]) (by kernel_rfl) (by simp) ?_
    refine AllReadyH.cons rfl (fun K hK => ?_) (AllReadyH.cons (o := ⟨some 5, .alloc 26, _, _, _, none⟩) rfl (fun K hK => ?_) AllReadyH.nil)
    · skip
      go_simp
      go_wp2_with (go_at_call 11; refine (CUT.out _ K0.out).mono ?_; rintro e wz1 ⟨rfl, rfl⟩)
      refine hK.out _ _ (SOK.out _ K0.out) (fun hHeld => ?_)
      clear hK K
      try simp only [Act.put, List.setIfInBounds_toArray, List.set_cons_zero, List.set_cons_succ]
      refine wpAnyH_ready (rs := [7, 12]) (by kernel_rfl) (by simp) ?_
      refine AllReadyH.cons rfl (fun K hK => ?_) (AllReadyH.cons (o := ⟨some 5, .alloc 26, _, _, _, none⟩) rfl (fun K hK => ?_) AllReadyH.nil)
      · skip
        go_simp
        go_wp2_with (go_at_call 12; refine (COPY.out _ K0.out).mono ?_; rintro e wz2 ⟨⟨A7, c7, rfl, own2⟩, s2⟩)
        have K2 := Lib.hid (Still.trans K0.out s2)
        have OW2 := Lib.hid (own_rebase own2 K0.out.size)
        clear own2 s2
        refine hK.out _ _ (SOK.out _ K2.out) (fun hHeld => ?_)
        clear hK K
        try simp only [Act.put, List.setIfInBounds_toArray, List.set_cons_zero, List.set_cons_succ]
        refine wpAnyH_ready (rs := [10, 12]) (by kernel_rfl) (by simp) ?_
        refine AllReadyH.cons (o := ⟨some 24, .call { callee := .value (.func 26), args := #[.tmp 23, .const (.int .i64 700)], argTypes := #[9, 3] }, _, _, _, none⟩) rfl (fun K hK => ?_) (AllReadyH.cons (o := ⟨some 5, .alloc 26, _, _, _, none⟩) rfl (fun K hK => ?_) AllReadyH.nil)
        · skip
          go_simp
          go_wp2_with (go_at_call 26; refine (SHO.out _).mono ?_; rintro e wz3 ⟨rfl, rfl⟩)
          refine hK.out _ _ (SOK.out _ K2.out) (fun hHeld => ?_)
          clear hK K
          try simp only [Act.put, List.setIfInBounds_toArray, List.set_cons_zero, List.set_cons_succ]
          refine wpAnyH_take (i := 11) (oi := ⟨some 25, .build 26 #[(0, .tmp 15), (1, .tmp 17), (2, .tmp 21), (3, .tmp 24)], _, _, _, none⟩) (v := .agg #[.int .i64 k, .int .i64 i, .slice A7 B7.length c7, .string t7, .slice none 0 0, .slice none 0 0]) rfl (by kernel_rfl) (by kernel_rfl) (by kernel_rfl) (fun _ _ _ h => h) (Or.inl ⟨by kernel_rfl, fun w hS => by obtain ⟨h0, h1, h2, h3⟩ := hS; go_simp⟩) (by assumption) ?_
          simp only [Act.put, List.setIfInBounds_toArray, List.set_cons_zero, List.set_cons_succ]
          refine wpAnyH_ready (rs := [12]) (by kernel_rfl) (by simp) ?_
          refine AllReadyH.cons (o := ⟨some 5, .alloc 26, _, _, _, none⟩) rfl (fun K hK => ?_) AllReadyH.nil
          rw [if_pos (by kernel_rfl)]
          refine step_allocV wz2 (by kernel_rfl) ?_
          obtain ⟨g5, hg5⟩ : ∃ g5, g5 = wz2.heap.size := ⟨_, rfl⟩
          obtain ⟨wz4, hwz4⟩ : ∃ W, W = wz2.alloc (.cells cellsZ 26) := ⟨_, rfl⟩
          have s4 : Still wz2 wz4 := by rw [hwz4]; exact (Still.refl wz2).alloc (Nat.le_refl _) _
          have G5 := Lib.hid (show wB.heap.size ≤ g5 by rw [hg5]; exact K2.out.size)
          have BG4 := Lib.hid (show Blk wz4 g5 26 cellsZ by rw [hwz4, hg5]; exact Blk.new _ _ _)
          have K4 := Lib.hid (Still.trans K2.out s4)
          have OW4 := Lib.hid (own_still OW2.out s4)
          have NE4 := Lib.hid (show (Value.slice A7 B7.length c7).ownBlock ≠ some g5 from fun e => by have h1 := (OW2.out.lt _ e).2; omega)
          rw [← hwz4, ← hg5]
          clear hwz4 hg5 s4
          refine hK.out _ _ (SOK.out _ K4.out) (fun hHeld => ?_)
          clear hK K
          try simp only [Act.put, List.setIfInBounds_toArray, List.set_cons_zero, List.set_cons_succ]
          refine wpAnyH_ready (rs := [13]) (by kernel_rfl) (by simp) ?_
          refine AllReadyH.cons (o := ⟨none, .store 26 (.tmp 5) (.tmp 25), _, _, _, none⟩) rfl (fun K hK => ?_) AllReadyH.nil
          rw [if_pos (by kernel_rfl)]
          refine step_storeV wz4 (.tmp 5) (.tmp 25) (by kernel_rfl) g5 #[.int .i64 k, .int .i64 i, .slice A7 B7.length c7, .string t7, .slice none 0 0, .slice none 0 0] (by kernel_rfl) (by kernel_rfl) cellsZ BG4.out (by rfl) (by rfl) (by simp [Value.oneCell']) ?_
          have KZ := Lib.hid (show Still wB (wz4.setRow g5 #[.int .i64 k, .int .i64 i, .slice A7 B7.length c7, .string t7, .slice none 0 0, .slice none 0 0]) from below_setRow K4.out G5.out _)
          have FIN : FewA wB (wz4.setRow g5 #[.int .i64 k, .int .i64 i, .slice A7 B7.length c7, .string t7, .slice none 0 0, .slice none 0 0]) g5 A7 c7 k i B7 t7 := ⟨G5.out, KZ.out, setRow_heap _ _ _ _ _ _ BG4.out, own_row OW4.out NE4.out, NE4.out⟩
          have FF := Lib.hid FIN
          clear FIN
          refine hK.out _ _ (SOK.out _ KZ.out) (fun hHeld => ?_)
          clear hK K
          try simp only [Act.put, List.setIfInBounds_toArray, List.set_cons_zero, List.set_cons_succ]
          refine wpAnyH_done (by kernel_rfl) ?_ _
          go_wp2_with fail
          go_meet
          case rel => exact ⟨g5, A7, c7, rfl, FF⟩
        · skip
          rw [if_pos (by kernel_rfl)]
          refine step_allocV wz2 (by kernel_rfl) ?_
          obtain ⟨g5, hg5⟩ : ∃ g5, g5 = wz2.heap.size := ⟨_, rfl⟩
          obtain ⟨wz3, hwz3⟩ : ∃ W, W = wz2.alloc (.cells cellsZ 26) := ⟨_, rfl⟩
          have s3 : Still wz2 wz3 := by rw [hwz3]; exact (Still.refl wz2).alloc (Nat.le_refl _) _
          have G5 := Lib.hid (show wB.heap.size ≤ g5 by rw [hg5]; exact K2.out.size)
          have BG3 := Lib.hid (show Blk wz3 g5 26 cellsZ by rw [hwz3, hg5]; exact Blk.new _ _ _)
          have K3 := Lib.hid (Still.trans K2.out s3)
          have OW3 := Lib.hid (own_still OW2.out s3)
          have NE3 := Lib.hid (show (Value.slice A7 B7.length c7).ownBlock ≠ some g5 from fun e => by have h1 := (OW2.out.lt _ e).2; omega)
          rw [← hwz3, ← hg5]
          clear hwz3 hg5 s3
          refine hK.out _ _ (SOK.out _ K3.out) (fun hHeld => ?_)
          clear hK K
          try simp only [Act.put, List.setIfInBounds_toArray, List.set_cons_zero, List.set_cons_succ]
          refine wpAnyH_ready (rs := [10]) (by kernel_rfl) (by simp) ?_
          refine AllReadyH.cons (o := ⟨some 24, .call { callee := .value (.func 26), args := #[.tmp 23, .const (.int .i64 700)], argTypes := #[9, 3] }, _, _, _, none⟩) rfl (fun K hK => ?_) AllReadyH.nil
          go_simp
          go_wp2_with (go_at_call 26; refine (SHO.out _).mono ?_; rintro e wz4 ⟨rfl, rfl⟩)
          refine hK.out _ _ (SOK.out _ K3.out) (fun hHeld => ?_)
          clear hK K
          try simp only [Act.put, List.setIfInBounds_toArray, List.set_cons_zero, List.set_cons_succ]
          refine wpAnyH_take (i := 11) (oi := ⟨some 25, .build 26 #[(0, .tmp 15), (1, .tmp 17), (2, .tmp 21), (3, .tmp 24)], _, _, _, none⟩) (v := .agg #[.int .i64 k, .int .i64 i, .slice A7 B7.length c7, .string t7, .slice none 0 0, .slice none 0 0]) rfl (by kernel_rfl) (by kernel_rfl) (by kernel_rfl) (fun _ _ _ h => h) (Or.inl ⟨by kernel_rfl, fun w hS => by obtain ⟨h0, h1, h2, h3⟩ := hS; go_simp⟩) (by assumption) ?_
          simp only [Act.put, List.setIfInBounds_toArray, List.set_cons_zero, List.set_cons_succ]
          refine wpAnyH_ready (rs := [13]) (by kernel_rfl) (by simp) ?_
          refine AllReadyH.cons (o := ⟨none, .store 26 (.tmp 5) (.tmp 25), _, _, _, none⟩) rfl (fun K hK => ?_) AllReadyH.nil
          rw [if_pos (by kernel_rfl)]
          refine step_storeV wz3 (.tmp 5) (.tmp 25) (by kernel_rfl) g5 #[.int .i64 k, .int .i64 i, .slice A7 B7.length c7, .string t7, .slice none 0 0, .slice none 0 0] (by kernel_rfl) (by kernel_rfl) cellsZ BG3.out (by rfl) (by rfl) (by simp [Value.oneCell']) ?_
          have KZ := Lib.hid (show Still wB (wz3.setRow g5 #[.int .i64 k, .int .i64 i, .slice A7 B7.length c7, .string t7, .slice none 0 0, .slice none 0 0]) from below_setRow K3.out G5.out _)
          have FIN : FewA wB (wz3.setRow g5 #[.int .i64 k, .int .i64 i, .slice A7 B7.length c7, .string t7, .slice none 0 0, .slice none 0 0]) g5 A7 c7 k i B7 t7 := ⟨G5.out, KZ.out, setRow_heap _ _ _ _ _ _ BG3.out, own_row OW3.out NE3.out, NE3.out⟩
          have FF := Lib.hid FIN
          clear FIN
          refine hK.out _ _ (SOK.out _ KZ.out) (fun hHeld => ?_)
          clear hK K
          try simp only [Act.put, List.setIfInBounds_toArray, List.set_cons_zero, List.set_cons_succ]
          refine wpAnyH_done (by kernel_rfl) ?_ _
          go_wp2_with fail
          go_meet
          case rel => exact ⟨g5, A7, c7, rfl, FF⟩
      · skip
        rw [if_pos (by kernel_rfl)]
        refine step_allocV wa (by kernel_rfl) ?_
        obtain ⟨g5, hg5⟩ : ∃ g5, g5 = wa.heap.size := ⟨_, rfl⟩
        obtain ⟨wz2, hwz2⟩ : ∃ W, W = wa.alloc (.cells cellsZ 26) := ⟨_, rfl⟩
        have s2 : Still wa wz2 := by rw [hwz2]; exact (Still.refl wa).alloc (Nat.le_refl _) _
        have G5 := Lib.hid (show wB.heap.size ≤ g5 by rw [hg5]; exact K0.out.size)
        have BG2 := Lib.hid (show Blk wz2 g5 26 cellsZ by rw [hwz2, hg5]; exact Blk.new _ _ _)
        have K2 := Lib.hid (Still.trans K0.out s2)
        rw [← hwz2, ← hg5]
        clear hwz2 hg5 s2
        refine hK.out _ _ (SOK.out _ K2.out) (fun hHeld => ?_)
        clear hK K
        try simp only [Act.put, List.setIfInBounds_toArray, List.set_cons_zero, List.set_cons_succ]
        refine wpAnyH_ready (rs := [7]) (by kernel_rfl) (by simp) ?_
        refine AllReadyH.cons rfl (fun K hK => ?_) AllReadyH.nil
        go_simp
        go_wp2_with (go_at_call 12; refine (COPY.out _ K2.out).mono ?_; rintro e wz3 ⟨⟨A7, c7, rfl, own3⟩, s3⟩)
        have K3 := Lib.hid (Still.trans K2.out s3)
        have OW3 := Lib.hid (own_rebase own3 K2.out.size)
        have BG3 := Lib.hid (BG2.out.still s3)
        have NE3 := Lib.hid (show (Value.slice A7 B7.length c7).ownBlock ≠ some g5 from fun e => by have h1 := (own3.lt _ e).1; have h2 := BG2.out.lt; omega)
        clear own3 s3
        refine hK.out _ _ (SOK.out _ K3.out) (fun hHeld => ?_)
        clear hK K
        try simp only [Act.put, List.setIfInBounds_toArray, List.set_cons_zero, List.set_cons_succ]
        refine wpAnyH_ready (rs := [10]) (by kernel_rfl) (by simp) ?_
        refine AllReadyH.cons (o := ⟨some 24, .call { callee := .value (.func 26), args := #[.tmp 23, .const (.int .i64 700)], argTypes := #[9, 3] }, _, _, _, none⟩) rfl (fun K hK => ?_) AllReadyH.nil
        go_simp
        go_wp2_with (go_at_call 26; refine (SHO.out _).mono ?_; rintro e wz4 ⟨rfl, rfl⟩)
        refine hK.out _ _ (SOK.out _ K3.out) (fun hHeld => ?_)
        clear hK K
        try simp only [Act.put, List.setIfInBounds_toArray, List.set_cons_zero, List.set_cons_succ]
        refine wpAnyH_take (i := 11) (oi := ⟨some 25, .build 26 #[(0, .tmp 15), (1, .tmp 17), (2, .tmp 21), (3, .tmp 24)], _, _, _, none⟩) (v := .agg #[.int .i64 k, .int .i64 i, .slice A7 B7.length c7, .string t7, .slice none 0 0, .slice none 0 0]) rfl (by kernel_rfl) (by kernel_rfl) (by kernel_rfl) (fun _ _ _ h => h) (Or.inl ⟨by kernel_rfl, fun w hS => by obtain ⟨h0, h1, h2, h3⟩ := hS; go_simp⟩) (by assumption) ?_
        simp only [Act.put, List.setIfInBounds_toArray, List.set_cons_zero, List.set_cons_succ]
        refine wpAnyH_ready (rs := [13]) (by kernel_rfl) (by simp) ?_
        refine AllReadyH.cons (o := ⟨none, .store 26 (.tmp 5) (.tmp 25), _, _, _, none⟩) rfl (fun K hK => ?_) AllReadyH.nil
        rw [if_pos (by kernel_rfl)]
        refine step_storeV wz3 (.tmp 5) (.tmp 25) (by kernel_rfl) g5 #[.int .i64 k, .int .i64 i, .slice A7 B7.length c7, .string t7, .slice none 0 0, .slice none 0 0] (by kernel_rfl) (by kernel_rfl) cellsZ BG3.out (by rfl) (by rfl) (by simp [Value.oneCell']) ?_
        have KZ := Lib.hid (show Still wB (wz3.setRow g5 #[.int .i64 k, .int .i64 i, .slice A7 B7.length c7, .string t7, .slice none 0 0, .slice none 0 0]) from below_setRow K3.out G5.out _)
        have FIN : FewA wB (wz3.setRow g5 #[.int .i64 k, .int .i64 i, .slice A7 B7.length c7, .string t7, .slice none 0 0, .slice none 0 0]) g5 A7 c7 k i B7 t7 := ⟨G5.out, KZ.out, setRow_heap _ _ _ _ _ _ BG3.out, own_row OW3.out NE3.out, NE3.out⟩
        have FF := Lib.hid FIN
        clear FIN
        refine hK.out _ _ (SOK.out _ KZ.out) (fun hHeld => ?_)
        clear hK K
        try simp only [Act.put, List.setIfInBounds_toArray, List.set_cons_zero, List.set_cons_succ]
        refine wpAnyH_done (by kernel_rfl) ?_ _
        go_wp2_with fail
        go_meet
        case rel => exact ⟨g5, A7, c7, rfl, FF⟩
    · skip
      rw [if_pos (by kernel_rfl)]
      refine step_allocV wa (by kernel_rfl) ?_
      obtain ⟨g5, hg5⟩ : ∃ g5, g5 = wa.heap.size := ⟨_, rfl⟩
      obtain ⟨wz1, hwz1⟩ : ∃ W, W = wa.alloc (.cells cellsZ 26) := ⟨_, rfl⟩
      have s1 : Still wa wz1 := by rw [hwz1]; exact (Still.refl wa).alloc (Nat.le_refl _) _
      have G5 := Lib.hid (show wB.heap.size ≤ g5 by rw [hg5]; exact K0.out.size)
      have BG1 := Lib.hid (show Blk wz1 g5 26 cellsZ by rw [hwz1, hg5]; exact Blk.new _ _ _)
      have K1 := Lib.hid (Still.trans K0.out s1)
      rw [← hwz1, ← hg5]
      clear hwz1 hg5 s1
      refine hK.out _ _ (SOK.out _ K1.out) (fun hHeld => ?_)
      clear hK K
      try simp only [Act.put, List.setIfInBounds_toArray, List.set_cons_zero, List.set_cons_succ]
      refine wpAnyH_ready (rs := [6]) (by kernel_rfl) (by simp) ?_
      refine AllReadyH.cons rfl (fun K hK => ?_) AllReadyH.nil
      go_simp
      go_wp2_with (go_at_call 11; refine (CUT.out _ K1.out).mono ?_; rintro e wz2 ⟨rfl, rfl⟩)
      refine hK.out _ _ (SOK.out _ K1.out) (fun hHeld => ?_)
      clear hK K
      try simp only [Act.put, List.setIfInBounds_toArray, List.set_cons_zero, List.set_cons_succ]
      refine wpAnyH_ready (rs := [7]) (by kernel_rfl) (by simp) ?_
      refine AllReadyH.cons rfl (fun K hK => ?_) AllReadyH.nil
      go_simp
      go_wp2_with (go_at_call 12; refine (COPY.out _ K1.out).mono ?_; rintro e wz3 ⟨⟨A7, c7, rfl, own3⟩, s3⟩)
      have K3 := Lib.hid (Still.trans K1.out s3)
      have OW3 := Lib.hid (own_rebase own3 K1.out.size)
      have BG3 := Lib.hid (BG1.out.still s3)
      have NE3 := Lib.hid (show (Value.slice A7 B7.length c7).ownBlock ≠ some g5 from fun e => by have h1 := (own3.lt _ e).1; have h2 := BG1.out.lt; omega)
      clear own3 s3
      refine hK.out _ _ (SOK.out _ K3.out) (fun hHeld => ?_)
      clear hK K
      try simp only [Act.put, List.setIfInBounds_toArray, List.set_cons_zero, List.set_cons_succ]
      refine wpAnyH_ready (rs := [10]) (by kernel_rfl) (by simp) ?_
      refine AllReadyH.cons (o := ⟨some 24, .call { callee := .value (.func 26), args := #[.tmp 23, .const (.int .i64 700)], argTypes := #[9, 3] }, _, _, _, none⟩) rfl (fun K hK => ?_) AllReadyH.nil
      go_simp
      go_wp2_with (go_at_call 26; refine (SHO.out _).mono ?_; rintro e wz4 ⟨rfl, rfl⟩)
      refine hK.out _ _ (SOK.out _ K3.out) (fun hHeld => ?_)
      clear hK K
      try simp only [Act.put, List.setIfInBounds_toArray, List.set_cons_zero, List.set_cons_succ]
      refine wpAnyH_take (i := 11) (oi := ⟨some 25, .build 26 #[(0, .tmp 15), (1, .tmp 17), (2, .tmp 21), (3, .tmp 24)], _, _, _, none⟩) (v := .agg #[.int .i64 k, .int .i64 i, .slice A7 B7.length c7, .string t7, .slice none 0 0, .slice none 0 0]) rfl (by kernel_rfl) (by kernel_rfl) (by kernel_rfl) (fun _ _ _ h => h) (Or.inl ⟨by kernel_rfl, fun w hS => by obtain ⟨h0, h1, h2, h3⟩ := hS; go_simp⟩) (by assumption) ?_
      simp only [Act.put, List.setIfInBounds_toArray, List.set_cons_zero, List.set_cons_succ]
      refine wpAnyH_ready (rs := [13]) (by kernel_rfl) (by simp) ?_
      refine AllReadyH.cons (o := ⟨none, .store 26 (.tmp 5) (.tmp 25), _, _, _, none⟩) rfl (fun K hK => ?_) AllReadyH.nil
      rw [if_pos (by kernel_rfl)]
      refine step_storeV wz3 (.tmp 5) (.tmp 25) (by kernel_rfl) g5 #[.int .i64 k, .int .i64 i, .slice A7 B7.length c7, .string t7, .slice none 0 0, .slice none 0 0] (by kernel_rfl) (by kernel_rfl) cellsZ BG3.out (by rfl) (by rfl) (by simp [Value.oneCell']) ?_
      have KZ := Lib.hid (show Still wB (wz3.setRow g5 #[.int .i64 k, .int .i64 i, .slice A7 B7.length c7, .string t7, .slice none 0 0, .slice none 0 0]) from below_setRow K3.out G5.out _)
      have FIN : FewA wB (wz3.setRow g5 #[.int .i64 k, .int .i64 i, .slice A7 B7.length c7, .string t7, .slice none 0 0, .slice none 0 0]) g5 A7 c7 k i B7 t7 := ⟨G5.out, KZ.out, setRow_heap _ _ _ _ _ _ BG3.out, own_row OW3.out NE3.out, NE3.out⟩
      have FF := Lib.hid FIN
      clear FIN
      refine hK.out _ _ (SOK.out _ KZ.out) (fun hHeld => ?_)
      clear hK K
      try simp only [Act.put, List.setIfInBounds_toArray, List.set_cons_zero, List.set_cons_succ]
      refine wpAnyH_done (by kernel_rfl) ?_ _
      go_wp2_with fail
      go_meet
      case rel => exact ⟨g5, A7, c7, rfl, FF⟩
  case rest =>
    obtain ⟨g5, A7, c7, rfl, FA⟩ := hcut
    obtain ⟨wC, hwC⟩ : ∃ x, x = wc := ⟨_, rfl⟩
    rw [← hwC] at FA ⊢
    clear hwC
    have OLDC := Lib.hid (show OldW wB gl wC from ⟨FA.out.st.size, fun q hq _ => FA.out.st.block q hq⟩)
    go_upto_block 0 with fail
    go_cut [6] (fun s6 wx => ∃ (kv : Value) (n5 : Nat), Hid (n5 ≤ 40 ∧ Few1 wC wx g5 (.int .i64 k) (.int .i64 i) (.slice A7 B7.length c7) (.string t7) kv n5 ((ks.take 40).map (shB 100))))
    case first =>
      go_wp2_with fail
      go_loopw [6] (fun iv wr => ∃ j : Nat, j ≤ ks.length ∧ j ≤ 40 ∧ iv = .int .i64 j ∧ Hid (∃ kv, Few1 wC wr g5 (.int .i64 k) (.int .i64 i) (.slice A7 B7.length c7) (.string t7) kv j ((ks.take j).map (shB 100)))) (fun iv _ => 40 - (intOf iv).toNat)
      case atStart => exact ⟨0, by omega, by omega, rfl, .slice none 0 0, ⟨by simpa using World.ownsRow_nil _ _ _ _, FA.out.bx, World.grownBy.refl _ _, FA.out.bx.lt⟩⟩
      case round =>
        obtain ⟨j, hj, hj40, rfl, kv, f⟩ := hrel
        obtain ⟨Aq, cq, rfl, _⟩ := own_formG f.own
        have F := Lib.hid f
        have OLD := Lib.hid (OLDC.out.push f.gr (fun b e => by cases e; exact FA.out.lo))
        have c24 : wr.cell? ⟨g2, 4, none⟩ = some (.slice Ak ks.length ck) := (OLD.out.cell (by have := SZB.out; have := HG2.out; omega) (by have := HLT.out; have := HG2.out; omega)).trans (B2B.out.cell 4)
        clear f
        by_cases hlt : j < ks.length ∧ j < 40
        · have JL := Lib.hid hlt
          have d1 : (j : Int) < (ks.length : Int) := by omega
          have d2 : (j : Int) < 40 := by omega
          have d0 : (0 : Int) ≤ (j : Int) := by omega
          obtain ⟨gk, ok, eA, ⟨hpk, hgk⟩, hgk2, hck⟩ := HKS.out.2 (by omega)
          subst eA
          obtain ⟨sj, hsj⟩ : ∃ sj, sj = ks.getD j ByteArray.empty := ⟨_, rfl⟩
          obtain ⟨sk, hsk⟩ : ∃ sk, sk = shB 100 sj := ⟨_, rfl⟩
          have hss : sj.size ≤ 9223372036854775807 := HKS.out.1 sj (by rw [hsj]; simp [List.getD, hlt.1])
          have SH0 := Lib.hid (fun W => short_k sj 100 W hss)
          have SH1 : Hid (∀ W, Calls Tryd.prog 26 #[.string sj, .int .i64 100] W fun e w' => e = .returned (.string (shB 100 sj)) ∧ W = w') := SH0
          rw [← hsk] at SH1
          have SH : Hid (∀ W, Calls Tryd.prog 26 #[.string sj, .int .i64 100] W fun e w' => e = .returned (.string sk) ∧ W = w') := SH1
          have SJ : Hid (sk = shB 100 (ks.getD j ByteArray.empty)) := Lib.hid (by rw [hsk, hsj])
          have SK := Lib.hid (show ∀ W, OldW wB gl W → W.cell? ⟨g2, 4, none⟩ = some (.slice (some ⟨gk, ok, none⟩) ks.length ck) ∧ W.cell? ⟨gk, ok + j, none⟩ = some (.string sj) from fun W o =>
            ⟨(o.cell (by have := SZB.out; have := HG2.out; omega) (by have := HLT.out; have := HG2.out; omega)).trans (B2B.out.cell 4), (o.cell hgk2 (HP.out gk hpk)).trans (by rw [hck j hlt.1, hsj])⟩)
          obtain ⟨kk, hkk⟩ : ∃ kk, kk = (ks.take j).map (shB 100) := ⟨_, rfl⟩
          rw [← hkk] at F
          have HKK := Lib.hid hkk
          clear hss SH0 SH1 hsj hsk hck hlt hkk hj hj40
          go_upto_region 6 with fail
          refine wp_region_held_drew (S := fun W => W.cell? ⟨g2, 4, none⟩ = some (.slice (some ⟨gk, ok, none⟩) ks.length ck) ∧ W.cell? ⟨gk, ok + j, none⟩ = some (.string sj)) (by kernel_rfl) ?_ (fun hHeld => ?_)
          · exact SK.out _ (OLD.out.drew)
          have F0 := Lib.hid (F.out.still ((Still.refl wr).drew))
          have O0 := Lib.hid (OLD.out.drew)
          obtain ⟨wa, hwa⟩ : ∃ wa, wa = wr.drew := ⟨_, rfl⟩
          rw [← hwa] at hHeld F0 O0 ⊢
          clear hwa
          try simp only [Act.put, List.setIfInBounds_toArray, List.set_cons_zero, List.set_cons_succ]
          refine wpAnyH_take (i := 0) (v := .pointer (some ⟨g5, 4, none⟩)) rfl (by kernel_rfl) (by kernel_rfl) (by kernel_rfl) (fun _ _ _ h => h) (Or.inl ⟨by kernel_rfl, fun w hS => by obtain ⟨h0, h1⟩ := hS; go_simp⟩) (by assumption) ?_
          simp only [Act.put, List.setIfInBounds_toArray, List.set_cons_zero, List.set_cons_succ]
          refine wpAnyH_take (i := 2) (v := .pointer (some ⟨g2, 4, none⟩)) rfl (by kernel_rfl) (by kernel_rfl) (by kernel_rfl) (fun _ _ _ h => h) (Or.inl ⟨by kernel_rfl, fun w hS => by obtain ⟨h0, h1⟩ := hS; go_simp⟩) (by assumption) ?_
          simp only [Act.put, List.setIfInBounds_toArray, List.set_cons_zero, List.set_cons_succ]
          refine wpAnyH_take (i := 3) (v := .slice (some ⟨gk, ok, none⟩) ks.length ck) rfl (by kernel_rfl) (by kernel_rfl) (by kernel_rfl) (fun _ _ _ h => h) (Or.inl ⟨by kernel_rfl, fun w hS => by obtain ⟨h0, h1⟩ := hS; go_simp⟩) (by assumption) ?_
          simp only [Act.put, List.setIfInBounds_toArray, List.set_cons_zero, List.set_cons_succ]
          refine wpAnyH_take (i := 4) (v := .int .i64 (j : Int)) rfl (by kernel_rfl) (by kernel_rfl) (by kernel_rfl) (fun _ _ _ h => h) (Or.inl ⟨by kernel_rfl, fun w hS => by obtain ⟨h0, h1⟩ := hS; go_simp⟩) (by assumption) ?_
          simp only [Act.put, List.setIfInBounds_toArray, List.set_cons_zero, List.set_cons_succ]
          refine wpAnyH_take (i := 5) (v := .pointer (some ⟨gk, ok + j, none⟩)) rfl (by kernel_rfl) (by kernel_rfl) (by kernel_rfl) (fun _ _ _ h => h) (Or.inl ⟨by kernel_rfl, fun w hS => by obtain ⟨h0, h1⟩ := hS; go_simp⟩) (by assumption) ?_
          simp only [Act.put, List.setIfInBounds_toArray, List.set_cons_zero, List.set_cons_succ]
          refine wpAnyH_take (i := 6) (v := .string sj) rfl (by kernel_rfl) (by kernel_rfl) (by kernel_rfl) (fun _ _ _ h => h) (Or.inl ⟨by kernel_rfl, fun w hS => by obtain ⟨h0, h1⟩ := hS; go_simp⟩) (by assumption) ?_
          simp only [Act.put, List.setIfInBounds_toArray, List.set_cons_zero, List.set_cons_succ]
          refine wpAnyH_ready (rs := [1, 7]) (by kernel_rfl) (by simp) ?_
          refine AllReadyH.cons rfl (fun K hK => ?_) (AllReadyH.cons rfl (fun K hK => ?_) AllReadyH.nil)
          · skip
            have cq1 : wa.cell? ⟨g5, 4, none⟩ = some (.slice Aq j cq) := F0.out.bx.cell 4
            go_simp
            clear cq1
            refine hK.out _ _ (SK.out _ O0.out) (fun hHeld => ?_)
            clear hK K
            try simp only [Act.put, List.setIfInBounds_toArray, List.set_cons_zero, List.set_cons_succ]
            refine wpAnyH_ready (rs := [7]) (by kernel_rfl) (by simp) ?_
            refine AllReadyH.cons rfl (fun K hK => ?_) AllReadyH.nil
            go_simp
            go_wp2_with (go_at_call 26; refine (SH.out _).mono ?_; rintro e wz2 ⟨rfl, rfl⟩)
            refine hK.out _ _ (SK.out _ O0.out) (fun hHeld => ?_)
            clear hK K
            try simp only [Act.put, List.setIfInBounds_toArray, List.set_cons_zero, List.set_cons_succ]
            refine wpAnyH_ready (rs := [8]) (by kernel_rfl) (by simp) ?_
            refine AllReadyH.cons rfl (fun K hK => ?_) AllReadyH.nil
            rw [if_pos (by kernel_rfl)]
            refine step_boxS wa (.tmp 44) (by kernel_rfl) sk (by kernel_rfl) ?_
            have F3 := Lib.hid (F0.out.still (still_new wa (.cells #[.string sk] 9)))
            have O3 := Lib.hid (O0.out.alloc (.cells #[.string sk] 9))
            have LK := Lib.hid (Blk.new wa 9 #[.string sk])
            obtain ⟨bk, hbk⟩ : ∃ bk, bk = wa.heap.size := ⟨_, rfl⟩
            rw [← hbk] at LK ⊢
            obtain ⟨wz3, hwz3⟩ : ∃ W, W = wa.alloc (.cells #[.string sk] 9) := ⟨_, rfl⟩
            rw [← hwz3] at F3 O3 LK ⊢
            clear hwz3 hbk
            refine hK.out _ _ (SK.out _ O3.out) (fun hHeld => ?_)
            clear hK K
            try simp only [Act.put, List.setIfInBounds_toArray, List.set_cons_zero, List.set_cons_succ]
            refine wpAnyH_ready (rs := [9]) (by kernel_rfl) (by simp) ?_
            refine AllReadyH.cons rfl (fun K hK => ?_) AllReadyH.nil
            rw [if_pos (by kernel_rfl)]
            refine step_pushS wz3 (.tmp 38) (.tmp 45) (by kernel_rfl) wC.heap.size (.slice Aq j cq) j (kk.map Value.string) (by kernel_rfl) F3.out.own bk sk (by kernel_rfl) (LK.out.cell 0) (by have := JL.out; omega) F3.out.gr.size ?_
            intro vk wz4 own gr loc
            obtain ⟨Av, cv, rfl, _⟩ := own_formG own
            have FB := F3.out.push own gr loc
            have FP := Lib.hid FB.2
            have BP := Lib.hid FB.1
            have O4 := Lib.hid (O3.out.push gr (fun b e => by have := (F3.out.own.lt b e).1; have := FA.out.st.size; omega))
            clear FB own gr loc LK
            refine hK.out _ _ (SK.out _ O4.out) (fun hHeld => ?_)
            clear hK K
            try simp only [Act.put, List.setIfInBounds_toArray, List.set_cons_zero, List.set_cons_succ]
            refine wpAnyH_take (i := 10) (oi := ⟨some 47, .fieldAddr 26 (.tmp 5) 4, _, _, _, none⟩) (v := .pointer (some ⟨g5, 4, none⟩)) rfl (by kernel_rfl) (by kernel_rfl) (by kernel_rfl) (fun _ _ _ h => h) (Or.inl ⟨by kernel_rfl, fun w hS => by obtain ⟨h0, h1⟩ := hS; go_simp⟩) (by assumption) ?_
            simp only [Act.put, List.setIfInBounds_toArray, List.set_cons_zero, List.set_cons_succ]
            refine wpAnyH_ready (rs := [11]) (by kernel_rfl) (by simp) ?_
            refine AllReadyH.cons (o := ⟨none, .store 23 (.tmp 47) (.tmp 46), _, _, _, none⟩) rfl (fun K hK => ?_) AllReadyH.nil
            rw [if_pos (by kernel_rfl)]
            refine step_storeC wz4 23 (.tmp 47) (.tmp 46) (by kernel_rfl) g5 4 (.slice Av (j + 1) cv) (.slice Aq j cq) (by kernel_rfl) (by kernel_rfl) rfl (by kernel_rfl) (BP.out.cell 4) (BP.out.frozen 4) ?_
            refine hK.out _ _ (SK.out _ (O4.out.setc FA.out.lo _)) (fun hHeld => ?_)
            clear hK K
            try simp only [Act.put, List.setIfInBounds_toArray, List.set_cons_zero, List.set_cons_succ]
            refine wpAnyH_done (by kernel_rfl) ?_ _
            have ACC := Lib.hid (show ∃ kv, Few1 wC (wz4.setCell ⟨g5, 4, none⟩ (.slice Av (j + 1) cv)) g5 (.int .i64 k) (.int .i64 i) (.slice A7 B7.length c7) (.string t7) kv (j + 1) ((ks.take (j + 1)).map (shB 100)) from ⟨_, by rw [few_kk JL.out.1, ← SJ.out, ← HKK.out]; exact FP.out⟩)
            clear FP BP hHeld
            go_wp2_with fail
            go_roundw
            case rel => exact ⟨j + 1, by have := JL.out; omega, by have := JL.out; omega, by go_num, ACC.out⟩
            case measure => simp [intOf]; have := JL.out; omega
          · skip
            go_simp
            go_wp2_with (go_at_call 26; refine (SH.out _).mono ?_; rintro e wz1 ⟨rfl, rfl⟩)
            refine hK.out _ _ (SK.out _ O0.out) (fun hHeld => ?_)
            clear hK K
            try simp only [Act.put, List.setIfInBounds_toArray, List.set_cons_zero, List.set_cons_succ]
            refine wpAnyH_ready (rs := [1, 8]) (by kernel_rfl) (by simp) ?_
            refine AllReadyH.cons rfl (fun K hK => ?_) (AllReadyH.cons rfl (fun K hK => ?_) AllReadyH.nil)
            · skip
              have cq2 : wa.cell? ⟨g5, 4, none⟩ = some (.slice Aq j cq) := F0.out.bx.cell 4
              go_simp
              clear cq2
              refine hK.out _ _ (SK.out _ O0.out) (fun hHeld => ?_)
              clear hK K
              try simp only [Act.put, List.setIfInBounds_toArray, List.set_cons_zero, List.set_cons_succ]
              refine wpAnyH_ready (rs := [8]) (by kernel_rfl) (by simp) ?_
              refine AllReadyH.cons rfl (fun K hK => ?_) AllReadyH.nil
              rw [if_pos (by kernel_rfl)]
              refine step_boxS wa (.tmp 44) (by kernel_rfl) sk (by kernel_rfl) ?_
              have F3 := Lib.hid (F0.out.still (still_new wa (.cells #[.string sk] 9)))
              have O3 := Lib.hid (O0.out.alloc (.cells #[.string sk] 9))
              have LK := Lib.hid (Blk.new wa 9 #[.string sk])
              obtain ⟨bk, hbk⟩ : ∃ bk, bk = wa.heap.size := ⟨_, rfl⟩
              rw [← hbk] at LK ⊢
              obtain ⟨wz3, hwz3⟩ : ∃ W, W = wa.alloc (.cells #[.string sk] 9) := ⟨_, rfl⟩
              rw [← hwz3] at F3 O3 LK ⊢
              clear hwz3 hbk
              refine hK.out _ _ (SK.out _ O3.out) (fun hHeld => ?_)
              clear hK K
              try simp only [Act.put, List.setIfInBounds_toArray, List.set_cons_zero, List.set_cons_succ]
              refine wpAnyH_ready (rs := [9]) (by kernel_rfl) (by simp) ?_
              refine AllReadyH.cons rfl (fun K hK => ?_) AllReadyH.nil
              rw [if_pos (by kernel_rfl)]
              refine step_pushS wz3 (.tmp 38) (.tmp 45) (by kernel_rfl) wC.heap.size (.slice Aq j cq) j (kk.map Value.string) (by kernel_rfl) F3.out.own bk sk (by kernel_rfl) (LK.out.cell 0) (by have := JL.out; omega) F3.out.gr.size ?_
              intro vk wz4 own gr loc
              obtain ⟨Av, cv, rfl, _⟩ := own_formG own
              have FB := F3.out.push own gr loc
              have FP := Lib.hid FB.2
              have BP := Lib.hid FB.1
              have O4 := Lib.hid (O3.out.push gr (fun b e => by have := (F3.out.own.lt b e).1; have := FA.out.st.size; omega))
              clear FB own gr loc LK
              refine hK.out _ _ (SK.out _ O4.out) (fun hHeld => ?_)
              clear hK K
              try simp only [Act.put, List.setIfInBounds_toArray, List.set_cons_zero, List.set_cons_succ]
              refine wpAnyH_take (i := 10) (oi := ⟨some 47, .fieldAddr 26 (.tmp 5) 4, _, _, _, none⟩) (v := .pointer (some ⟨g5, 4, none⟩)) rfl (by kernel_rfl) (by kernel_rfl) (by kernel_rfl) (fun _ _ _ h => h) (Or.inl ⟨by kernel_rfl, fun w hS => by obtain ⟨h0, h1⟩ := hS; go_simp⟩) (by assumption) ?_
              simp only [Act.put, List.setIfInBounds_toArray, List.set_cons_zero, List.set_cons_succ]
              refine wpAnyH_ready (rs := [11]) (by kernel_rfl) (by simp) ?_
              refine AllReadyH.cons (o := ⟨none, .store 23 (.tmp 47) (.tmp 46), _, _, _, none⟩) rfl (fun K hK => ?_) AllReadyH.nil
              rw [if_pos (by kernel_rfl)]
              refine step_storeC wz4 23 (.tmp 47) (.tmp 46) (by kernel_rfl) g5 4 (.slice Av (j + 1) cv) (.slice Aq j cq) (by kernel_rfl) (by kernel_rfl) rfl (by kernel_rfl) (BP.out.cell 4) (BP.out.frozen 4) ?_
              refine hK.out _ _ (SK.out _ (O4.out.setc FA.out.lo _)) (fun hHeld => ?_)
              clear hK K
              try simp only [Act.put, List.setIfInBounds_toArray, List.set_cons_zero, List.set_cons_succ]
              refine wpAnyH_done (by kernel_rfl) ?_ _
              have ACC := Lib.hid (show ∃ kv, Few1 wC (wz4.setCell ⟨g5, 4, none⟩ (.slice Av (j + 1) cv)) g5 (.int .i64 k) (.int .i64 i) (.slice A7 B7.length c7) (.string t7) kv (j + 1) ((ks.take (j + 1)).map (shB 100)) from ⟨_, by rw [few_kk JL.out.1, ← SJ.out, ← HKK.out]; exact FP.out⟩)
              clear FP BP hHeld
              go_wp2_with fail
              go_roundw
              case rel => exact ⟨j + 1, by have := JL.out; omega, by have := JL.out; omega, by go_num, ACC.out⟩
              case measure => simp [intOf]; have := JL.out; omega
            · skip
              rw [if_pos (by kernel_rfl)]
              refine step_boxS wa (.tmp 44) (by kernel_rfl) sk (by kernel_rfl) ?_
              have F2 := Lib.hid (F0.out.still (still_new wa (.cells #[.string sk] 9)))
              have O2 := Lib.hid (O0.out.alloc (.cells #[.string sk] 9))
              have LK := Lib.hid (Blk.new wa 9 #[.string sk])
              obtain ⟨bk, hbk⟩ : ∃ bk, bk = wa.heap.size := ⟨_, rfl⟩
              rw [← hbk] at LK ⊢
              obtain ⟨wz2, hwz2⟩ : ∃ W, W = wa.alloc (.cells #[.string sk] 9) := ⟨_, rfl⟩
              rw [← hwz2] at F2 O2 LK ⊢
              clear hwz2 hbk
              refine hK.out _ _ (SK.out _ O2.out) (fun hHeld => ?_)
              clear hK K
              try simp only [Act.put, List.setIfInBounds_toArray, List.set_cons_zero, List.set_cons_succ]
              refine wpAnyH_ready (rs := [1]) (by kernel_rfl) (by simp) ?_
              refine AllReadyH.cons rfl (fun K hK => ?_) AllReadyH.nil
              have cq3 : wz2.cell? ⟨g5, 4, none⟩ = some (.slice Aq j cq) := F2.out.bx.cell 4
              go_simp
              clear cq3
              refine hK.out _ _ (SK.out _ O2.out) (fun hHeld => ?_)
              clear hK K
              try simp only [Act.put, List.setIfInBounds_toArray, List.set_cons_zero, List.set_cons_succ]
              refine wpAnyH_ready (rs := [9]) (by kernel_rfl) (by simp) ?_
              refine AllReadyH.cons rfl (fun K hK => ?_) AllReadyH.nil
              rw [if_pos (by kernel_rfl)]
              refine step_pushS wz2 (.tmp 38) (.tmp 45) (by kernel_rfl) wC.heap.size (.slice Aq j cq) j (kk.map Value.string) (by kernel_rfl) F2.out.own bk sk (by kernel_rfl) (LK.out.cell 0) (by have := JL.out; omega) F2.out.gr.size ?_
              intro vk wz4 own gr loc
              obtain ⟨Av, cv, rfl, _⟩ := own_formG own
              have FB := F2.out.push own gr loc
              have FP := Lib.hid FB.2
              have BP := Lib.hid FB.1
              have O4 := Lib.hid (O2.out.push gr (fun b e => by have := (F2.out.own.lt b e).1; have := FA.out.st.size; omega))
              clear FB own gr loc LK
              refine hK.out _ _ (SK.out _ O4.out) (fun hHeld => ?_)
              clear hK K
              try simp only [Act.put, List.setIfInBounds_toArray, List.set_cons_zero, List.set_cons_succ]
              refine wpAnyH_take (i := 10) (oi := ⟨some 47, .fieldAddr 26 (.tmp 5) 4, _, _, _, none⟩) (v := .pointer (some ⟨g5, 4, none⟩)) rfl (by kernel_rfl) (by kernel_rfl) (by kernel_rfl) (fun _ _ _ h => h) (Or.inl ⟨by kernel_rfl, fun w hS => by obtain ⟨h0, h1⟩ := hS; go_simp⟩) (by assumption) ?_
              simp only [Act.put, List.setIfInBounds_toArray, List.set_cons_zero, List.set_cons_succ]
              refine wpAnyH_ready (rs := [11]) (by kernel_rfl) (by simp) ?_
              refine AllReadyH.cons (o := ⟨none, .store 23 (.tmp 47) (.tmp 46), _, _, _, none⟩) rfl (fun K hK => ?_) AllReadyH.nil
              rw [if_pos (by kernel_rfl)]
              refine step_storeC wz4 23 (.tmp 47) (.tmp 46) (by kernel_rfl) g5 4 (.slice Av (j + 1) cv) (.slice Aq j cq) (by kernel_rfl) (by kernel_rfl) rfl (by kernel_rfl) (BP.out.cell 4) (BP.out.frozen 4) ?_
              refine hK.out _ _ (SK.out _ (O4.out.setc FA.out.lo _)) (fun hHeld => ?_)
              clear hK K
              try simp only [Act.put, List.setIfInBounds_toArray, List.set_cons_zero, List.set_cons_succ]
              refine wpAnyH_done (by kernel_rfl) ?_ _
              have ACC := Lib.hid (show ∃ kv, Few1 wC (wz4.setCell ⟨g5, 4, none⟩ (.slice Av (j + 1) cv)) g5 (.int .i64 k) (.int .i64 i) (.slice A7 B7.length c7) (.string t7) kv (j + 1) ((ks.take (j + 1)).map (shB 100)) from ⟨_, by rw [few_kk JL.out.1, ← SJ.out, ← HKK.out]; exact FP.out⟩)
              clear FP BP hHeld
              go_wp2_with fail
              go_roundw
              case rel => exact ⟨j + 1, by have := JL.out; omega, by have := JL.out; omega, by go_num, ACC.out⟩
              case measure => simp [intOf]; have := JL.out; omega
        · have J40 : Hid (ks.take j = ks.take 40) := Lib.hid (by
            rcases Nat.lt_or_ge j ks.length with h | h
            · rw [show j = 40 by omega]
            · rw [List.take_of_length_le (by omega), List.take_of_length_le (by omega)])
          have J41 := Lib.hid hj40
          have dd : (¬ (j : Int) < (ks.length : Int)) ∨ ((j : Int) < (ks.length : Int) ∧ ¬ (j : Int) < 40) := by omega
          clear hlt hj hj40
          rcases dd with d1 | ⟨d1, d2⟩
          all_goals
            go_wp2_with fail
            go_meet
            case rel => exact ⟨_, j, J41.out, by rw [← J40.out]; exact F.out⟩
    case rest =>
      obtain ⟨kv, n5, hf⟩ := hcut
      obtain ⟨Ak5, ck5, rfl, _⟩ := own_formG hf.out.2.own
      obtain ⟨wd, hwd⟩ : ∃ wd, wd = wc := ⟨_, rfl⟩
      rw [← hwd] at hf ⊢
      have F5 := Lib.hid hf.out.2
      have N5 := Lib.hid hf.out.1
      clear hwd hf
      have OLDD := Lib.hid (OLDC.out.push F5.out.gr (fun b e => by cases e; exact FA.out.lo))
      have WD := Lib.hid (show wB.heap.size ≤ wd.heap.size from OLDD.out.size)
      have BLD := Lib.hid (show Blk wd gl 3 #[.int .i64 (m1 : Int)] from (F5.out.gr.block gl (by have := FA.out.st.size; have := SZB.out; have := HLT.out; omega) (fun e => by have := Option.some.inj e; have := FA.out.lo; have := SZB.out; have := HLT.out; omega)).trans (BLB.out.still FA.out.st))
      clear OLDC
      go_wp2_with fail
      go_loopw [7] (fun iv wr => ∃ j : Nat, j ≤ l.length ∧ j ≤ 40 ∧ iv = .int .i64 j ∧ Hid (∃ lv xs al mj, Few2 wd wr wB.heap.size g5 gl (.int .i64 k) (.int .i64 i) (.slice A7 B7.length c7) (.string t7) (.slice Ak5 n5 ck5) lv j xs al mj ∧ mj ≤ 59 ∧ al.length = j ∧ fewL 40 l m1 = (al ++ (fewL (40 - j) (l.drop j) mj).1, (fewL (40 - j) (l.drop j) mj).2))) (fun iv _ => 40 - (intOf iv).toNat)
      case atStart =>
        refine ⟨0, by omega, by omega, rfl, .slice none 0 0, [], [], m1, ?_, HM.out, rfl, by simp⟩
        exact
        { own := World.ownsRow_nil _ _ _ _
          row := rfl
          bx := F5.out.bx
          bl := BLD.out
          os := rfl
          tape := rfl
          output := rfl
          size := Nat.le_refl _
          block := fun _ _ _ _ => rfl
          lt := F5.out.bx.lt
          ltl := by have := HLT.out; have := SZB.out; omega
          le := FA.out.lo }
      case round =>
        obtain ⟨j, hj, hj40, rfl, lv, xs, al, mj, f, hmj, hal, hD⟩ := hrel
        obtain ⟨Aq, cq, rfl, _⟩ := own_formG f.own
        have F := Lib.hid f
        have OLD := Lib.hid (show OldW wB gl wr from ⟨Nat.le_trans WD.out f.size, fun q hq hn => (f.block q (by have := WD.out; omega) (fun e => by have := FA.out.lo; omega) hn).trans (OLDD.out.block q hq hn)⟩)
        have c25 : wr.cell? ⟨g2, 5, none⟩ = some (.slice Al l.length cl) := (OLD.out.cell (by have := SZB.out; have := HG2.out; omega) (by have := HLT.out; have := HG2.out; omega)).trans (B2B.out.cell 5)
        have cgl : wr.cell? ⟨gl, 0, none⟩ = some (.int .i64 (mj : Int)) := f.bl.cell 0
        have HMJ := Lib.hid hmj
        have HAL := Lib.hid hal
        have HDJ := Lib.hid hD
        clear f hmj hal hD
        by_cases hlt : j < l.length ∧ j < 40 ∧ 0 < mj
        · have JL := Lib.hid hlt
          have d1 : (j : Int) < (l.length : Int) := by omega
          have d2 : (j : Int) < 40 := by omega
          have d3 : (0 : Int) < (mj : Int) := by omega
          have d0 : (0 : Int) ≤ (j : Int) := by omega
          obtain ⟨gw, ow, eA, ⟨hpw, hgw⟩, hgw2, hLW⟩ := HLL.out (by omega)
          subst eA
          obtain ⟨x, hx⟩ : ∃ x, l[j]? = some x := ⟨_, List.getElem?_eq_getElem hlt.1⟩
          obtain ⟨csx0, hvx, hzx, hcx⟩ := HasLW.at l ow hLW j x hx
          obtain ⟨csx⟩ := csx0
          have X6 : Hid (csx.length = 6) := Lib.hid (by simpa using hzx)
          have FEW := Lib.hid (show ∀ W, OldW wB gl W → Blk W gl 3 #[.int .i64 (mj : Int)] → Calls Tryd.prog 16 #[.agg csx.toArray, .pointer (some ⟨gl, 0, none⟩)] W fun e w' => (∃ ds : List Value, e = .returned (.agg ds.toArray) ∧ ds.length = 6 ∧ ds.toArray.all (·.oneCell') = true ∧ HasW w' (fun b => W.heap.size ≤ b) (fewT x mj).1 ds.toArray) ∧ Blk w' gl 3 #[.int .i64 ((fewT x mj).2 : Int)] ∧ W.grownBy w' (some gl) from fun W o bl =>
            IH'.out x (List.mem_of_getElem? hx) W (fun b => P b ∧ b < w.heap.size) csx.toArray gl mj (HasW.keep (fun q hq hl => o.block q hl (HP.out q hq.1)) o.size (fun q hq _ => hq) _ _ hvx) (fun b hb => HP.out b hb.1) bl (by have := JL.out; omega) (by have := HMJ.out; omega))
          have SK := Lib.hid (show ∀ W, OldW wB gl W → W.cell? ⟨g2, 5, none⟩ = some (.slice (some ⟨gw, ow, none⟩) l.length cl) ∧ W.rangeAt gw (ow + j * 6) csx from fun W o =>
            ⟨(o.cell (by have := SZB.out; have := HG2.out; omega) (by have := HLT.out; have := HG2.out; omega)).trans (B2B.out.cell 5), fun q u hq => (o.cell hgw2 (HP.out gw hpw)).trans (by have := hcx q u (by simpa using hq); rwa [show ow + 6 * j + q = ow + j * 6 + q by omega] at this)⟩)
          have LE := Lib.hid (fewT_le x mj)
          have NEXT := Lib.hid (show ∀ (wx : World) (lv' : Value) (xs' : List Value), Few2 wd wx wB.heap.size g5 gl (.int .i64 k) (.int .i64 i) (.slice A7 B7.length c7) (.string t7) (.slice Ak5 n5 ck5) lv' (j + 1) xs' (al ++ [(fewT x mj).1]) (fewT x mj).2 → ∃ lv xs al mj, Few2 wd wx wB.heap.size g5 gl (.int .i64 k) (.int .i64 i) (.slice A7 B7.length c7) (.string t7) (.slice Ak5 n5 ck5) lv (j + 1) xs al mj ∧ mj ≤ 59 ∧ al.length = j + 1 ∧ fewL 40 l m1 = (al ++ (fewL (40 - (j + 1)) (l.drop (j + 1)) mj).1, (fewL (40 - (j + 1)) (l.drop (j + 1)) mj).2) from fun wx lv' xs' f =>
            ⟨lv', xs', _, _, f, by have := LE.out; have := HMJ.out; omega, by rw [List.length_append, HAL.out]; rfl, by rw [HDJ.out, fewL_step j l mj JL.out.2.1 x hx JL.out.2.2]; simp⟩)
          obtain ⟨tx, htx⟩ : ∃ tx, tx = (fewT x mj).1 := ⟨_, rfl⟩
          obtain ⟨mx, hmx⟩ : ∃ mx, mx = (fewT x mj).2 := ⟨_, rfl⟩
          rw [← htx, ← hmx] at NEXT
          rw [← htx, ← hmx] at FEW
          clear LE hlt hj hj40 hx hvx hzx hcx hLW htx hmx HDJ
          go_upto_region 10 with fail
          refine wp_region_held_drew (S := fun W => W.cell? ⟨g2, 5, none⟩ = some (.slice (some ⟨gw, ow, none⟩) l.length cl) ∧ W.rangeAt gw (ow + j * 6) csx) (by kernel_rfl) ?_ (fun hHeld => ?_)
          · exact SK.out _ (OLD.out.drew)
          have F0 := Lib.hid (F.out.still ((Still.refl wr).drew))
          have O0 := Lib.hid (OLD.out.drew)
          obtain ⟨wa, hwa⟩ : ∃ wa, wa = wr.drew := ⟨_, rfl⟩
          rw [← hwa] at hHeld F0 O0 ⊢
          clear hwa
          try simp only [Act.put, List.setIfInBounds_toArray, List.set_cons_zero, List.set_cons_succ]
          refine wpAnyH_take (i := 0) (v := .pointer (some ⟨g5, 5, none⟩)) rfl (by kernel_rfl) (by kernel_rfl) (by kernel_rfl) (fun _ _ _ h => h) (Or.inl ⟨by kernel_rfl, fun w hS => by obtain ⟨h0, h1⟩ := hS; go_simp⟩) (by assumption) ?_
          simp only [Act.put, List.setIfInBounds_toArray, List.set_cons_zero, List.set_cons_succ]
          refine wpAnyH_take (i := 2) (v := .pointer (some ⟨g2, 5, none⟩)) rfl (by kernel_rfl) (by kernel_rfl) (by kernel_rfl) (fun _ _ _ h => h) (Or.inl ⟨by kernel_rfl, fun w hS => by obtain ⟨h0, h1⟩ := hS; go_simp⟩) (by assumption) ?_
          simp only [Act.put, List.setIfInBounds_toArray, List.set_cons_zero, List.set_cons_succ]
          refine wpAnyH_take (i := 3) (v := .slice (some ⟨gw, ow, none⟩) l.length cl) rfl (by kernel_rfl) (by kernel_rfl) (by kernel_rfl) (fun _ _ _ h => h) (Or.inl ⟨by kernel_rfl, fun w hS => by obtain ⟨h0, h1⟩ := hS; go_simp⟩) (by assumption) ?_
          simp only [Act.put, List.setIfInBounds_toArray, List.set_cons_zero, List.set_cons_succ]
          refine wpAnyH_take (i := 4) (v := .int .i64 (j : Int)) rfl (by kernel_rfl) (by kernel_rfl) (by kernel_rfl) (fun _ _ _ h => h) (Or.inl ⟨by kernel_rfl, fun w hS => by obtain ⟨h0, h1⟩ := hS; go_simp⟩) (by assumption) ?_
          simp only [Act.put, List.setIfInBounds_toArray, List.set_cons_zero, List.set_cons_succ]
          refine wpAnyH_take (i := 5) (v := .pointer (some ⟨gw, ow + j * 6, none⟩)) rfl (by kernel_rfl) (by kernel_rfl) (by kernel_rfl) (fun _ _ _ h => h) (Or.inl ⟨by kernel_rfl, fun w hS => by obtain ⟨h0, h1⟩ := hS; go_simp⟩) (by assumption) ?_
          simp only [Act.put, List.setIfInBounds_toArray, List.set_cons_zero, List.set_cons_succ]
          refine wpAnyH_take (i := 6) (v := .agg csx.toArray) rfl (by kernel_rfl) (by kernel_rfl) (by kernel_rfl) (fun _ _ _ h => h) ?hy6 (by assumption) ?_
          case hy6 =>
            refine yieldsIf_load_mid ?hw6 26 (.tmp 70) ?ho6 gw (ow + j * 6) ?hx6 csx _ (fun w h => h.2) (Tryd.underlying26) ?hd6 (by rw [sizeValue]; simp [X6.out])
            case hw6 => kernel_rfl
            case ho6 => rfl
            case hx6 => kernel_rfl
            case hd6 => rfl
          simp only [Act.put, List.setIfInBounds_toArray, List.set_cons_zero, List.set_cons_succ]
          refine wpAnyH_take (i := 7) (v := .pointer (some ⟨gl, 0, none⟩)) rfl (by kernel_rfl) (by kernel_rfl) (by kernel_rfl) (fun _ _ _ h => h) (Or.inl ⟨by kernel_rfl, fun w hS => by obtain ⟨h0, h1⟩ := hS; go_simp⟩) (by assumption) ?_
          simp only [Act.put, List.setIfInBounds_toArray, List.set_cons_zero, List.set_cons_succ]
          refine wpAnyH_ready (rs := [1, 8]) (by kernel_rfl) (by simp) ?_
          refine AllReadyH.cons rfl (fun K hK => ?_) (AllReadyH.cons rfl (fun K hK => ?_) AllReadyH.nil)
          · skip
            have cq1 : wa.cell? ⟨g5, 5, none⟩ = some (.slice Aq j cq) := F0.out.bx.cell 5
            go_simp
            clear cq1
            refine hK.out _ _ (SK.out _ O0.out) (fun hHeld => ?_)
            clear hK K
            try simp only [Act.put, List.setIfInBounds_toArray, List.set_cons_zero, List.set_cons_succ]
            refine wpAnyH_ready (rs := [8]) (by kernel_rfl) (by simp) ?_
            refine AllReadyH.cons rfl (fun K hK => ?_) AllReadyH.nil
            go_simp
            go_wp2_with (go_at_call 16; refine (FEW.out _ O0.out F0.out.bl).mono ?_; rintro e wz2 ⟨⟨ds, rfl, hd6, hdall, hdv⟩, hbl, hgr⟩)
            have D6 := Lib.hid hd6
            have DALL := Lib.hid hdall
            have F2 := Lib.hid (F0.out.call hgr hbl)
            have O2 := Lib.hid (O0.out.call hgr)
            have V2 := Lib.hid (few_val F0.out hdv)
            clear hd6 hdall hdv hbl hgr
            refine hK.out _ _ (SK.out _ O2.out) (fun hHeld => ?_)
            clear hK K
            try simp only [Act.put, List.setIfInBounds_toArray, List.set_cons_zero, List.set_cons_succ]
            refine wpAnyH_ready (rs := [9]) (by kernel_rfl) (by simp) ?_
            refine AllReadyH.cons rfl (fun K hK => ?_) AllReadyH.nil
            rw [if_pos (by kernel_rfl)]
            refine step_boxV wz2 (.tmp 73) (by kernel_rfl) ds D6.out (by kernel_rfl) ?_
            have F3 := Lib.hid (F2.out.still (still_new wz2 (.cells ds.toArray 26)))
            have O3 := Lib.hid (O2.out.alloc (.cells ds.toArray 26))
            have V3 := Lib.hid (HasW.keep (fun b _ hl => (still_new wz2 (.cells ds.toArray 26)).block b hl) (still_new wz2 (.cells ds.toArray 26)).size (fun _ h _ => h) _ _ V2.out)
            have LK := Lib.hid (Blk.new wz2 26 ds.toArray)
            obtain ⟨bk, hbk⟩ : ∃ bk, bk = wz2.heap.size := ⟨_, rfl⟩
            rw [← hbk] at LK ⊢
            obtain ⟨wz3, hwz3⟩ : ∃ W, W = wz2.alloc (.cells ds.toArray 26) := ⟨_, rfl⟩
            rw [← hwz3] at F3 O3 V3 LK ⊢
            clear hwz3 hbk
            refine hK.out _ _ (SK.out _ O3.out) (fun hHeld => ?_)
            clear hK K
            try simp only [Act.put, List.setIfInBounds_toArray, List.set_cons_zero, List.set_cons_succ]
            refine wpAnyH_ready (rs := [10]) (by kernel_rfl) (by simp) ?_
            refine AllReadyH.cons (o := ⟨some 75, .call { callee := .builtin .append, args := #[.tmp 66, .tmp 74], argTypes := #[24, 24] }, _, _, _, none⟩) rfl (fun K hK => ?_) AllReadyH.nil
            rw [if_pos (by kernel_rfl)]
            refine step_pushV wz3 (.tmp 66) (.tmp 74) (by kernel_rfl) wd.heap.size (.slice Aq j cq) j xs (by kernel_rfl) F3.out.own bk ds (by kernel_rfl) (fun q u hq => (LK.out.cell q).trans (by simpa using hq)) D6.out (fun u hu => (Array.all_eq_true_iff_forall_mem.1 DALL.out) u (by simpa using hu)) (by have := JL.out; omega) F3.out.size ?_
            intro vk wz4 own gr loc
            obtain ⟨Av, cv, rfl, _⟩ := own_formG own
            have FB := F3.out.push D6.out V3.out own gr loc
            have FP := Lib.hid FB.2
            have BP := Lib.hid FB.1
            have O4 := Lib.hid (O3.out.push gr (fun b e => by have h1 := (F3.out.own.lt b e).1; have h2 := WD.out; omega))
            clear FB own gr loc LK
            refine hK.out _ _ (SK.out _ O4.out) (fun hHeld => ?_)
            clear hK K
            try simp only [Act.put, List.setIfInBounds_toArray, List.set_cons_zero, List.set_cons_succ]
            refine wpAnyH_take (i := 11) (oi := ⟨some 76, .fieldAddr 26 (.tmp 5) 5, _, _, _, none⟩) (v := .pointer (some ⟨g5, 5, none⟩)) rfl (by kernel_rfl) (by kernel_rfl) (by kernel_rfl) (fun _ _ _ h => h) (Or.inl ⟨by kernel_rfl, fun w hS => by obtain ⟨h0, h1⟩ := hS; go_simp⟩) (by assumption) ?_
            simp only [Act.put, List.setIfInBounds_toArray, List.set_cons_zero, List.set_cons_succ]
            refine wpAnyH_ready (rs := [12]) (by kernel_rfl) (by simp) ?_
            refine AllReadyH.cons (o := ⟨none, .store 24 (.tmp 76) (.tmp 75), _, _, _, none⟩) rfl (fun K hK => ?_) AllReadyH.nil
            rw [if_pos (by kernel_rfl)]
            refine step_storeC wz4 24 (.tmp 76) (.tmp 75) (by kernel_rfl) g5 5 (.slice Av (j + 1) cv) (.slice Aq j cq) (by kernel_rfl) (by kernel_rfl) rfl (by kernel_rfl) (BP.out.cell 5) (BP.out.frozen 5) ?_
            refine hK.out _ _ (SK.out _ (O4.out.setc FA.out.lo _)) (fun hHeld => ?_)
            clear hK K
            try simp only [Act.put, List.setIfInBounds_toArray, List.set_cons_zero, List.set_cons_succ]
            refine wpAnyH_done (by kernel_rfl) ?_ _
            have ACC := Lib.hid (NEXT.out _ _ _ FP.out)
            clear FP BP hHeld
            go_wp2_with fail
            go_roundw
            case rel => exact ⟨j + 1, by have := JL.out; omega, by have := JL.out; omega, by go_num, ACC.out⟩
            case measure => simp [intOf]; have := JL.out; omega
          · skip
            go_simp
            go_wp2_with (go_at_call 16; refine (FEW.out _ O0.out F0.out.bl).mono ?_; rintro e wz1 ⟨⟨ds, rfl, hd6, hdall, hdv⟩, hbl, hgr⟩)
            have D6 := Lib.hid hd6
            have DALL := Lib.hid hdall
            have F1 := Lib.hid (F0.out.call hgr hbl)
            have O1 := Lib.hid (O0.out.call hgr)
            have V1 := Lib.hid (few_val F0.out hdv)
            clear hd6 hdall hdv hbl hgr
            refine hK.out _ _ (SK.out _ O1.out) (fun hHeld => ?_)
            clear hK K
            try simp only [Act.put, List.setIfInBounds_toArray, List.set_cons_zero, List.set_cons_succ]
            refine wpAnyH_ready (rs := [1, 9]) (by kernel_rfl) (by simp) ?_
            refine AllReadyH.cons rfl (fun K hK => ?_) (AllReadyH.cons rfl (fun K hK => ?_) AllReadyH.nil)
            · skip
              have cq2 : wz1.cell? ⟨g5, 5, none⟩ = some (.slice Aq j cq) := F1.out.bx.cell 5
              go_simp
              clear cq2
              refine hK.out _ _ (SK.out _ O1.out) (fun hHeld => ?_)
              clear hK K
              try simp only [Act.put, List.setIfInBounds_toArray, List.set_cons_zero, List.set_cons_succ]
              refine wpAnyH_ready (rs := [9]) (by kernel_rfl) (by simp) ?_
              refine AllReadyH.cons rfl (fun K hK => ?_) AllReadyH.nil
              rw [if_pos (by kernel_rfl)]
              refine step_boxV wz1 (.tmp 73) (by kernel_rfl) ds D6.out (by kernel_rfl) ?_
              have F3 := Lib.hid (F1.out.still (still_new wz1 (.cells ds.toArray 26)))
              have O3 := Lib.hid (O1.out.alloc (.cells ds.toArray 26))
              have V3 := Lib.hid (HasW.keep (fun b _ hl => (still_new wz1 (.cells ds.toArray 26)).block b hl) (still_new wz1 (.cells ds.toArray 26)).size (fun _ h _ => h) _ _ V1.out)
              have LK := Lib.hid (Blk.new wz1 26 ds.toArray)
              obtain ⟨bk, hbk⟩ : ∃ bk, bk = wz1.heap.size := ⟨_, rfl⟩
              rw [← hbk] at LK ⊢
              obtain ⟨wz3, hwz3⟩ : ∃ W, W = wz1.alloc (.cells ds.toArray 26) := ⟨_, rfl⟩
              rw [← hwz3] at F3 O3 V3 LK ⊢
              clear hwz3 hbk
              refine hK.out _ _ (SK.out _ O3.out) (fun hHeld => ?_)
              clear hK K
              try simp only [Act.put, List.setIfInBounds_toArray, List.set_cons_zero, List.set_cons_succ]
              refine wpAnyH_ready (rs := [10]) (by kernel_rfl) (by simp) ?_
              refine AllReadyH.cons (o := ⟨some 75, .call { callee := .builtin .append, args := #[.tmp 66, .tmp 74], argTypes := #[24, 24] }, _, _, _, none⟩) rfl (fun K hK => ?_) AllReadyH.nil
              rw [if_pos (by kernel_rfl)]
              refine step_pushV wz3 (.tmp 66) (.tmp 74) (by kernel_rfl) wd.heap.size (.slice Aq j cq) j xs (by kernel_rfl) F3.out.own bk ds (by kernel_rfl) (fun q u hq => (LK.out.cell q).trans (by simpa using hq)) D6.out (fun u hu => (Array.all_eq_true_iff_forall_mem.1 DALL.out) u (by simpa using hu)) (by have := JL.out; omega) F3.out.size ?_
              intro vk wz4 own gr loc
              obtain ⟨Av, cv, rfl, _⟩ := own_formG own
              have FB := F3.out.push D6.out V3.out own gr loc
              have FP := Lib.hid FB.2
              have BP := Lib.hid FB.1
              have O4 := Lib.hid (O3.out.push gr (fun b e => by have h1 := (F3.out.own.lt b e).1; have h2 := WD.out; omega))
              clear FB own gr loc LK
              refine hK.out _ _ (SK.out _ O4.out) (fun hHeld => ?_)
              clear hK K
              try simp only [Act.put, List.setIfInBounds_toArray, List.set_cons_zero, List.set_cons_succ]
              refine wpAnyH_take (i := 11) (oi := ⟨some 76, .fieldAddr 26 (.tmp 5) 5, _, _, _, none⟩) (v := .pointer (some ⟨g5, 5, none⟩)) rfl (by kernel_rfl) (by kernel_rfl) (by kernel_rfl) (fun _ _ _ h => h) (Or.inl ⟨by kernel_rfl, fun w hS => by obtain ⟨h0, h1⟩ := hS; go_simp⟩) (by assumption) ?_
              simp only [Act.put, List.setIfInBounds_toArray, List.set_cons_zero, List.set_cons_succ]
              refine wpAnyH_ready (rs := [12]) (by kernel_rfl) (by simp) ?_
              refine AllReadyH.cons (o := ⟨none, .store 24 (.tmp 76) (.tmp 75), _, _, _, none⟩) rfl (fun K hK => ?_) AllReadyH.nil
              rw [if_pos (by kernel_rfl)]
              refine step_storeC wz4 24 (.tmp 76) (.tmp 75) (by kernel_rfl) g5 5 (.slice Av (j + 1) cv) (.slice Aq j cq) (by kernel_rfl) (by kernel_rfl) rfl (by kernel_rfl) (BP.out.cell 5) (BP.out.frozen 5) ?_
              refine hK.out _ _ (SK.out _ (O4.out.setc FA.out.lo _)) (fun hHeld => ?_)
              clear hK K
              try simp only [Act.put, List.setIfInBounds_toArray, List.set_cons_zero, List.set_cons_succ]
              refine wpAnyH_done (by kernel_rfl) ?_ _
              have ACC := Lib.hid (NEXT.out _ _ _ FP.out)
              clear FP BP hHeld
              go_wp2_with fail
              go_roundw
              case rel => exact ⟨j + 1, by have := JL.out; omega, by have := JL.out; omega, by go_num, ACC.out⟩
              case measure => simp [intOf]; have := JL.out; omega
            · skip
              rw [if_pos (by kernel_rfl)]
              refine step_boxV wz1 (.tmp 73) (by kernel_rfl) ds D6.out (by kernel_rfl) ?_
              have F2 := Lib.hid (F1.out.still (still_new wz1 (.cells ds.toArray 26)))
              have O2 := Lib.hid (O1.out.alloc (.cells ds.toArray 26))
              have V2 := Lib.hid (HasW.keep (fun b _ hl => (still_new wz1 (.cells ds.toArray 26)).block b hl) (still_new wz1 (.cells ds.toArray 26)).size (fun _ h _ => h) _ _ V1.out)
              have LK := Lib.hid (Blk.new wz1 26 ds.toArray)
              obtain ⟨bk, hbk⟩ : ∃ bk, bk = wz1.heap.size := ⟨_, rfl⟩
              rw [← hbk] at LK ⊢
              obtain ⟨wz2, hwz2⟩ : ∃ W, W = wz1.alloc (.cells ds.toArray 26) := ⟨_, rfl⟩
              rw [← hwz2] at F2 O2 V2 LK ⊢
              clear hwz2 hbk
              refine hK.out _ _ (SK.out _ O2.out) (fun hHeld => ?_)
              clear hK K
              try simp only [Act.put, List.setIfInBounds_toArray, List.set_cons_zero, List.set_cons_succ]
              refine wpAnyH_ready (rs := [1]) (by kernel_rfl) (by simp) ?_
              refine AllReadyH.cons rfl (fun K hK => ?_) AllReadyH.nil
              have cq3 : wz2.cell? ⟨g5, 5, none⟩ = some (.slice Aq j cq) := F2.out.bx.cell 5
              go_simp
              clear cq3
              refine hK.out _ _ (SK.out _ O2.out) (fun hHeld => ?_)
              clear hK K
              try simp only [Act.put, List.setIfInBounds_toArray, List.set_cons_zero, List.set_cons_succ]
              refine wpAnyH_ready (rs := [10]) (by kernel_rfl) (by simp) ?_
              refine AllReadyH.cons (o := ⟨some 75, .call { callee := .builtin .append, args := #[.tmp 66, .tmp 74], argTypes := #[24, 24] }, _, _, _, none⟩) rfl (fun K hK => ?_) AllReadyH.nil
              rw [if_pos (by kernel_rfl)]
              refine step_pushV wz2 (.tmp 66) (.tmp 74) (by kernel_rfl) wd.heap.size (.slice Aq j cq) j xs (by kernel_rfl) F2.out.own bk ds (by kernel_rfl) (fun q u hq => (LK.out.cell q).trans (by simpa using hq)) D6.out (fun u hu => (Array.all_eq_true_iff_forall_mem.1 DALL.out) u (by simpa using hu)) (by have := JL.out; omega) F2.out.size ?_
              intro vk wz4 own gr loc
              obtain ⟨Av, cv, rfl, _⟩ := own_formG own
              have FB := F2.out.push D6.out V2.out own gr loc
              have FP := Lib.hid FB.2
              have BP := Lib.hid FB.1
              have O4 := Lib.hid (O2.out.push gr (fun b e => by have h1 := (F2.out.own.lt b e).1; have h2 := WD.out; omega))
              clear FB own gr loc LK
              refine hK.out _ _ (SK.out _ O4.out) (fun hHeld => ?_)
              clear hK K
              try simp only [Act.put, List.setIfInBounds_toArray, List.set_cons_zero, List.set_cons_succ]
              refine wpAnyH_take (i := 11) (oi := ⟨some 76, .fieldAddr 26 (.tmp 5) 5, _, _, _, none⟩) (v := .pointer (some ⟨g5, 5, none⟩)) rfl (by kernel_rfl) (by kernel_rfl) (by kernel_rfl) (fun _ _ _ h => h) (Or.inl ⟨by kernel_rfl, fun w hS => by obtain ⟨h0, h1⟩ := hS; go_simp⟩) (by assumption) ?_
              simp only [Act.put, List.setIfInBounds_toArray, List.set_cons_zero, List.set_cons_succ]
              refine wpAnyH_ready (rs := [12]) (by kernel_rfl) (by simp) ?_
              refine AllReadyH.cons (o := ⟨none, .store 24 (.tmp 76) (.tmp 75), _, _, _, none⟩) rfl (fun K hK => ?_) AllReadyH.nil
              rw [if_pos (by kernel_rfl)]
              refine step_storeC wz4 24 (.tmp 76) (.tmp 75) (by kernel_rfl) g5 5 (.slice Av (j + 1) cv) (.slice Aq j cq) (by kernel_rfl) (by kernel_rfl) rfl (by kernel_rfl) (BP.out.cell 5) (BP.out.frozen 5) ?_
              refine hK.out _ _ (SK.out _ (O4.out.setc FA.out.lo _)) (fun hHeld => ?_)
              clear hK K
              try simp only [Act.put, List.setIfInBounds_toArray, List.set_cons_zero, List.set_cons_succ]
              refine wpAnyH_done (by kernel_rfl) ?_ _
              have ACC := Lib.hid (NEXT.out _ _ _ FP.out)
              clear FP BP hHeld
              go_wp2_with fail
              go_roundw
              case rel => exact ⟨j + 1, by have := JL.out; omega, by have := JL.out; omega, by go_num, ACC.out⟩
              case measure => simp [intOf]; have := JL.out; omega
        · have DONE := HDJ.out
          rw [fewL_stop j l mj hlt] at DONE
          have HDONE := Lib.hid (show D = (.mk k i B7 t7 ((ks.take 40).map (shB 100)) al, mj) by rw [HD.out, DONE]; simp)
          have B4 := Lib.hid (show Blk wr (g2 + 1) 26 cellsZ from (OLD.out.block (g2 + 1) (by have := SZB.out; have := HG2.out; omega) (by have := HLT.out; have := HG2.out; omega)).trans B4B.out)
          have dd : (¬ (j : Int) < (l.length : Int)) ∨ ((j : Int) < (l.length : Int) ∧ ¬ (j : Int) < 40) ∨ ((j : Int) < (l.length : Int) ∧ (j : Int) < 40 ∧ ¬ (0 : Int) < (mj : Int)) := by omega
          have J40 := Lib.hid hj40
          clear DONE hlt HDJ hj hj40
          have FINAL := Lib.hid (show ∀ w', w' = wr.setRow (g2 + 1) #[.int .i64 k, .int .i64 i, .slice A7 B7.length c7, .string t7, .slice Ak5 n5 ck5, .slice Aq j cq] → (∃ ds : List Value, Ending.returned (.agg #[.int .i64 k, .int .i64 i, .slice A7 B7.length c7, .string t7, .slice Ak5 n5 ck5, .slice Aq j cq]) = .returned (.agg ds.toArray) ∧ ds.length = 6 ∧ ds.toArray.all (·.oneCell') = true ∧ HasW w' (fun b => w.heap.size ≤ b) D.1 ds.toArray) ∧ Blk w' gl 3 #[.int .i64 (D.2 : Int)] ∧ w.grownBy w' (some gl) from by
            rintro w' rfl
            have f := F.out
            have f5 := F5.out
            have fa := FA.out
            have z1 := SZB.out
            have z2 := HG2.out
            have z3 := HLT.out
            have z4 := fa.lo
            have z5 := fa.st.size
            have z6 := f5.gr.size
            have z7 := f.size
            have so : ∀ q, q ≠ g2 + 1 → (wr.setRow (g2 + 1) #[.int .i64 k, .int .i64 i, .slice A7 B7.length c7, .string t7, .slice Ak5 n5 ck5, .slice Aq j cq]).heap[q]? = wr.heap[q]? := fun q hq => setRow_other wr (g2 + 1) q _ hq
            have own7 := own_of_block fa.own (w' := wr.setRow (g2 + 1) #[.int .i64 k, .int .i64 i, .slice A7 B7.length c7, .string t7, .slice Ak5 n5 ck5, .slice Aq j cq]) (fun q hq => by
              have h1 := fa.own.lt q hq
              have h2 : q ≠ g5 := fun e => fa.ne (e ▸ hq)
              rw [so q (by omega), f.block q (by omega) h2 (by omega)]
              exact f5.gr.block q h1.2 (fun e => h2 (Option.some.inj e)))
            have ownk := own_of_block f5.own (w' := wr.setRow (g2 + 1) #[.int .i64 k, .int .i64 i, .slice A7 B7.length c7, .string t7, .slice Ak5 n5 ck5, .slice Aq j cq]) (fun q hq => by
              have h1 := f5.own.lt q hq
              have h2 : q ≠ g5 := fun e => f5.ne (e ▸ hq)
              rw [so q (by omega), f.block q (by omega) h2 (by omega)])
            have ownl := own_of_block f.own (w' := wr.setRow (g2 + 1) #[.int .i64 k, .int .i64 i, .slice A7 B7.length c7, .string t7, .slice Ak5 n5 ck5, .slice Aq j cq]) (fun q hq => by
              have h1 := f.own.lt q hq
              rw [so q (by omega)])
            have row := HasRW.keep (w' := wr.setRow (g2 + 1) #[.int .i64 k, .int .i64 i, .slice A7 B7.length c7, .string t7, .slice Ak5 n5 ck5, .slice Aq j cq]) (Q := fun b => w.heap.size ≤ b) (fun q hq hl => so q (fun e => by have := hq.1; omega)) (by simp [World.setRow]) (fun q hq _ => by have := hq.1; omega) _ _ f.row
            rw [HDONE.out]
            refine ⟨⟨[.int .i64 k, .int .i64 i, .slice A7 B7.length c7, .string t7, .slice Ak5 n5 ck5, .slice Aq j cq], rfl, rfl, by simp [Value.oneCell'], ?_⟩, (so gl (by omega)).trans f.bl, ?_⟩
            · exact few_fin HKB.out HIB.out own7 (by omega) HT7.out ownk (by omega) (by have := f5.own.1; simpa using this) (fun s hs => by
                obtain ⟨s0, _, rfl⟩ := List.mem_map.1 hs
                exact shB_size 100 s0) N5.out ownl (by omega) row (fun b hb => hb) HAL.out J40.out
            · have gb := GB.out
              refine ⟨f.os.trans (f5.gr.os.trans (fa.st.os.trans gb.os)), f.tape.trans (f5.gr.tape.trans (fa.st.tape.trans gb.tape)), f.output.trans (f5.gr.output.trans (fa.st.output.trans gb.output)), by simp [World.setRow]; omega, fun q hq hne => ?_⟩
              rw [so q (by omega)]
              exact (OLD.out.block q (by omega) (fun e => hne (by rw [e]))).trans (gb.block q hq hne))
          rcases dd with d1 | ⟨d1, d2⟩ | ⟨d1, d2, d3⟩
          all_goals
            go_wp2_with (first
              | (guard_target =~ wpList _ _ _ (Oper.mk (some 77) _ _ _ _ _ :: _) _ _; go_must (refine wpList_load_row rfl 26 (.tmp 5) rfl g5 rfl _ _ _ _ F.out.bx (Tryd.underlying26) rfl (by rw [sizeValue]; rfl) ?_))
              | (guard_target =~ wpList _ _ _ (Oper.mk none (Op.store _ (Operand.tmp 4) _) _ _ _ _ :: _) _ _; go_must (refine wpList_store_rowTo rfl 26 (.tmp 4) (.tmp 77) rfl rfl (g2 + 1) #[.int .i64 k, .int .i64 i, .slice A7 B7.length c7, .string t7, .slice Ak5 n5 ck5, .slice Aq j cq] rfl rfl 26 _ B4.out (by rw [sizeValue]; rfl) (by rfl) (by simp [Value.oneCell']) ?_)))
            refine bodyPost_ret (results_cell_row rfl _ _ (g2 + 1) _ _ _ _ rfl (setRow_heap wr _ _ _ _ _ B4.out) (Tryd.underlying26) rfl (by rw [sizeValue]; rfl)) rfl ?_
            obtain ⟨⟨ds, q1, q2, q3, q4⟩, q5⟩ := FINAL.out _ rfl
            exact ⟨⟨ds, q1, q2, by first | exact q3 | simpa using q3, q4⟩, q5⟩
end Go.Proofs.YtmjijajndeihaaaDoor

/- The document's own small values, called. It proves no statement. -/

namespace Go.Proofs.YtmjijajndeihaaaDoor
open Go.RowKit
set_option linter.unusedVariables false
set_option linter.unusedSimpArgs false

mutual
theorem few_any : ∀ (x : Tr), FewOK x
  | .mk k i b t ks l => few_mk k i b t ks l (few_anyL l)
theorem few_anyL : ∀ (l : List Tr), ∀ x ∈ l, FewOK x
  | [], x, h => by simp at h
  | y :: r, x, h => by
    rcases List.mem_cons.1 h with h | h
    · rw [h]; exact few_any y
    · exact few_anyL r x h
end
/-- The small value of a value. -/
def smallT (x : Tr) : Tr := (fewT x 60).1
theorem smallT_sm (x : Tr) : smT (smallT x) := few_sm x 60

set_option maxRecDepth 100000 in
set_option maxHeartbeats 1600000 in
theorem small_any (x : Tr) (w : World) (P : Nat → Prop) (cs : Array Value) (hv : HasW w P x cs) :
    Calls Tryd.prog 5 #[.agg cs] w fun e w' => (∃ ds : List Value, e = .returned (.agg ds.toArray) ∧ ds.length = 6 ∧ ds.toArray.all (·.oneCell') = true ∧ HasW w' (fun b => w.heap.size ≤ b) (smallT x) ds.toArray) ∧ Still w w' := by
  have h6 := HasW.size _ _ hv
  have hone := HasW.one _ _ hv
  obtain ⟨lx⟩ := cs
  obtain ⟨wA, hA, sA, b1, b2⟩ := two_boxes w lx.toArray cellsZ
  have hvA : HasW wA (fun b => P b ∧ b < w.heap.size) x lx.toArray := HasW.keep (fun b _ hl => sA.block b hl) sA.size (fun b hp hl => ⟨hp, hl⟩) _ _ hv
  obtain ⟨wB, hB⟩ : ∃ wB, wB = wA.alloc (.cells #[.int .i64 60] 3) := ⟨_, rfl⟩
  have sB : Still wA wB := by rw [hB]; exact (Still.refl wA).alloc (Nat.le_refl _) _
  have bl : Blk wB wA.heap.size 3 #[.int .i64 60] := by rw [hB]; exact Blk.new _ _ _
  have hz : wA.heap.size = w.heap.size + 2 := by rw [hA]; simp
  have hvB : HasW wB (fun b => P b ∧ b < w.heap.size) x lx.toArray := HasW.keep (fun b _ hl => sB.block b hl) sB.size (fun b hp _ => hp) _ _ hvA
  have FEW := Lib.hid (few_any x wB (fun b => P b ∧ b < w.heap.size) lx.toArray wA.heap.size 60 hvB (fun b hp => by omega) bl (by omega) (by omega))
  have FEW' : Hid (Calls Tryd.prog 16 #[.agg lx.toArray, .pointer (some ⟨wA.heap.size, 0, none⟩)] wB fun e w' => (∃ ds : List Value, e = .returned (.agg ds.toArray) ∧ ds.length = 6 ∧ ds.toArray.all (·.oneCell') = true ∧ HasW w' (fun b => wB.heap.size ≤ b) (smallT x) ds.toArray) ∧ Blk w' wA.heap.size 3 #[.int .i64 ((fewT x 60).2 : Int)] ∧ wB.grownBy w' (some wA.heap.size)) := FEW
  obtain ⟨gl, hgl⟩ : ∃ gl, gl = wA.heap.size := ⟨_, rfl⟩
  rw [← hgl] at FEW' bl
  obtain ⟨tx, htx⟩ : ∃ tx, tx = smallT x := ⟨_, rfl⟩
  rw [← htx] at FEW' ⊢
  have HA := Lib.hid hA
  have HB := Lib.hid hB
  have HGL := Lib.hid hgl
  have SA := Lib.hid sA
  have SB := Lib.hid (sA.trans sB)
  have B1 := Lib.hid (b1.still sB)
  have B2 := Lib.hid (b2.still sB)
  have HZ := Lib.hid (show gl = w.heap.size + 2 by omega)
  have H6 := Lib.hid (show lx.length = 6 by simpa using h6)
  have SZB := Lib.hid (show wB.heap.size = w.heap.size + 3 by rw [hB]; simp; omega)
  obtain ⟨fs, hu⟩ := underValue
  have HU := Lib.hid hu
  obtain ⟨g1, hg1⟩ : ∃ g1, g1 = w.heap.size := ⟨_, rfl⟩
  have HG1 := Lib.hid hg1
  rw [← hg1] at B1 B2
  clear hA hB hgl sA sB b1 b2 hvA hvB bl hz FEW htx h6 hone hv hu hg1
  go_enter Tryd.func5, Tryd.ntmps5
  go_upto_region 0 with fail
  refine wp_region_lit ?_
  refine wpList_box_arr rfl 26 (.tmp 0) rfl (some 1) rfl _ rfl ?_
  go_upto_region 1 with fail
  rw [show ((w.alloc (.cells lx.toArray 26)).alloc (.cells #[.int .i64 0, .int .i64 0, .slice none 0 0, .string ⟨#[]⟩, .slice none 0 0, .slice none 0 0] 26)) = wA from HA.out.symm]
  go_upto_region 2 with fail
  rw [← HB.out, ← HGL.out, ← HG1.out]
  refine wp_region_lit ?_
  refine wpList_load_row rfl 26 (.tmp 1) rfl g1 rfl _ _ _ _ B1.out HU.out rfl (by rw [sizeValue]; simp [H6.out]) ?_
  go_wp2_with fail
  refine FEW'.out.mono ?_
  rintro e w1 ⟨⟨ds, rfl, hd6, hdall, hdv⟩, _, gr⟩
  have D6 := Lib.hid hd6
  have DALL := Lib.hid hdall
  have DV := Lib.hid hdv
  have GR := Lib.hid gr
  have B21 : Hid (Blk w1 (g1 + 1) 26 cellsZ) := Lib.hid ((gr.block (g1 + 1) B2.out.lt (fun e => by have := Option.some.inj e; have := HZ.out; have := HG1.out; omega)).trans B2.out)
  clear hd6 hdall hdv gr FEW'
  go_wp2_with (guard_target =~ wpList _ _ _ (Oper.mk none (Op.store _ _ _) _ _ _ _ :: _) _ _; go_must (refine wpList_store_rowTo rfl 26 (.tmp 2) (.tmp 5) rfl rfl (g1 + 1) ds.toArray rfl rfl 26 _ B21.out (by rw [sizeValue]; simp [D6.out]) (by simp [D6.out, cellsZ]) DALL.out ?_))
  refine bodyPost_ret (results_cell_row rfl _ _ (g1 + 1) _ _ _ _ rfl (setRow_heap w1 _ _ _ _ _ B21.out) HU.out rfl (by rw [sizeValue]; simp [D6.out])) rfl ?_
  have z1 := HZ.out
  have z2 := HG1.out
  have z3 := SZB.out
  have z4 := GR.out.size
  refine ⟨⟨ds, rfl, D6.out, by first | exact DALL.out | simpa using DALL.out, HasW.keep (fun b hb hl => setRow_other w1 (g1 + 1) b _ (by omega)) (by simp [World.setRow]) (fun b hb _ => by omega) _ _ DV.out⟩, ?_⟩
  have st : Still w w1 := ⟨GR.out.os.trans SB.out.os, GR.out.tape.trans SB.out.tape, GR.out.output.trans SB.out.output, Nat.le_trans SB.out.size GR.out.size, fun q hq => (GR.out.block q (by omega) (fun e => by have := Option.some.inj e; omega)).trans (SB.out.block q hq)⟩
  exact below_setRow st (by omega) _
end Go.Proofs.YtmjijajndeihaaaDoor
