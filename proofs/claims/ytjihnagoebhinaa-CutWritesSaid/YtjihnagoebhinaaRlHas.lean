/- A roller's memory, cell by cell; what a new one is made of. It proves no statement. -/
import Derived.Test.YtjihnagoebhinaaRRlSum
import Derived.Test.YtjihnagoebhinaaBlk
import Derived.Test.YtjihnagoebhinaaAllocArr
namespace Go.Proofs.Ytjihnagoebhinaa
open Go.RowKit
set_option linter.unusedVariables false
set_option linter.unusedSimpArgs false

/-- The cells: 256 words, 63 bytes, where the next one goes, how many are kept, the window, the sum. -/
structure RC (cs : Array Value) (f R : Nat → Nat) (a k n s : Nat) : Prop where
  size : cs.size = 323
  word : ∀ i, i < 256 → cs[i]? = some (.int .u32 (f i : Nat))
  last : ∀ i, i < 63 → cs[256 + i]? = some (.int .u8 (R i : Nat))
  at_ : cs[319]? = some (.int .i64 (a : Nat))
  kept : cs[320]? = some (.int .i64 (k : Nat))
  win : cs[321]? = some (.int .i64 (n : Nat))
  sum : cs[322]? = some (.int .u32 (s : Nat))
/-- A roller at block g. -/
def RB (w : World) (g : Nat) (f R : Nat → Nat) (a k n s : Nat) : Prop := ∃ cs, Blk w g 74 cs ∧ RC cs f R a k n s
section
variable {w w' : World} {g a k n s : Nat} {f R : Nat → Nat}
theorem RB.lt (h : RB w g f R a k n s) : g < w.heap.size := by obtain ⟨cs, hb, _⟩ := h; exact hb.lt
theorem RB.wordc (h : RB w g f R a k n s) (i : Nat) (hi : i < 256) : w.cell? ⟨g, i, none⟩ = some (.int .u32 (f i : Nat)) := by obtain ⟨cs, hb, hc⟩ := h; rw [hb.cell, hc.word i hi]
theorem RB.lastc (h : RB w g f R a k n s) (i : Nat) (hi : i < 63) : w.cell? ⟨g, 256 + i, none⟩ = some (.int .u8 (R i : Nat)) := by obtain ⟨cs, hb, hc⟩ := h; rw [hb.cell, hc.last i hi]
theorem RB.atc (h : RB w g f R a k n s) : w.cell? ⟨g, 319, none⟩ = some (.int .i64 (a : Nat)) := by obtain ⟨cs, hb, hc⟩ := h; rw [hb.cell, hc.at_]
theorem RB.keptc (h : RB w g f R a k n s) : w.cell? ⟨g, 320, none⟩ = some (.int .i64 (k : Nat)) := by obtain ⟨cs, hb, hc⟩ := h; rw [hb.cell, hc.kept]
theorem RB.winc (h : RB w g f R a k n s) : w.cell? ⟨g, 321, none⟩ = some (.int .i64 (n : Nat)) := by obtain ⟨cs, hb, hc⟩ := h; rw [hb.cell, hc.win]
theorem RB.sumc (h : RB w g f R a k n s) : w.cell? ⟨g, 322, none⟩ = some (.int .u32 (s : Nat)) := by obtain ⟨cs, hb, hc⟩ := h; rw [hb.cell, hc.sum]
theorem RB.frozen (h : RB w g f R a k n s) (i : Nat) : w.frozen? ⟨g, i, none⟩ = false := by obtain ⟨cs, hb, _⟩ := h; exact hb.frozen i
theorem RB.keepb (h : RB w g f R a k n s) (e : w'.heap[g]? = w.heap[g]?) : RB w' g f R a k n s := by obtain ⟨cs, hb, hc⟩ := h; exact ⟨cs, e.trans hb, hc⟩
theorem RB.still (h : RB w g f R a k n s) (e : Still w w') : RB w' g f R a k n s := h.keepb (e.block g h.lt)
theorem RB.congr (h : RB w g f R a k n s) {f' R' : Nat → Nat} (e : ∀ i, i < 256 → f i = f' i) (e2 : ∀ i, i < 63 → R i = R' i) : RB w g f' R' a k n s := by
  obtain ⟨cs, hb, h1, h2, h3, h4, h5, h6, h7⟩ := h
  exact ⟨cs, hb, h1, fun i hi => by rw [h2 i hi, e i hi], fun i hi => by rw [h3 i hi, e2 i hi], h4, h5, h6, h7⟩
theorem set_ne {cs : Array Value} {i j : Nat} (u : Value) (h : i ≠ j) : (cs.setIfInBounds i u)[j]? = cs[j]? := by rw [Array.getElem?_setIfInBounds, if_neg h]
theorem set_eq {cs : Array Value} {i : Nat} (u : Value) (h : i < cs.size) : (cs.setIfInBounds i u)[i]? = some u := by rw [Array.getElem?_setIfInBounds, if_pos rfl, if_pos h]
theorem RB.setWord (h : RB w g f R a k n s) (i x : Nat) (hi : i < 256) : RB (w.setCell ⟨g, i, none⟩ (.int .u32 (x : Nat))) g (fun j => if j = i then x else f j) R a k n s := by
  obtain ⟨cs, hb, h1, h2, h3, h4, h5, h6, h7⟩ := h
  refine ⟨_, hb.setc i _, by simpa using h1, fun j hj => ?_, fun j hj => by rw [set_ne _ (by omega), h3 j hj], ?_, ?_, ?_, ?_⟩
  · by_cases e : j = i
    · subst e
      rw [set_eq _ (by omega), if_pos rfl]
    · rw [set_ne _ (fun x => e x.symm), h2 j hj, if_neg e]
  all_goals rw [set_ne _ (by omega)]; assumption
theorem RB.setLast (h : RB w g f R a k n s) (i x : Nat) (hi : i < 63) : RB (w.setCell ⟨g, 256 + i, none⟩ (.int .u8 (x : Nat))) g f (fun j => if j = i then x else R j) a k n s := by
  obtain ⟨cs, hb, h1, h2, h3, h4, h5, h6, h7⟩ := h
  refine ⟨_, hb.setc (256 + i) _, by simpa using h1, fun j hj => by rw [set_ne _ (by omega), h2 j hj], fun j hj => ?_, ?_, ?_, ?_, ?_⟩
  · by_cases e : j = i
    · subst e
      rw [set_eq _ (by omega), if_pos rfl]
    · rw [set_ne _ (by omega), h3 j hj, if_neg e]
  all_goals rw [set_ne _ (by omega)]; assumption
theorem RB.setAt (h : RB w g f R a k n s) (x : Nat) : RB (w.setCell ⟨g, 319, none⟩ (.int .i64 (x : Nat))) g f R x k n s := by
  obtain ⟨cs, hb, h1, h2, h3, h4, h5, h6, h7⟩ := h
  refine ⟨_, hb.setc 319 _, by simpa using h1, fun j hj => by rw [set_ne _ (by omega), h2 j hj], fun j hj => by rw [set_ne _ (by omega), h3 j hj], set_eq _ (by omega), ?_, ?_, ?_⟩
  all_goals rw [set_ne _ (by omega)]; assumption
theorem RB.setKept (h : RB w g f R a k n s) (x : Nat) : RB (w.setCell ⟨g, 320, none⟩ (.int .i64 (x : Nat))) g f R a x n s := by
  obtain ⟨cs, hb, h1, h2, h3, h4, h5, h6, h7⟩ := h
  refine ⟨_, hb.setc 320 _, by simpa using h1, fun j hj => by rw [set_ne _ (by omega), h2 j hj], fun j hj => by rw [set_ne _ (by omega), h3 j hj], ?_, set_eq _ (by omega), ?_, ?_⟩
  all_goals rw [set_ne _ (by omega)]; assumption
theorem RB.setSum (h : RB w g f R a k n s) (x : Nat) : RB (w.setCell ⟨g, 322, none⟩ (.int .u32 (x : Nat))) g f R a k n x := by
  obtain ⟨cs, hb, h1, h2, h3, h4, h5, h6, h7⟩ := h
  refine ⟨_, hb.setc 322 _, by simpa using h1, fun j hj => by rw [set_ne _ (by omega), h2 j hj], fun j hj => by rw [set_ne _ (by omega), h3 j hj], ?_, ?_, ?_, set_eq _ (by omega)⟩
  all_goals rw [set_ne _ (by omega)]; assumption
end

/-- Whether cells are a roller's noughts, but for the window. -/
def isU32 : Value → Bool | .int .u32 (.ofNat 0) => true | _ => false
def isU8 : Value → Bool | .int .u8 (.ofNat 0) => true | _ => false
def isI64 : Value → Bool | .int .i64 (.ofNat 0) => true | _ => false
def newC (cs : Array Value) : Bool := cs.size == 323 && (cs.toList.take 256).all isU32 && ((cs.toList.drop 256).take 63).all isU8 && (match cs[319]? with | some v => isI64 v | none => false) && (match cs[320]? with | some v => isI64 v | none => false) && (match cs[322]? with | some v => isU32 v | none => false)
theorem isU32_is {v : Value} (h : isU32 v = true) : v = .int .u32 ((0 : Nat) : Int) := by
  unfold isU32 at h
  split at h
  · rfl
  · cases h
theorem isU8_is {v : Value} (h : isU8 v = true) : v = .int .u8 ((0 : Nat) : Int) := by
  unfold isU8 at h
  split at h
  · rfl
  · cases h
theorem isI64_is {v : Value} (h : isI64 v = true) : v = .int .i64 ((0 : Nat) : Int) := by
  unfold isI64 at h
  split at h
  · rfl
  · cases h
theorem opt_is {p : Value → Bool} {o : Option Value} (h : (match o with | some v => p v | none => false) = true) : ∃ v, o = some v ∧ p v = true := by
  cases o with
  | none => cases h
  | some v => exact ⟨v, rfl, h⟩
theorem newC_is {cs : Array Value} {n : Nat} (h : newC cs = true) (hn : cs[321]? = some (.int .i64 (n : Nat))) : RC cs (fun _ => 0) (fun _ => 0) 0 0 n 0 := by
  unfold newC at h
  simp only [Bool.and_eq_true, beq_iff_eq, List.all_eq_true] at h
  obtain ⟨⟨⟨⟨⟨h1, h2⟩, h3⟩, h4⟩, h5⟩, h6⟩ := h
  obtain ⟨v4, e4, h4⟩ := opt_is h4
  obtain ⟨v5, e5, h5⟩ := opt_is h5
  obtain ⟨v6, e6, h6⟩ := opt_is h6
  refine ⟨h1, fun i hi => ?_, fun i hi => ?_, by rw [e4, isI64_is h4], by rw [e5, isI64_is h5], hn, by rw [e6, isU32_is h6]⟩
  · have hlt : i < cs.size := by omega
    rw [Array.getElem?_eq_getElem hlt, isU32_is (h2 cs[i] ?_)]
    rw [List.mem_take_iff_getElem]
    exact ⟨i, by simp; omega, by simp⟩
  · have hlt : 256 + i < cs.size := by omega
    rw [Array.getElem?_eq_getElem hlt, isU8_is (h3 cs[256 + i] ?_)]
    rw [List.mem_take_iff_getElem]
    exact ⟨i, by simp; omega, by simp⟩
def okO (o : Option (Array Value)) : Bool := match o with | some cs => newC cs | none => false
set_option maxRecDepth 1000000 in
theorem built_ok (x : Int) : okO (Try.prog.built 74 [(4, .int .i64 x)]) = true := by kernel_rfl
set_option maxRecDepth 1000000 in
theorem built_win (x : Int) : (Try.prog.built 74 [(4, .int .i64 x)]).map (fun c => c[321]?) = some (some (.int .i64 x)) := by kernel_rfl
/-- What a new roller is made of. -/
theorem built_new (n : Nat) : ∃ cs, Try.prog.built 74 [(4, .int .i64 (n : Nat))] = some cs ∧ RC cs (fun _ => 0) (fun _ => 0) 0 0 n 0 := by
  have h1 := built_ok (n : Nat)
  have h2 := built_win (n : Nat)
  revert h1 h2
  generalize Try.prog.built 74 [(4, .int .i64 (n : Nat))] = o
  intro h1 h2
  cases o with
  | none => cases h1
  | some cs => exact ⟨cs, rfl, newC_is h1 (by simpa using h2)⟩
end Go.Proofs.Ytjihnagoebhinaa
