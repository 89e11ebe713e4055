/- Facts for a row of readings: what Take does whatever is asked; a store into what was handed out. It proves no statement. -/
import Derived.Test.YtammhjkdjkgpdaaRref
import Derived.Deep.SlicePairs
namespace Go.Proofs.Ytammhjkdjkgpdaa
open Go.RowKit
set_option linter.unusedVariables false
set_option linter.unusedSimpArgs false

theorem rtake_any {w : World} {B g : Nat} {A : Option Addr} {n c : Nat} {L : List UInt8} {at_ : Nat} {x : Int} (h : RRd w B g A n c L at_ x) (y : Int) (num : Bool) :
    Calls Try.prog 28 #[.pointer (some ⟨g, 0, none⟩), .int .i64 y, .bool num] w fun e w' => ∃ v, e = .returned v ∧ Took w w' B g A n c L (rstep (L.drop at_) x y num) v := by
  by_cases hx : x = 0
  · subst hx
    by_cases hy : y < 0 ∨ (num = true ∧ (y < 1 ∨ 8 < y))
    · exact rtake_arg h y num hy
    · by_cases hs : ((L.drop at_).length : Int) < y
      · exact rtake_short h y num hy hs
      · obtain ⟨k, rfl⟩ := Int.eq_ofNat_of_zero_le (show 0 ≤ y by omega)
        refine rtake_ok h k num hy ?_
        have := h.reads.1
        have := h.here
        rw [List.length_drop] at hs
        omega
  · exact rtake_err h hx y num

theorem rend_quiet {w : World} {B g : Nat} {A : Option Addr} {n c : Nat} {L : List UInt8} {at_ : Nat} {x : Int} (h : RRd w B g A n c L at_ x) :
    Calls Try.prog 35 #[.pointer (some ⟨g, 0, none⟩)] w fun e w' => e = .returned (.int .i64 (endOf (n - at_) x)) ∧ ∃ m, w' = w.drewN m := by
  have c0 : w.cell? ⟨g, 0, none⟩ = some (.slice A n c) := h.blk.cell 0
  have c1 : w.cell? ⟨g, 1, none⟩ = some (.int .i64 at_) := h.blk.cell 1
  have c2 : w.cell? ⟨g, 2, none⟩ = some (.int .i64 x) := h.blk.cell 2
  by_cases hx : x = 0
  · subst hx
    by_cases hn : n - at_ = 0
    · have e : endOf (n - at_) 0 = 0 := by simp [endOf, hn]
      rw [e]
      have hf : decide ((at_ : Int) < n) = false := by simp; omega
      go_enter Try.func35, Try.ntmps35
      go_wp2_with fail
      go_quiet (fail)
      go_wp2_with fail
      go_ret
      exact ⟨rfl, _, rfl⟩
    · have e : endOf (n - at_) 0 = 6 := by simp [endOf, hn]
      rw [e]
      have hf : (at_ : Int) < n := by omega
      go_enter Try.func35, Try.ntmps35
      go_wp2_with fail
      go_quiet (fail)
      go_wp2_with fail
      go_ret
      exact ⟨rfl, _, rfl⟩
  · have e : endOf (n - at_) x = x := by simp [endOf, hx]
    rw [e]
    have hb : (x == 0) = false := by simpa using hx
    go_enter Try.func35, Try.ntmps35
    go_wp2_with fail
    go_quiet (fail)
    go_wp2_with fail
    go_ret
    exact ⟨rfl, _, rfl⟩

/-- A reader stays where its own block, and the blocks of its bytes, stay. -/
theorem Live.kept2 {w w' : World} {lo B g : Nat} {A : Option Addr} {n c : Nat} {l : List UInt8} {x : Int} (h : Live w lo B g A n c l x) (hk : ∀ k, lo ≤ k → k < B → w'.heap[k]? = w.heap[k]?) : Live w' lo B g A n c l x := by
  refine ⟨(hk g h.low h.high).trans h.blk, h.low, h.high, ⟨h.reads.1, fun hn => ?_⟩, fun hn => ?_, h.fit, h.cap, h.nil⟩
  · obtain ⟨b, o, e, hb, hc⟩ := h.reads.2 hn
    obtain ⟨b', o', e', hlo, hf⟩ := h.mine hn
    rw [e] at e'
    simp only [Option.some.injEq, Addr.mk.injEq, and_true] at e'
    obtain ⟨rfl, rfl⟩ := e'
    exact ⟨b, o, e, hb, fun i hi => (World.cell?_of_block (w := w) (hk b hlo hb)).trans (hc i hi)⟩
  · obtain ⟨b, o, e, hb, hc⟩ := h.reads.2 hn
    obtain ⟨b', o', e', hlo, hf⟩ := h.mine hn
    rw [e] at e'
    simp only [Option.some.injEq, Addr.mk.injEq, and_true] at e'
    obtain ⟨rfl, rfl⟩ := e'
    exact ⟨b, o, e, hlo, fun i hi => (World.frozen?_of_block (w := w) (hk b hlo hb)).trans (hf i hi)⟩

/-- A store into what was handed out leaves the reader as it was. -/
theorem Live.poke {w : World} {lo B g : Nat} {A' : Option Addr} {n' c' : Nat} {l : List UInt8} {x : Int} (h : Live w lo B g A' n' c' l x) {b o k j : Nat} {y : Int}
    (ha : Ahead (some ⟨b, o, none⟩) k A' n') (hj : j < k) (hc : w.cell? ⟨b, o + j, none⟩ = some (.int .u8 y)) (u : Value) : Live (w.setCell ⟨b, o + j, none⟩ u) lo B g A' n' c' l x := by
  have hbg : b ≠ g := byte_far h.blk hc
  refine ⟨h.blk.far (p := ⟨b, o + j, none⟩) (fun e => hbg e.symm) u, h.low, h.high, ⟨h.reads.1, fun hn => ?_⟩, fun hn => ?_, h.fit, h.cap, h.nil⟩
  · obtain ⟨b1, o1, e, hb, hcc⟩ := h.reads.2 hn
    refine ⟨b1, o1, e, hb, fun i hi => ?_⟩
    rw [World.cell?_setCell_other]
    · exact hcc i hi
    · rw [ha (by omega) hn] at e
      simp only [Option.map_some, Addr.add_lit, Option.some.injEq, Addr.mk.injEq, and_true] at e
      obtain ⟨rfl, rfl⟩ := e
      intro e2
      simp only [Addr.mk.injEq, and_true, true_and] at e2
      omega
  · obtain ⟨b1, o1, e, hb, hcc⟩ := h.mine hn
    exact ⟨b1, o1, e, hb, fun i hi => by rw [World.frozen?_setCell]; exact hcc i hi⟩
theorem RRd.far {w : World} {B g : Nat} {A : Option Addr} {n c : Nat} {L : List UInt8} {at_ : Nat} {x : Int} (h : RRd w B g A n c L at_ x) {p : Addr} (h1 : p.block ≠ g) (h2 : B ≤ p.block) (u : Value) : RRd (w.setCell p u) B g A n c L at_ x :=
  ⟨h.blk.far (fun e => h1 e.symm) u, h.high, h.reads.keep fun q hq => World.cell?_of_block (w := w) (Below.heap_setCell w p _ _ (by omega)), h.here, h.fit, h.cap, h.small, h.nil⟩
theorem RRd.grown {w w' : World} {B g r : Nat} {A : Option Addr} {n c : Nat} {L : List UInt8} {at_ : Nat} {x : Int} (h : RRd w B g A n c L at_ x) (hg : w.grownBy w' (some r)) (h1 : g ≠ r) (h2 : B ≤ r) : RRd w' B g A n c L at_ x :=
  ⟨(hg.block g h.blk.lt (fun e => h1 (by injection e))).trans h.blk, h.high, h.reads.keep fun q hq => World.cell?_of_block (w := w) (hg.block _ (by have := h.blk.lt; have := h.high; omega) (fun e => by injection e with e; omega)), h.here, h.fit, h.cap, h.small, h.nil⟩
theorem LiveAny.grown {w w' : World} {lo B g r : Nat} {l : List UInt8} {x : Int} (h : LiveAny w lo B g l x) (hg : w.grownBy w' (some r)) (h1 : B ≤ r) (h2 : B ≤ w.heap.size) : LiveAny w' lo B g l x :=
  h.kept fun k hk => hg.block k (by omega) (fun e => by injection e with e; omega)
theorem Still.grown {w0 w w' : World} {r : Nat} (h : Still w0 w) (hg : w.grownBy w' (some r)) (h1 : w0.heap.size ≤ r) : Still w0 w' :=
  Below.grown h hg h.size (fun k hk => by injection hk with hk; omega)
/-- Readings that came in. -/
def Pairs (w : World) (A : Option Addr) (n : Nat) : Prop :=
  n ≤ 9223372036854775807 ∧ ∀ i, i < n → ∃ b o kd y, A = some ⟨b, o, none⟩ ∧ b < w.heap.size ∧ w.cell? ⟨b, o + i * 2, none⟩ = some (.int .i64 kd) ∧ w.cell? ⟨b, o + i * 2 + 1, none⟩ = some (.int .i64 y)
theorem rstep_len (l : List UInt8) (x y : Int) : (rstep l x y true).2 = [] ∨ (1 ≤ (rstep l x y true).2.length ∧ (rstep l x y true).2.length ≤ 8) := by
  unfold rstep
  split
  · exact .inl rfl
  · split
    · exact .inl rfl
    · rename_i h
      split
      · exact .inl rfl
      · right
        have h2 : ¬ (y < 0 ∨ (y < 1 ∨ 8 < y)) := by simpa using h
        simp only [List.length_take]
        omega
theorem rget_any (A : Option Addr) (c : Nat) (p : List UInt8) (w : World) (B : Nat) (h : Reads w B A p.length p) (hp : p = [] ∨ (1 ≤ p.length ∧ p.length ≤ 8)) :
    Calls Try.prog 20 #[.slice A p.length c] w fun e w' => (∃ ok, e = .returned (.tuple #[.int .u64 (leNum p : Int), .bool ok])) ∧ w = w' := by
  rcases hp with rfl | ⟨h1, h2⟩
  · exact (rget_no A 0 c w (by omega)).mono fun e w' ⟨he, hw⟩ => ⟨⟨false, he⟩, hw⟩
  · exact (rget_yes A p.length c p w B h h1 h2).mono fun e w' ⟨he, hw⟩ => ⟨⟨true, he⟩, hw⟩
theorem LiveAny.drewN {w : World} {lo B g : Nat} {l : List UInt8} {x : Int} (h : LiveAny w lo B g l x) (k : Nat) : LiveAny (w.drewN k) lo B g l x := h.kept fun _ _ => rfl
/-- Bytes that were handed out, to be written over. -/
def Open9 (w : World) (M G : Nat) (A : Option Addr) (k : Nat) : Prop :=
  0 < k → ∃ b o, A = some ⟨b, o, none⟩ ∧ M ≤ b ∧ b < G ∧ ∀ i, i < k → (∃ y, w.cell? ⟨b, o + i, none⟩ = some (.int .u8 y)) ∧ w.frozen? ⟨b, o + i, none⟩ = false
theorem open9_of {w : World} {M G k : Nat} {A : Option Addr} {p : List UInt8} (h : Reads w G A k p) (m : Mine w M A k) : Open9 w M G A k := by
  intro hk
  obtain ⟨b, o, rfl, hb, hc⟩ := h.2 hk
  obtain ⟨b', o', e', hlo, hf⟩ := m hk
  simp only [Option.some.injEq, Addr.mk.injEq, and_true] at e'
  obtain ⟨rfl, rfl⟩ := e'
  exact ⟨b, o, rfl, hlo, hb, fun i hi => ⟨⟨_, hc i hi⟩, hf i hi⟩⟩
theorem Open9.still {w w' : World} {M G k : Nat} {A : Option Addr} (h : Open9 w M G A k) (hs : Still w w') (hG : G ≤ w.heap.size) : Open9 w' M G A k := by
  intro hk
  obtain ⟨b, o, rfl, h1, h2, hc⟩ := h hk
  refine ⟨b, o, rfl, h1, h2, fun i hi => ?_⟩
  obtain ⟨⟨y, hy⟩, hf⟩ := hc i hi
  exact ⟨⟨y, (hs.cell (p := ⟨b, o + i, none⟩) (by simp; omega)).trans hy⟩, (hs.frozen (p := ⟨b, o + i, none⟩) (by simp; omega)).trans hf⟩
theorem Open9.poke {w : World} {M G k b o j : Nat} (h : Open9 w M G (some ⟨b, o, none⟩) k) (z : Int) : Open9 (w.setCell ⟨b, o + j, none⟩ (.int .u8 z)) M G (some ⟨b, o, none⟩) k := by
  intro hk
  obtain ⟨b', o', e, h1, h2, hc⟩ := h hk
  refine ⟨b', o', e, h1, h2, fun i hi => ?_⟩
  simp only [Option.some.injEq, Addr.mk.injEq, and_true] at e
  obtain ⟨rfl, rfl⟩ := e
  obtain ⟨⟨y, hy⟩, hf⟩ := hc i hi
  refine ⟨?_, by rw [World.frozen?_setCell]; exact hf⟩
  by_cases e : j = i
  · subst e
    exact ⟨z, World.cell?_setCell_same w _ _ hy⟩
  · refine ⟨y, (World.cell?_setCell_other w _ _ _ ?_).trans hy⟩
    intro e2
    simp only [Addr.mk.injEq, and_true, true_and] at e2
    omega
/-- What is asked of both readers behind a reading. -/
structure Asks (w : World) (g G n at_ : Nat) (x : Int) : Prop where
  left : ∀ k, Calls Try.prog 32 #[.pointer (some ⟨g, 0, none⟩)] (w.drewN k) fun e w' => e = .returned (.int .i64 ((n : Int) - at_)) ∧ w' = w.drewN k
  err : ∀ k, Calls Try.prog 33 #[.pointer (some ⟨g, 0, none⟩)] (w.drewN k) fun e w' => e = .returned (.int .i64 x) ∧ w' = w.drewN k
  fin : ∀ k, Calls Try.prog 34 #[.pointer (some ⟨g, 0, none⟩)] (w.drewN k) fun e w' => e = .returned (.int .i64 (endOf (n - at_) x)) ∧ w' = w.drewN k
  rfin : ∀ k, Calls Try.prog 35 #[.pointer (some ⟨G, 0, none⟩)] (w.drewN k) fun e w' => e = .returned (.int .i64 (endOf (n - at_) x)) ∧ ∃ m, w' = (w.drewN k).drewN m
theorem asks_of {w : World} {lo B B' g G : Nat} {A : Option Addr} {n c at_ : Nat} {l : List UInt8} {x : Int} (lv : LiveAny w lo B g (l.drop at_) x) (rr : RRd w B' G A n c l at_ x) : Asks w g G n at_ x := by
  have hl : (l.drop at_).length = n - at_ := by rw [List.length_drop, rr.reads.1]
  have hi : ((l.drop at_).length : Int) = (n : Int) - at_ := by have := rr.here; omega
  refine ⟨fun k => ?_, fun k => ?_, fun k => ?_, fun k => rend_quiet (rr.drewN k)⟩
  · have := left_any (lv.drewN k)
    rw [hi] at this
    exact quiet_flip this
  · exact quiet_flip (err_any (lv.drewN k))
  · have := end_any (lv.drewN k)
    rw [hl] at this
    exact quiet_flip this
end Go.Proofs.Ytammhjkdjkgpdaa
