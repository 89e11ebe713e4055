/- What holds while chunks that a cutter tells are gathered. It proves no statement. -/
import Derived.Test.YtjihnagoebhinaaCtWrite
import Derived.Test.YtjihnagoebhinaaCutSizesWalk
namespace Go.Proofs.Ytjihnagoebhinaa
open Go.RowKit
set_option linter.unusedVariables false
set_option linter.unusedSimpArgs false

structure PcMid (wr : World) (base g f r : Nat) (v : Value) (s : Shp) (l0 : List UInt8) (gv : Value) (got : List (List UInt8)) (xs : List Value) : Prop where
  cb : CB wr base g f r v s l0
  own : wr.ownsRow base 25 1 gv got.length xs
  rows : Rows wr (fun k => gv.ownBlock ≠ some k ∧ ¬ Cs g f r v k) xs got
  apart : ∀ k, gv.ownBlock = some k → ¬ Cs g f r v k
section
variable {wr w' w2 w3 : World} {base g f r : Nat} {v v' gv gv' : Value} {s : Shp} {l0 l1 : List UInt8} {got L : List (List UInt8)} {xs ys : List Value}
theorem cs_turn (hheld : ∀ k, v'.ownBlock = some k → v.ownBlock = some k ∨ wr.heap.size ≤ k) (k : Nat) (hk : k < wr.heap.size) (h : ¬ Cs g f r v k) : ¬ Cs g f r v' k := by
  rintro (h1 | h1 | h1 | h1)
  · exact h (.inl h1)
  · exact h (.inr (.inl h1))
  · exact h (.inr (.inr (.inl h1)))
  · rcases hheld k h1 with h2 | h2
    · exact h (.inr (.inr (.inr h2)))
    · omega
theorem PcMid.wrote (h : PcMid wr base g f r v s l0 gv got xs) (cb' : CB w' base g f r v' s l1) (hheld : ∀ k, v'.ownBlock = some k → v.ownBlock = some k ∨ wr.heap.size ≤ k) (c : Chg wr w' (Cs g f r v)) : PcMid w' base g f r v' s l1 gv got xs := by
  refine ⟨cb', c.own h.own (fun k hk => h.apart k hk), ?_, fun k hk => cs_turn hheld k (own_block_lt h.own k hk) (h.apart k hk)⟩
  exact ((h.rows.mono (Q := fun k => gv.ownBlock ≠ some k ∧ ¬ Cs g f r v k ∧ ¬ Cs g f r v' k) (fun k hk hk2 => ⟨hk.1, hk.2, cs_turn hheld k hk2 hk.2⟩)).chg c (fun k hk _ => hk.2.1)).mono (fun k hk _ => ⟨hk.1, hk.2.2⟩)
theorem PcMid.still (h : PcMid wr base g f r v s l0 gv got xs) (t : Still wr w') : PcMid w' base g f r v s l0 gv got xs :=
  ⟨h.cb.still t, still_own h.own t, h.rows.still t, h.apart⟩
theorem PcMid.more {Q : Nat → Prop} (h : PcMid w2 base g f r v s l0 gv got xs) (hr : Rows w2 Q ys L) (hQ : ∀ k, Q k → k < w2.heap.size → gv.ownBlock ≠ some k ∧ ¬ Cs g f r v k) (o3 : w3.ownsRow base 25 1 gv' (got.length + L.length) (xs ++ ys)) (g3 : w2.grownBy w3 gv.ownBlock) (hgv : ∀ k, gv'.ownBlock = some k → gv.ownBlock = some k ∨ w2.heap.size ≤ k) :
    PcMid w3 base g f r v s l0 gv' (got ++ L) (xs ++ ys) := by
  have c3 := Chg.of_grown g3 (S := fun k => gv.ownBlock = some k) (fun k hk _ => hk)
  have hne : ∀ k, k < w2.heap.size → gv.ownBlock ≠ some k → gv'.ownBlock ≠ some k := fun k hk hn e => by
    rcases hgv k e with h1 | h1
    · exact hn h1
    · omega
  refine ⟨h.cb.chg c3 (fun k hk e => h.apart k e hk), by rw [List.length_append]; exact o3, ?_, fun k hk => ?_⟩
  · have q1 := h.rows.mono (Q := fun k => (gv'.ownBlock ≠ some k ∧ ¬ Cs g f r v k) ∧ gv.ownBlock ≠ some k) (fun k hk hk2 => ⟨⟨hne k hk2 hk.1, hk.2⟩, hk.1⟩)
    have q2 := hr.mono (Q := fun k => (gv'.ownBlock ≠ some k ∧ ¬ Cs g f r v k) ∧ gv.ownBlock ≠ some k) (fun k hk hk2 => ⟨⟨hne k hk2 (hQ k hk hk2).1, (hQ k hk hk2).2⟩, (hQ k hk hk2).1⟩)
    exact (Rows.app (q1.chg c3 (fun k hk _ => hk.2)) (q2.chg c3 (fun k hk _ => hk.2))).mono (fun k hk _ => hk.1)
  · rcases hgv k hk with h1 | h1
    · exact h.apart k h1
    · intro hc
      have := h.cb.lt k hc
      omega
/-- What is told goes behind what was gathered. -/
theorem PcMid.tell (h0 : PcMid wr base g f r v s l0 gv got xs) (h : PcMid w2 base g f r v' s l1 gv got xs) {lv : Value} (hr : Rows w2 (TellP wr g f r v lv v') ys L) (o3 : w3.ownsRow base 25 1 gv' (got.length + L.length) (xs ++ ys)) (g3 : w2.grownBy w3 gv.ownBlock) (hgv : gv'.ownBlock = gv.ownBlock ∨ gv'.ownBlock = some w2.heap.size) :
    PcMid w3 base g f r v' s l1 gv' (got ++ L) (xs ++ ys) :=
  h.more hr (fun k hk _ => ⟨fun e => by
    rcases hk.1 with h1 | h1
    · exact h0.apart k e (.inr (.inr (.inr h1)))
    · have := own_block_lt h0.own k e
      omega, hk.2.2⟩) o3 g3 (fun k hk => by
    rcases hgv with e | e
    · rw [e] at hk; exact .inl hk
    · rw [e] at hk; exact .inr (by have := Option.some.inj hk; omega))
theorem Chg.still_of {a b w0 : World} {S : Nat → Prop} (h : Chg a b S) (s : Still w0 a) (hS : ∀ k, S k → w0.heap.size ≤ k) : Still w0 b := h.still s hS
end
end Go.Proofs.Ytjihnagoebhinaa
