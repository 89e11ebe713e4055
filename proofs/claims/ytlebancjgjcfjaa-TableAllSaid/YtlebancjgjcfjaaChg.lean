/- Worlds in which only some blocks have turned. It proves no statement. -/
import Derived.Test.YtlebancjgjcfjaaBlk
import Derived.Test.YtlebancjgjcfjaaFar
namespace Go.Proofs.Ytlebancjgjcfjaa
open Go.RowKit
set_option linter.unusedVariables false
set_option linter.unusedSimpArgs false

/-- From w to w' only blocks of S, and new ones, have turned. -/
structure Chg (w w' : World) (S : Nat → Prop) : Prop where
  os : w'.os = w.os
  tape : w'.tape = w.tape
  output : w'.output = w.output
  size : w.heap.size ≤ w'.heap.size
  block : ∀ k, k < w.heap.size → ¬ S k → w'.heap[k]? = w.heap[k]?
theorem Chg.refl (w : World) (S : Nat → Prop) : Chg w w S := ⟨rfl, rfl, rfl, Nat.le_refl _, fun _ _ _ => rfl⟩
theorem Chg.trans {a b c : World} {S T : Nat → Prop} (h : Chg a b S) (k : Chg b c T) (hT : ∀ x, x < a.heap.size → T x → S x) : Chg a c S :=
  ⟨k.os.trans h.os, k.tape.trans h.tape, k.output.trans h.output, Nat.le_trans h.size k.size, fun x hx hS => (k.block x (Nat.lt_of_lt_of_le hx h.size) (fun ht => hS (hT x hx ht))).trans (h.block x hx hS)⟩
theorem Chg.mono {a b : World} {S T : Nat → Prop} (h : Chg a b S) (hT : ∀ x, x < a.heap.size → S x → T x) : Chg a b T := ⟨h.os, h.tape, h.output, h.size, fun x hx hS => h.block x hx (fun hs => hS (hT x hx hs))⟩
theorem Chg.of_grown {a b : World} {r : Option Nat} (h : a.grownBy b r) {S : Nat → Prop} (hr : ∀ k, r = some k → k < a.heap.size → S k) : Chg a b S := ⟨h.os, h.tape, h.output, h.size, fun k hk hS => h.block k hk (fun e => hS (hr k e.symm hk))⟩
theorem Chg.of_still {a b : World} (h : Still a b) (S : Nat → Prop) : Chg a b S := ⟨h.os, h.tape, h.output, h.size, fun k hk _ => h.block k hk⟩
theorem Chg.of_below {a b : World} {lo : Nat} (h : Below lo a b) {S : Nat → Prop} (hS : ∀ k, lo ≤ k → k < a.heap.size → S k) : Chg a b S := ⟨h.os, h.tape, h.output, h.size, fun k hk hn => h.block k (by
  rcases Nat.lt_or_ge k lo with h1 | h1
  · exact h1
  · exact absurd (hS k h1 hk) hn)⟩
theorem Chg.below {a b : World} {S : Nat → Prop} (h : Chg a b S) {lo : Nat} (hlo : lo ≤ a.heap.size) (hS : ∀ k, S k → lo ≤ k) : Below lo a b := ⟨h.os, h.tape, h.output, h.size, fun k hk => h.block k (by omega) (fun hs => by have := hS k hs; omega)⟩
theorem Chg.still {a b w0 : World} {S : Nat → Prop} (h : Chg a b S) (s : Still w0 a) (hS : ∀ k, S k → w0.heap.size ≤ k) : Still w0 b := Below.trans s (h.below s.size hS)
theorem Chg.drew (w : World) (S : Nat → Prop) : Chg w w.drew S := ⟨rfl, rfl, rfl, Nat.le_refl _, fun _ _ _ => rfl⟩
/-- What stays. -/
theorem Chg.blk {a b : World} {S : Nat → Prop} (h : Chg a b S) {g : Nat} {t : TypeId} {cs : Array Value} (hb : Blk a g t cs) (hS : ¬ S g) : Blk b g t cs := (h.block g hb.lt hS).trans hb
theorem Chg.own {a b : World} {S : Nat → Prop} (h : Chg a b S) {base z n : Nat} {e : TypeId} {v : Value} {xs : List Value} (ho : a.ownsRow base e z v n xs) (hS : ∀ k, v.ownBlock = some k → ¬ S k) : b.ownsRow base e z v n xs := by
  refine ⟨ho.1, ?_⟩
  rcases ho.2 with h0 | ⟨g, c, cur, h1, h2, h3, h4⟩
  · exact .inl h0
  · subst h1
    exact .inr ⟨g, c, cur, rfl, h2, (h.block g (Array.getElem?_eq_some_iff.1 h3).1 (hS g rfl)).trans h3, h4⟩
theorem Chg.reads {a b : World} {S : Nat → Prop} (h : Chg a b S) {B n : Nat} {A : Option Addr} {l : List UInt8} (hr : Reads a B A n l) (hB : B ≤ a.heap.size) (hS : ∀ ad, A = some ad → ¬ S ad.block) : Reads b B A n l := by
  refine ⟨hr.1, fun hn => ?_⟩
  obtain ⟨bb, o, e, hlt, hc⟩ := hr.2 hn
  refine ⟨bb, o, e, hlt, fun i hi => ?_⟩
  exact (World.cell?_of_block (w := a) (h.block bb (by omega) (hS _ e))).trans (hc i hi)
end Go.Proofs.Ytlebancjgjcfjaa
