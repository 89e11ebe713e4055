/- The medium in a later world, beside what lay there. It proves no statement. -/
import Derived.Test.YtlkkkifilgnhmaaMdPlayed
import Derived.Test.YtlkkkifilgnhmaaMdLives
import Derived.Test.YtlkkkifilgnhmaaMdReadsRow
namespace Go.Proofs.Ytlkkkifilgnhmaa
open Go.RowKit Go.Maps Go.WideMaps Go.Sort
set_option linter.unusedVariables false
set_option linter.unusedSimpArgs false

theorem crash_on {M : Me} (h : M.On) (zs : List Int) : (M.crash zs).On := ⟨rfl, rfl, h.nm.crash zs⟩
/-- The medium in a later world; what lay beside it has stayed. -/
structure At (w0 w2 wr : World) (g : Nat) (own0 : Own) (M : Me) (k : Nat) : Prop where
  ex : ∃ own : Own, MedI wr w0.heap.size own g M ∧ (∀ b, b < w2.heap.size → own b = own0 b)
  good : M.good k
  on : M.On
  chg : Chg w2 wr (fun b => own0 b ≠ none)
  st : Still w0 wr
section
variable {w0 w2 wr w' : World} {base g k : Nat} {own0 own : Own} {M M' : Me}
theorem At.left (h : At w0 w2 wr g own0 M k) (hl : ∀ own, MedI wr w0.heap.size own g M → (∀ b, b < w2.heap.size → own b = own0 b) → Left wr w' w0.heap.size g own M') (hg : M'.good (k + 1)) (ho : M'.On) : At w0 w2 w' g own0 M' (k + 1) := by
  obtain ⟨own, m, ag⟩ := h.ex
  obtain ⟨c, own', h1, m'⟩ := hl own m ag
  exact ⟨⟨own', m', fun b hb => by rw [h1 b (Nat.lt_of_lt_of_le hb h.chg.size)]; exact ag b hb⟩, hg, ho, h.chg.trans c (fun b hb h => by rw [← ag b hb]; exact h), c.still h.st (fun b hb => (m.dom b hb).1)⟩
theorem At.still (h : At w0 w2 wr g own0 M k) (s : Still wr w') : At w0 w2 w' g own0 M k := by
  obtain ⟨own, m, ag⟩ := h.ex
  exact ⟨⟨own, m.still s, ag⟩, h.good, h.on, h.chg.trans (Chg.of_still s (fun _ => False)) (fun b _ h => h.elim), Still.trans h.st s⟩
end
/-- A crash by numbers that came in. -/
theorem crash_at {w0 w2 wr : World} {g k : Nat} {own0 : Own} {M : Me} {A : Option Addr} {n c : Nat} {zs : List Int} (h : At w0 w2 wr g own0 M k) (hk : k ≤ 1000000) (hr : ReadsI w0 (fun b => b < w0.heap.size) A n zs) (hc : n ≤ c) (hm : c ≤ 9223372036854775807) :
    Calls Try.prog 9 #[.pointer (some ⟨g, 0, none⟩), .slice A n c] wr fun e w' => e = .returned (.tuple #[]) ∧ At w0 w2 w' g own0 (M.crash zs) (k + 1) := by
  obtain ⟨own, m, ag⟩ := h.ex
  have hr2 : ReadsI wr (fun b => b < w0.heap.size) A n zs := hr.chg (Chg.of_below h.st (S := fun b => w0.heap.size ≤ b) (fun b hb _ => hb)) (fun b hb => by omega)
  refine (crash_M m h.good.ok (by have := h.good.cnt; omega) hr2 (fun b hb => ⟨?_, Nat.lt_of_lt_of_le hb h.st.size⟩) hc hm).mono ?_
  · cases ho : own b with
    | none => rfl
    | some x =>
      have := (m.dom b (by rw [ho]; exact fun e => by cases e)).1
      omega
  · rintro e w' ⟨rfl, hl⟩
    obtain ⟨c', own', h1, m'⟩ := hl
    refine ⟨rfl, ⟨own', m', fun b hb => by rw [h1 b (Nat.lt_of_lt_of_le hb h.chg.size)]; exact ag b hb⟩, crash_good h.good zs, crash_on h.on zs, h.chg.trans c' (fun b hb hh => by rw [← ag b hb]; exact hh), c'.still h.st (fun b hb => (m.dom b hb).1)⟩
end Go.Proofs.Ytlkkkifilgnhmaa
