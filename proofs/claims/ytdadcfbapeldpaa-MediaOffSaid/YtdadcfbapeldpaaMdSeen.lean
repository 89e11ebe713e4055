/- What the law of fast media sees; it proves no statement. -/
import Derived.Test.YtdadcfbapeldpaaMdFast
import Derived.Test.YtdadcfbapeldpaaMdAlike
import Derived.Test.YtdadcfbapeldpaaMdPlayed
import Derived.Test.YtdadcfbapeldpaaMdLives
import Derived.Test.YtdadcfbapeldpaaMdReadsRow
namespace Go.Proofs.Ytdadcfbapeldpaa
open Go.RowKit Go.Maps Go.WideMaps Go.Sort
set_option linter.unusedVariables false
set_option linter.unusedSimpArgs false

/-- The medium in a later world; what lay beside it has stayed. -/
structure At (w0 w2 wr : World) (g : Nat) (own0 : Own) (M : Me) (k : Nat) : Prop where
  ex : ∃ own : Own, MedI wr w0.heap.size own g M ∧ (∀ b, b < w2.heap.size → own b = own0 b)
  good : M.good k
  on : M.On
  chg : Chg w2 wr (fun b => own0 b ≠ none)
  st : Still w0 wr
section
variable {w0 w2 wr w' : World} {base g k : Nat} {own0 own : Own} {M M' : Me}
theorem At.left (h : At w0 w2 wr g own0 M k) (hl : ∀ own, MedI wr w0.heap.size own g M → (∀ b, b < w2.heap.size → own b = own0 b) → Left wr w' w0.heap.size g own M') (hg : M'.good (k + 1)) (ho : M'.On) : At w0 w2 w' g own0 M' (k + 1) := by
  obtain ⟨own, m, ag⟩ := h.ex
  obtain ⟨c, own', h1, m'⟩ := hl own m ag
  exact ⟨⟨own', m', fun b hb => by rw [h1 b (Nat.lt_of_lt_of_le hb h.chg.size)]; exact ag b hb⟩, hg, ho, h.chg.trans c (fun b hb h => by rw [← ag b hb]; exact h), c.still h.st (fun b hb => (m.dom b hb).1)⟩
theorem At.still (h : At w0 w2 wr g own0 M k) (s : Still wr w') : At w0 w2 w' g own0 M k := by
  obtain ⟨own, m, ag⟩ := h.ex
  exact ⟨⟨own, m.still s, ag⟩, h.good, h.on, h.chg.trans (Chg.of_still s (fun _ => False)) (fun b _ h => h.elim), Still.trans h.st s⟩
end
/-- Rows of names and of bytes in blocks of a kind. -/
structure Seen (w : World) (Q : Nat → Prop) (A : Option Addr) (B : Option Addr) (n d : Nat) (N : NT) (L : List (List UInt8)) : Prop where
  names : NamesR w A n N
  rows : RowsR w Q Q B n d L
  far : ∀ ad, A = some ad → 0 < n → Q ad.block
section
variable {w w' : World} {Q Q' : Nat → Prop} {A B : Option Addr} {n d : Nat} {N : NT} {L : List (List UInt8)}
theorem Seen.chg {S : Nat → Prop} (h : Seen w Q A B n d N L) (g : Chg w w' S) (hS : ∀ b, Q b → ¬ S b) : Seen w' Q A B n d N L :=
  ⟨⟨h.names.1, fun hn => by
    obtain ⟨b, o, e, hb, hc⟩ := h.names.2 hn
    refine ⟨b, o, e, Nat.lt_of_lt_of_le hb g.size, fun i p hp => ?_⟩
    have := h.far _ e hn
    exact (World.cell?_of_block (w := w) (g.block b hb (hS b this))).trans (hc i p hp)⟩,
   h.rows.chg g (fun b hb _ => hS b (Or.elim hb id id)), h.far⟩
theorem Seen.mono (h : Seen w Q A B n d N L) (hQ : ∀ b, Q b → Q' b) : Seen w Q' A B n d N L :=
  ⟨h.names, h.rows.mono (fun b hb _ => hQ b hb) (fun b hb _ => hQ b hb), fun ad e hn => hQ _ (h.far ad e hn)⟩
theorem Seen.still (h : Seen w Q A B n d N L) (s : Still w w') : Seen w' Q A B n d N L := h.chg (Chg.of_still s (fun _ => False)) (fun _ _ h => h)
end
/-- What the law's all answers lies beside the medium. -/
theorem seen_of {w1 wm w2 : World} {base g n c d : Nat} {own : Own} {M : Me} {A B : Option Addr} {N : NT} {L : List (List UInt8)} {xs : List Value} (med : MedI w1 base own g M) (on : w2.ownsRow w1.heap.size 9 1 (.slice A n c) n (namesV N)) (s : Still w1 wm) (gr : Grow wm w2 (.slice B n d) L xs) (hn : L.length = n) : Seen w2 (fun b => own b = none ∧ b < w2.heap.size) A B n d N L := by
  have free : ∀ b, w1.heap.size ≤ b → own b = none := fun b hb => by
    cases h : own b with
    | none => rfl
    | some x =>
      have := (med.dom b (by rw [h]; exact fun e => by cases e)).2
      omega
  have go := gr.own
  rw [hn] at go
  have hs := s.size
  refine ⟨NamesR.of_own on, ?_, fun ad e h0 => ?_⟩
  · exact (RowsR.of_own go gr.rows).mono (fun b hb hlt => ⟨free b (by have := hb.1; omega), hlt⟩) (fun b hb hlt => ⟨free b (by have := hb.1; omega), hlt⟩)
  · subst e
    have h1 := own_at on 0 h0
    rcases on.2 with ⟨_, h0'⟩ | ⟨gg, cp, cur, hv, hg, hb, _⟩
    · omega
    · injection hv with hv1
      cases hv1
      exact ⟨free _ hg, (Array.getElem?_eq_some_iff.1 hb).1⟩
theorem short_all {w : World} {base g : Nat} {own : Own} {M : Me} (med : MedI w base own g M) (hok : M.ok) (ho : M.off = false) : Short (allL M) := by
  intro i hi
  have hi2 : i < M.now.length := by simpa [allL] using hi
  have e : (allL M).getD i [] = (M.bytes (txt M.now[i])).1 := by simp [allL, List.getD, hi2]
  rw [e]
  obtain ⟨F, hF⟩ := now_files hok _ (List.getElem_mem hi2)
  rw [(bytes_of hok ho (List.getElem_mem hi2) hF).2]
  have := Fi.len (med.files _ _ hF).2.1
  show F.now.length ≤ _
  omega
/-- A crash by numbers that came in. -/
theorem crash_at {w0 w2 wr : World} {g k : Nat} {own0 : Own} {M : Me} {A : Option Addr} {n c : Nat} {zs : List Int} (h : At w0 w2 wr g own0 M k) (hk : k ≤ 1000000) (hr : ReadsI w0 (fun b => b < w0.heap.size) A n zs) (hc : n ≤ c) (hm : c ≤ 9223372036854775807) :
    Calls Try.prog 10 #[.pointer (some ⟨g, 0, none⟩), .slice A n c] wr fun e w' => e = .returned (.tuple #[]) ∧ At w0 w2 w' g own0 (M.crash zs) (k + 1) := by
  obtain ⟨own, m, ag⟩ := h.ex
  have hr2 : ReadsI wr (fun b => b < w0.heap.size) A n zs := hr.chg (Chg.of_below h.st (S := fun b => w0.heap.size ≤ b) (fun b hb _ => hb)) (fun b hb => by omega)
  refine (crash_M m h.good.ok (by have := h.good.cnt; omega) hr2 (fun b hb => ⟨?_, Nat.lt_of_lt_of_le hb h.st.size⟩) hc hm).mono ?_
  · cases ho : own b with
    | none => rfl
    | some x =>
      have := (m.dom b (by rw [ho]; exact fun e => by cases e)).1
      omega
  · rintro e w' ⟨rfl, hl⟩
    obtain ⟨c', own', h1, m'⟩ := hl
    refine ⟨rfl, ⟨own', m', fun b hb => by rw [h1 b (Nat.lt_of_lt_of_le hb h.chg.size)]; exact ag b hb⟩, crash_good h.good zs, crash_on h.on zs, h.chg.trans c' (fun b hb hh => by rw [← ag b hb]; exact hh), c'.still h.st (fun b hb => (m.dom b hb).1)⟩
end Go.Proofs.Ytdadcfbapeldpaa
