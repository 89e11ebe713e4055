/- Contracts: a table by what it holds: Get, Put, Delete, Len, Cap, Dead, Steps. It proves no statement. -/
import Derived.Test.YtlebancjgjcfjaaTbRenew
import Derived.Test.YtlebancjgjcfjaaTbL
namespace Go.Proofs.Ytlebancjgjcfjaa
open Go.RowKit
set_option linter.unusedVariables false
set_option linter.unusedSimpArgs false

/-- A table at g, its slots in block b, that holds L. -/
structure Tb (w : World) (g b : Nat) (L : List KV) (cp dd : Nat) : Prop where
  ex : ∃ c S, TB TT 1 w g b c S ∧ Abs S L ∧ S.length = cp ∧ deadN S = dd
  gd : Gd L cp
section
variable {w w' : World} {g b cp dd : Nat} {L : List KV}
theorem Tb.still (h : Tb w g b L cp dd) (s : Still w w') : Tb w' g b L cp dd := by
  obtain ⟨⟨c, S, t, r⟩, gd⟩ := h
  exact ⟨⟨c, S, t.still s, r⟩, gd⟩
theorem Tb.chg {R : Nat → Prop} (h : Tb w g b L cp dd) (c : Chg w w' R) (hg : ¬ R g) (hb : ¬ R b) : Tb w' g b L cp dd := by
  obtain ⟨⟨c', S, t, r⟩, gd⟩ := h
  exact ⟨⟨c', S, t.chg c hg hb, r⟩, gd⟩
theorem Tb.glt (h : Tb w g b L cp dd) : g < w.heap.size := by obtain ⟨⟨c', S, t, r⟩, gd⟩ := h; exact t.box.lt
theorem Tb.blt (h : Tb w g b L cp dd) : b < w.heap.size := by obtain ⟨⟨c', S, t, r⟩, gd⟩ := h; exact t.row.lt
theorem Tb.rise (h : Tb w g b L cp dd) : Rise L := by obtain ⟨⟨c', S, t, a, _⟩, gd⟩ := h; exact a.rise
theorem Tb.ne (h : Tb w g b L cp dd) : b ≠ g := by obtain ⟨⟨c', S, t, r⟩, gd⟩ := h; exact t.ne
theorem Tb.load (h : Tb w g b L cp dd) : 8 ≤ cp ∧ 4 * (L.length + dd) ≤ 3 * cp := by
  obtain ⟨⟨c', S, t, a, rfl, rfl⟩, gd⟩ := h
  have h1 := t.inv.load
  rw [a.len] at h1
  exact ⟨t.len8, h1⟩
theorem Tb.new {g b : Nat} (h : TB TT 1 w g b 8 (List.replicate 8 .empty)) : Tb w g b [] 8 0 := ⟨⟨8, _, h, Abs.rep 8, by simp, deadN_rep 8⟩, .inl (Nat.le_refl _)⟩
theorem Tb.cpb (h : Tb w g b L cp dd) (hl : L.length ≤ 1073741824) : cp ≤ 8589934592 := by have := h.gd; unfold Gd at this; omega
end
theorem tnew_any (w : World) : Calls Try.prog 17 #[] w fun e w' => ∃ g b, e = .returned (.pointer (some ⟨g, 0, none⟩)) ∧ Tb w' g b [] 8 0 ∧ Still w w' ∧ w.heap.size ≤ g ∧ w.heap.size ≤ b :=
  (new_any w).mono fun _ _ ⟨g, b, he, t, s, h1, h2⟩ => ⟨g, b, he, Tb.new t, s, h1, h2⟩
theorem len_any {w : World} {g b cp dd : Nat} {L : List KV} (h : Tb w g b L cp dd) :
    Calls Try.prog 7 #[.pointer (some ⟨g, 0, none⟩)] w fun e w' => e = .returned (.int .i64 (L.length : Nat)) ∧ w = w' := by
  obtain ⟨⟨c, S, t, a, rfl, rfl⟩, gd⟩ := h
  have k1 := t.c1
  rw [a.len] at k1
  have WY := Lib.hid (works_yes t)
  clear a t gd
  go_enter Try.func7, Try.ntmps7
  go_wp2_with (go_at_call 24; refine WY.out.mono ?_; rintro e w1 ⟨rfl, rfl⟩)
  go_ret
  exact ⟨rfl, rfl⟩
end Go.Proofs.Ytlebancjgjcfjaa
