/- Contracts: the closure that takes numbers. It proves no statement. -/
import Derived.Test.YtlkkkifilgnhmaaMdSetM
namespace Go.Proofs.Ytlkkkifilgnhmaa
open Go.RowKit Go.Maps Go.WideMaps
set_option linter.unusedVariables false
set_option linter.unusedSimpArgs false

/-- A row of numbers that reads, below B. -/
def ReadsI (w : World) (B : Nat → Prop) (A : Option Addr) (n : Nat) (zs : List Int) : Prop :=
  zs.length = n ∧ (0 < n → ∃ b o, A = some ⟨b, o, none⟩ ∧ B b ∧ b < w.heap.size ∧ ∀ i, i < n → w.cell? ⟨b, o + i, none⟩ = some (.int .i64 (zs.getD i 0)))
theorem ReadsI.chg {w w' : World} {B : Nat → Prop} {n : Nat} {A : Option Addr} {zs : List Int} {S : Nat → Prop} (h : ReadsI w B A n zs) (c : Chg w w' S) (hS : ∀ b, B b → ¬ S b) : ReadsI w' B A n zs :=
  ⟨h.1, fun hn => by
    obtain ⟨b, o, ha, hb, hl, hc⟩ := h.2 hn
    exact ⟨b, o, ha, hb, Nat.lt_of_lt_of_le hl c.size, fun i hi => (World.cell?_of_block (w := w) (c.block b hl (hS b hb))).trans (hc i hi)⟩⟩
/-- The closure's variable: what is left of the numbers. -/
def TK (w : World) (B : Nat → Prop) (gl : Nat) (zs : List Int) : Prop := ∃ A n c, Blk w gl 23 #[.slice A n c] ∧ n ≤ c ∧ c ≤ 9223372036854775807 ∧ ReadsI w B A n zs
theorem TK.chg {w w' : World} {B : Nat → Prop} {gl : Nat} {zs : List Int} {S : Nat → Prop} (h : TK w B gl zs) (c : Chg w w' S) (hS : ∀ b, B b → ¬ S b) (hg : ¬ S gl) : TK w' B gl zs := by
  obtain ⟨A, n, cc, h1, h2, h3, h4⟩ := h
  exact ⟨A, n, cc, c.blk h1 hg, h2, h3, h4.chg c hS⟩
/-- What is taken. -/
def tkN (zs : List Int) (most : Int) : Int := match zs with
  | [] => 0
  | z :: _ => min (max z 0) most
theorem tkN_le (zs : List Int) (most : Int) (h : 0 ≤ most) : 0 ≤ tkN zs most ∧ tkN zs most ≤ most := by
  unfold tkN
  cases zs with
  | nil => exact ⟨Int.le_refl _, h⟩
  | cons z zs => simp only; omega
set_option maxRecDepth 100000 in
set_option maxHeartbeats 1600000 in
theorem take_any {w : World} (B : Nat → Prop) (gl : Nat) (zs : List Int) (most : Int) (h : TK w B gl zs) (hB : ¬ B gl) :
    Calls Try.prog 48 #[.int .i64 most, .pointer (some ⟨gl, 0, none⟩)] w fun e w' => e = .returned (.int .i64 (tkN zs most)) ∧ TK w' B gl zs.tail ∧ Chg w w' (fun b => b = gl) := by
  obtain ⟨A, n, c, h1, h2, h3, h4⟩ := h
  have c0 : w.cell? ⟨gl, 0, none⟩ = some (.slice A n c) := h1.cell 0
  cases zs with
  | nil =>
    have hn : n = 0 := by have := h4.1; simpa using this.symm
    subst hn
    have H4 := Lib.hid h4
    have H1 := Lib.hid h1
    clear h4 h1
    go_enter Try.func48, Try.ntmps48
    go_wp2_with fail
    go_ret
    exact ⟨rfl, ⟨A, 0, c, H1.out, h2, h3, H4.out⟩, Chg.refl _ _⟩
  | cons z zs =>
    have hn : n = zs.length + 1 := by have := h4.1; simpa using this.symm
    obtain ⟨b, o, rfl, hb, hbl, hc⟩ := h4.2 (by omega)
    have c1 : w.cell? ⟨b, o, none⟩ = some (.int .i64 z) := hc 0 (by omega)
    have kf := h1.frozen 0
    have hnz : ¬ ((n : Int) = 0) := by omega
    have hn1 : 1 ≤ n := by omega
    have hn2 : (1 : Int) ≤ (n : Int) := by omega
    have hn3 : (0 : Int) < (n : Int) := by omega
    have HC := Lib.hid hc
    have H1 := Lib.hid h1
    have HN := Lib.hid hn
    clear h4 hc h1 hn
    by_cases hc1 : 1 = c
    · subst hc1
      have hne : n = 1 := by omega
      subst hne
      go_enter Try.func48, Try.ntmps48
      go_wp2_with fail
      go_ret
      refine ⟨rfl, ⟨some ⟨b, o, none⟩, 0, 0, Blk.setc H1.out 0 _, by omega, by omega, by have := HN.out; simp only [List.tail_cons]; omega, fun h0 => by omega⟩, chg_set _ _ _ _⟩
    · have hc2 : 1 < c := by omega
      have hc3 : ¬ c = 1 := by omega
      go_enter Try.func48, Try.ntmps48
      go_wp2_with fail
      go_ret
      refine ⟨rfl, ⟨some ⟨b, o + 1, none⟩, n - 1, c - 1, Blk.setc H1.out 0 _, by omega, by omega, by have := HN.out; simp only [List.tail_cons]; omega, fun h0 => ⟨b, o + 1, rfl, hb, by simpa [World.setCell] using hbl, fun i hi => ?_⟩⟩, chg_set _ _ _ _⟩
      have h5 := HC.out (i + 1) (by omega)
      have hglb : gl ≠ b := fun q => hB (by rw [q]; exact hb)
      rw [World.cell?_setCell_other _ _ _ _ (fun e => hglb (by simpa using congrArg Addr.block e))]
      rw [show o + 1 + i = o + (i + 1) by omega]
      simpa using h5
end Go.Proofs.Ytlkkkifilgnhmaa
