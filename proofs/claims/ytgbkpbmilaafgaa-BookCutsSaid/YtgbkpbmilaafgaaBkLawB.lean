/- Small facts: what is written is read again. It proves no statement. -/
import Derived.Test.YtgbkpbmilaafgaaBkGy
import Derived.Test.YtgbkpbmilaafgaaBookWritesWalk
namespace Go.Proofs.Ytgbkpbmilaafgaa
open Go.RowKit
set_option linter.unusedVariables false
set_option linter.unusedSimpArgs false

theorem wr_ok {k : Kd} {L : List Rw} (h : (k.wr L).2 = 0) : k.wr L = (sumB (k.body L), 0) ∧ L.all okR = true ∧ k.up L L.length = true := by
  rcases wr_cases (k := k) L with ⟨e, _⟩ | ⟨e, _⟩ | e
  · rw [e] at h; cases h
  · rw [e] at h; cases h
  · exact e
theorem rd_wr {k : Kd} (hnm : k.nm.length = 8) {L : List Rw} (hL : ∀ r ∈ L, k.Ok r) (hn : L.length ≤ 65536) (h : (k.wr L).2 = 0) : k.rd (k.wr L).1 = (L, 0) := by
  obtain ⟨e, h1, h2⟩ := wr_ok h
  rw [e]
  exact rd_book hnm hL hn h1 h2
theorem rd_wr_other {k k' : Kd} (hnm : k.nm.length = 8) (hne : k.nm ≠ k'.nm) {L : List Rw} (hL : ∀ r ∈ L, k.Ok r) (h : (k.wr L).2 = 0) : k'.rd (k.wr L).1 = ([], 4) := by
  obtain ⟨e, h1, h2⟩ := wr_ok h
  rw [e]
  exact rd_other hnm hL hne
theorem Wrt.rows {w : World} {A : Option Addr} {n c : Nat} {l : List UInt8} (h : Wrt w A n c l) : RowS w w.heap.size A n c l := ⟨h.rd, h.fit, h.cap, fun e => ⟨by have := h.nil e; have := h.fit; omega, h.nil e⟩⟩
theorem backR_i {w1 w : World} {A B : Option Addr} {n c m d : Nat} {M : List Rw} {l : List UInt8} (h : Wrt w1 A n c l) (hl : l = (kI.wr M).1) (s : Still w1 w) (h0 : (kI.wr M).2 = 0) (r : RwRow kI w1 B m d M) (hm : m ≤ 30) (hn : n ≤ 1400) :
    Calls Try.prog 19 #[.slice A n c] w fun e w' => ∃ A' c', e = .returned (.tuple #[.slice A' m c', .int .i64 0]) ∧ RwRow kI w' A' m c' M ∧ Still w w' := by
  subst hl
  have hl := r.len
  have e := rd_wr (k := kI) rfl r.ok (by omega) h0
  have g := getR_i ((h.on s).rows) (Nat.le_refl _) (by omega)
  rw [e] at g
  simp only [hl] at g
  exact g
theorem otherR_i {w1 w : World} {A B : Option Addr} {n c m d : Nat} {M : List Rw} {l : List UInt8} (h : Wrt w1 A n c l) (hl : l = (kI.wr M).1) (s : Still w1 w) (h0 : (kI.wr M).2 = 0) (r : RwRow kI w1 B m d M) (hn : n ≤ 1400) :
    Calls Try.prog 20 #[.slice A n c] w fun e w' => ∃ A' c', e = .returned (.tuple #[.slice A' 0 c', .int .i64 4]) ∧ Still w w' := by
  subst hl
  have e := rd_wr_other (k := kI) (k' := kC) rfl (by decide) r.ok h0
  have g := getR_c ((h.on s).rows) (Nat.le_refl _) (by omega)
  rw [e] at g
  exact g.mono fun e w' ⟨A', c', he, _, s⟩ => ⟨A', c', he, s⟩
theorem backR_c {w1 w : World} {A B : Option Addr} {n c m d : Nat} {M : List Rw} {l : List UInt8} (h : Wrt w1 A n c l) (hl : l = (kC.wr M).1) (s : Still w1 w) (h0 : (kC.wr M).2 = 0) (r : RwRow kC w1 B m d M) (hm : m ≤ 30) (hn : n ≤ 1400) :
    Calls Try.prog 20 #[.slice A n c] w fun e w' => ∃ A' c', e = .returned (.tuple #[.slice A' m c', .int .i64 0]) ∧ RwRow kC w' A' m c' M ∧ Still w w' := by
  subst hl
  have hl := r.len
  have e := rd_wr (k := kC) rfl r.ok (by omega) h0
  have g := getR_c ((h.on s).rows) (Nat.le_refl _) (by omega)
  rw [e] at g
  simp only [hl] at g
  exact g
theorem otherR_c {w1 w : World} {A B : Option Addr} {n c m d : Nat} {M : List Rw} {l : List UInt8} (h : Wrt w1 A n c l) (hl : l = (kC.wr M).1) (s : Still w1 w) (h0 : (kC.wr M).2 = 0) (r : RwRow kC w1 B m d M) (hn : n ≤ 1400) :
    Calls Try.prog 21 #[.slice A n c] w fun e w' => ∃ A' c', e = .returned (.tuple #[.slice A' 0 c', .int .i64 4]) ∧ Still w w' := by
  subst hl
  have e := rd_wr_other (k := kC) (k' := kU) rfl (by decide) r.ok h0
  have g := getR_u ((h.on s).rows) (Nat.le_refl _) (by omega)
  rw [e] at g
  exact g.mono fun e w' ⟨A', c', he, _, s⟩ => ⟨A', c', he, s⟩
theorem backR_u {w1 w : World} {A B : Option Addr} {n c m d : Nat} {M : List Rw} {l : List UInt8} (h : Wrt w1 A n c l) (hl : l = (kU.wr M).1) (s : Still w1 w) (h0 : (kU.wr M).2 = 0) (r : RwRow kU w1 B m d M) (hm : m ≤ 30) (hn : n ≤ 1400) :
    Calls Try.prog 21 #[.slice A n c] w fun e w' => ∃ A' c', e = .returned (.tuple #[.slice A' m c', .int .i64 0]) ∧ RwRow kU w' A' m c' M ∧ Still w w' := by
  subst hl
  have hl := r.len
  have e := rd_wr (k := kU) rfl r.ok (by omega) h0
  have g := getR_u ((h.on s).rows) (Nat.le_refl _) (by omega)
  rw [e] at g
  simp only [hl] at g
  exact g
theorem otherR_u {w1 w : World} {A B : Option Addr} {n c m d : Nat} {M : List Rw} {l : List UInt8} (h : Wrt w1 A n c l) (hl : l = (kU.wr M).1) (s : Still w1 w) (h0 : (kU.wr M).2 = 0) (r : RwRow kU w1 B m d M) (hn : n ≤ 1400) :
    Calls Try.prog 19 #[.slice A n c] w fun e w' => ∃ A' c', e = .returned (.tuple #[.slice A' 0 c', .int .i64 4]) ∧ Still w w' := by
  subst hl
  have e := rd_wr_other (k := kU) (k' := kI) rfl (by decide) r.ok h0
  have g := getR_i ((h.on s).rows) (Nat.le_refl _) (by omega)
  rw [e] at g
  exact g.mono fun e w' ⟨A', c', he, _, s⟩ => ⟨A', c', he, s⟩
end Go.Proofs.Ytgbkpbmilaafgaa
