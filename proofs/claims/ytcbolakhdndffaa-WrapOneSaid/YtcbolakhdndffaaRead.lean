/- Contracts: one reading of a reader that Open made, whatever is asked. It proves no statement. -/
import Derived.Test.YtcbolakhdndffaaLive
namespace Go.Proofs.Ytcbolakhdndffaa
open Go.RowKit
set_option linter.unusedVariables false
set_option linter.unusedSimpArgs false

/-- What one reading does: what is left, the error, what was read. -/
def rstep (l : List UInt8) (x y : Int) (num : Bool) : (List UInt8 × Int) × List UInt8 :=
  if x ≠ 0 then ((l, x), [])
  else if y < 0 ∨ (num = true ∧ (y < 1 ∨ 8 < y)) then ((l, 2), [])
  else if (l.length : Int) < y then ((l, 3), [])
  else ((l.drop y.toNat, 0), l.take y.toNat)
theorem rstep_err (l : List UInt8) (x y : Int) (num : Bool) (h : x ≠ 0) : rstep l x y num = ((l, x), []) := by simp [rstep, h]
theorem rstep_arg (l : List UInt8) (y : Int) (num : Bool) (h : y < 0 ∨ (num = true ∧ (y < 1 ∨ 8 < y))) : rstep l 0 y num = ((l, 2), []) := by simp [rstep, h]
theorem rstep_short (l : List UInt8) (y : Int) (num : Bool) (h : ¬ (y < 0 ∨ (num = true ∧ (y < 1 ∨ 8 < y)))) (h2 : (l.length : Int) < y) : rstep l 0 y num = ((l, 3), []) := by
  simp only [rstep, ne_eq, not_true_eq_false, if_false, if_neg h, if_pos h2]
theorem rstep_ok (l : List UInt8) (k : Nat) (num : Bool) (h : ¬ ((k : Int) < 0 ∨ (num = true ∧ ((k : Int) < 1 ∨ 8 < (k : Int))))) (h2 : k ≤ l.length) : rstep l 0 k num = ((l.drop k, 0), l.take k) := by
  simp only [rstep, ne_eq, not_true_eq_false, if_false, if_neg h]
  rw [if_neg (by omega)]
  simp

/-- The row that was handed out lies ahead of what is left. -/
def Ahead (A : Option Addr) (k : Nat) (A' : Option Addr) (n' : Nat) : Prop := 0 < k → 0 < n' → A' = A.map (·.add k)

/-- A reader, whatever its row. -/
def LiveAny (w : World) (lo B g : Nat) (l : List UInt8) (x : Int) : Prop := ∃ A n c, Live w lo B g A n c l x

theorem take_any {w : World} {lo B g : Nat} {A : Option Addr} {n c : Nat} {l : List UInt8} {x : Int} (h : Live w lo B g A n c l x) (y : Int) :
    Calls Try.prog 43 #[.pointer (some ⟨g, 0, none⟩), .int .i64 y] w fun e w' =>
      ∃ A1 k A' n' c', e = .returned (.slice A1 k k) ∧ Live w' lo B g A' n' c' (rstep l x y false).1.1 (rstep l x y false).1.2 ∧ Ahead A1 k A' n' ∧ Reads w' B A1 k (rstep l x y false).2 ∧ Mine w' lo A1 k ∧ (A1 = none → k = 0) ∧ w.grownBy w' (some g) := by
  by_cases hx : x = 0
  · subst hx
    by_cases hy : y < 0
    · rw [rstep_arg l y false (.inl hy)]
      exact (take_neg h y hy).mono fun e w' ⟨he, lv, gr⟩ => ⟨none, 0, A, n, c, he, lv, fun h => by omega, Reads.nil0, fun h => by omega, fun _ => rfl, gr⟩
    · by_cases hs : (l.length : Int) < y
      · rw [rstep_short l y false (by simp; omega) hs]
        exact (take_short h y (by omega) (by have := h.reads.1; omega)).mono fun e w' ⟨he, lv, gr⟩ => ⟨none, 0, A, n, c, he, lv, fun h => by omega, Reads.nil0, fun h => by omega, fun _ => rfl, gr⟩
      · obtain ⟨k, rfl⟩ := Int.eq_ofNat_of_zero_le (show 0 ≤ y by omega)
        rw [rstep_ok l k false (by simp) (by omega)]
        exact (take_ok h (k := k) (by have := h.reads.1; omega)).mono fun e w' ⟨he, ⟨A', c', lv, ha⟩, rd, mi, nn, gr⟩ => ⟨A, k, A', n - k, c', he, lv, fun _ h2 => ha h2, rd, mi, nn, gr⟩
  · rw [rstep_err l x y false hx]
    exact (take_none h hx y).mono fun e w' ⟨he, hw⟩ => ⟨none, 0, A, n, c, he, hw ▸ h, fun h => by omega, Reads.nil0, fun h => by omega, fun _ => rfl, hw ▸ World.grownBy.refl _ _⟩

theorem bytes_any {w : World} {lo B g : Nat} {l : List UInt8} {x : Int} (h : LiveAny w lo B g l x) (y : Int) :
    Calls Try.prog 36 #[.pointer (some ⟨g, 0, none⟩), .int .i64 y] w fun e w' =>
      ∃ A1 k A' n' c', e = .returned (.slice A1 k k) ∧ Live w' lo B g A' n' c' (rstep l x y false).1.1 (rstep l x y false).1.2 ∧ Ahead A1 k A' n' ∧ Reads w' B A1 k (rstep l x y false).2 ∧ Mine w' lo A1 k ∧ (A1 = none → k = 0) ∧ w.grownBy w' (some g) := by
  obtain ⟨A, n, c, h⟩ := h
  generalize hst : rstep l x y false = st
  have ht := take_any h y
  rw [hst] at ht
  clear hst
  obtain ⟨⟨l1, x1⟩, p1⟩ := st
  simp only at ht ⊢
  go_enter Try.func36, Try.ntmps36
  go_wp2_with fail
  refine ht.mono ?_
  rintro e w1 ⟨A1, k, A', n', c', rfl, r⟩
  clear ht
  have R := Lib.hid r
  clear r
  go_wp2_with fail
  go_ret
  exact ⟨A1, k, A', n', c', rfl, R.out⟩

theorem num_any {w : World} {lo B g : Nat} {l : List UInt8} {x : Int} (h : LiveAny w lo B g l x) (y : Int) :
    Calls Try.prog 27 #[.pointer (some ⟨g, 0, none⟩), .int .i64 y] w fun e w' =>
      e = .returned (.int .u64 (leNum (rstep l x y true).2 : Nat)) ∧ LiveAny w' lo B g (rstep l x y true).1.1 (rstep l x y true).1.2 ∧ w.grownBy w' (some g) := by
  obtain ⟨A, n, c, h⟩ := h
  by_cases hy : y < 1 ∨ 8 < y
  · by_cases hx : x = 0
    · subst hx
      rw [rstep_arg l y true (.inr ⟨rfl, hy⟩)]
      go_enter Try.func27, Try.ntmps27
      go_wp2_with fail
      refine (fits_no y w hy).mono ?_
      rintro e w1 ⟨rfl, rfl⟩
      go_wp2_with fail
      refine (fail_sets h 2).mono ?_
      rintro e w1 ⟨rfl, lv, gr⟩
      go_wp2_with fail
      go_ret
      exact ⟨rfl, ⟨_, _, _, lv⟩, gr⟩
    · rw [rstep_err l x y true hx]
      go_enter Try.func27, Try.ntmps27
      go_wp2_with fail
      refine (fits_no y w hy).mono ?_
      rintro e w1 ⟨rfl, rfl⟩
      go_wp2_with fail
      refine (fail_none h hx 2).mono ?_
      rintro e w1 ⟨rfl, rfl⟩
      go_wp2_with fail
      go_ret
      exact ⟨rfl, ⟨_, _, _, h⟩, World.grownBy.refl _ _⟩
  · have e : rstep l x y true = rstep l x y false := by
      have h1 : ¬ (y < 0 ∨ (true = true ∧ (y < 1 ∨ 8 < y))) := by simp; omega
      have h2 : ¬ (y < 0 ∨ (false = true ∧ (y < 1 ∨ 8 < y))) := by simp; omega
      unfold rstep
      rw [if_neg h1, if_neg h2]
    rw [e]
    have hl : (rstep l x y false).2 = [] ∨ (1 ≤ (rstep l x y false).2.length ∧ (rstep l x y false).2.length ≤ 8) := by
      unfold rstep
      split
      · exact .inl rfl
      · split
        · exact .inl rfl
        · split
          · exact .inl rfl
          · right
            simp only [List.length_take]
            omega
    generalize hst : rstep l x y false = st at hl
    have ht := take_any h y
    rw [hst] at ht
    clear hst e
    obtain ⟨⟨l1, x1⟩, p1⟩ := st
    simp only at ht hl ⊢
    go_enter Try.func27, Try.ntmps27
    go_wp2_with fail
    refine (fits_yes y w (by omega) (by omega)).mono ?_
    rintro e w1 ⟨rfl, rfl⟩
    go_wp2_with fail
    refine ht.mono ?_
    rintro e w1 ⟨A1, k, A', n', c', rfl, lv, ha, rd, mi, nn, gr⟩
    clear ht
    rcases hl with rfl | ⟨h1, h2⟩
    · have hk : k = 0 := rd.1.symm
      subst hk
      clear rd mi nn ha
      go_wp2_with fail
      refine (get_no A1 0 0 w1 (by omega)).mono ?_
      rintro e w2 ⟨rfl, rfl⟩
      go_wp2_with fail
      go_ret
      exact ⟨rfl, ⟨_, _, _, lv⟩, gr⟩
    · have hk : p1.length = k := rd.1
      rw [hk] at h1 h2
      have HR := Lib.hid rd
      clear rd mi nn ha hk
      generalize hz : leNum p1 = z
      have HZ := Lib.hid hz
      clear hz
      go_wp2_with fail
      refine (get_yes A1 k k p1 w1 _ HR.out h1 h2).mono ?_
      rintro e w2 ⟨rfl, rfl⟩
      rw [HZ.out]
      go_wp2_with fail
      go_ret
      exact ⟨by rw [HZ.out]; rfl, ⟨_, _, _, lv⟩, gr⟩
end Go.Proofs.Ytcbolakhdndffaa
