/- Contract: bytes turned round in place. It proves no statement. -/
import Derived.Test.YtomhpnomcciniaaDoorSame
namespace Go.Proofs.YtomhpnomcciniaaDoor
open Go.RowKit
set_option linter.unusedVariables false
set_option linter.unusedSimpArgs false

/-- The first k bytes of l, and the last k, exchanged. -/
def rv (l : List UInt8) (k : Nat) : List UInt8 := (List.range l.length).map fun i => if i < k ∨ l.length - 1 - i < k then l.getD (l.length - 1 - i) 0 else l.getD i 0
theorem rv_length (l : List UInt8) (k : Nat) : (rv l k).length = l.length := by simp [rv]
theorem rv_get (l : List UInt8) (k i : Nat) (hi : i < l.length) : (rv l k).getD i 0 = if i < k ∨ l.length - 1 - i < k then l.getD (l.length - 1 - i) 0 else l.getD i 0 := by
  simp [rv, List.getD, hi]
theorem rv_zero (l : List UInt8) : rv l 0 = l := by
  apply List.ext_getElem (by simp [rv])
  intro i h1 h2
  simp [rv, h2]
theorem rv_end (l : List UInt8) (k : Nat) (h : l.length ≤ 2 * k + 1) : rv l k = l.reverse := by
  apply List.ext_getElem (by simp [rv])
  intro i h1 h2
  simp only [rv_length] at h1
  by_cases c : i < k ∨ l.length - 1 - i < k
  · have h3 : l.length - 1 - i < l.length := by omega
    simp [rv, List.getD, c, h3]
  · have h3 : l.length - 1 - i = i := by omega
    simp [rv, List.getD, h3, h1]
theorem rv_step (l : List UInt8) (k : Nat) (h : 2 * k + 1 < l.length) : ((rv l k).set k (l.getD (l.length - 1 - k) 0)).set (l.length - 1 - k) (l.getD k 0) = rv l (k + 1) := by
  apply List.ext_getElem (by simp [rv])
  intro i h1 h2
  simp only [rv_length] at h2
  rw [List.getElem_set, List.getElem_set]
  have e : l.length - 1 - (l.length - 1 - k) = k := by omega
  by_cases c1 : l.length - 1 - k = i
  · subst c1
    have c2 : l.length - 1 - k < k + 1 ∨ l.length - 1 - (l.length - 1 - k) < k + 1 := by omega
    simp [rv, e]
  · rw [if_neg c1]
    by_cases c2 : k = i
    · subst c2
      simp [rv]
    · rw [if_neg c2]
      by_cases c3 : i < k ∨ l.length - 1 - i < k
      · have c4 : i < k + 1 ∨ l.length - 1 - i < k + 1 := by omega
        simp only [rv, List.getElem_map, List.getElem_range, if_pos c3, if_pos c4]
      · have c4 : ¬ (i < k + 1 ∨ l.length - 1 - i < k + 1) := by omega
        simp only [rv, List.getElem_map, List.getElem_range, if_neg c3, if_neg c4]

set_option maxHeartbeats 400000 in
/-- The exchange in place, on a row of the call's own. -/
theorem reverse_own (base g n cap : Nat) (l : List UInt8) (w : World) (h : w.ownsRow base 5 1 (.slice (some ⟨g, 0, none⟩) n cap) n (bytesV l)) (hn : n ≤ 9223372036854775807) :
    Calls Tryd.prog 79 #[.slice (some ⟨g, 0, none⟩) n cap] w fun e w' =>
      e = .returned (.tuple #[]) ∧ w'.ownsRow base 5 1 (.slice (some ⟨g, 0, none⟩) n cap) n (bytesV l.reverse) ∧ w.grownBy w' (some g) := by
  have hl : l.length = n := by have := h.1; rw [bytesV_length] at this; omega
  go_enter Tryd.func79, Tryd.ntmps79
  go_wp2_with fail
  go_loopw [2, 3] (fun i j wr => ∃ k : Nat, i = .int .i64 k ∧ j = .int .i64 ((n : Int) - 1 - k) ∧ (k = 0 ∨ 2 * k ≤ n) ∧ wr.ownsRow base 5 1 (.slice (some ⟨g, 0, none⟩) n cap) n (bytesV (rv l k)) ∧ w.grownBy wr (some g)) (fun i _ _ => n - (intOf i).toNat)
  case atStart => exact ⟨0, rfl, by simp, .inl rfl, by rw [rv_zero]; exact h, World.grownBy.refl _ _⟩
  case round =>
    obtain ⟨k, rfl, rfl, hk, hr, hg⟩ := hrel
    by_cases hlt : 2 * k + 1 < n
    · obtain ⟨j, hj⟩ : ∃ j : Nat, n = k + 1 + j := ⟨n - k - 1, by omega⟩
      have hj' : ((n : Int) - 1 - (k : Int)) = (j : Int) := by omega
      rw [hj']
      have c1 := hr.cellAt k (by omega)
      have c2 := hr.cellAt j (by omega)
      rw [bytesV_get _ _ (by rw [rv_length]; omega)] at c1 c2
      have f1 := hr.frozenAt k
      have f2 := hr.frozenAt j
      have hkj : k < j := by omega
      have z1 : (j : Int) < (n : Int) := by omega
      have z2 : (k : Int) < (n : Int) := by omega
      have hs1 := hr.stored k (.int .u8 (((rv l k).getD j 0).toNat : Int))
      have hs2 := hs1.1.stored j (.int .u8 (((rv l k).getD k 0).toNat : Int))
      rw [bytesV_set, bytesV_set] at hs2
      have ej : l.length - 1 - k = j := by omega
      have e1 : (rv l k).getD k 0 = l.getD k 0 := by rw [rv_get _ _ _ (by omega), if_neg (by omega)]
      have e2 : (rv l k).getD j 0 = l.getD j 0 := by rw [rv_get _ _ _ (by omega), if_neg (by omega)]
      have e3 := rv_step l k (by omega)
      have hs3 := hg.trans (hs1.2.trans hs2.2)
      have hs4 := hs2.1
      rw [ej] at e3
      rw [e1, e2, e3] at hs4
      rw [e1, e2] at hs3
      rw [e1] at c1
      rw [e2] at c2
      have H4 := Lib.hid hs4
      have H3 := Lib.hid hs3
      have J := Lib.hid hj
      clear hs1 hs2 hs3 hs4 e1 e2 e3 ej hj' hr hj
      generalize (l.getD k 0).toNat = y at c1 H3 H4
      generalize (l.getD j 0).toNat = z at c2 H3 H4
      go_wp2_with fail
      go_region
      go_wp2_with fail
      have hj := J.out
      go_roundw
      case rel => exact ⟨k + 1, by go_num, by go_num, by omega, H4.out, ⟨H3.out.os, H3.out.tape, H3.out.output, H3.out.size, H3.out.block⟩⟩
      case measure => simp [intOf]; omega
    · have e := rv_end l k (by omega)
      rw [e] at hr
      go_wp2_with fail
      go_end0
      exact ⟨rfl, hr, hg⟩

end Go.Proofs.YtomhpnomcciniaaDoor
