/- Contracts: rows of bytes compared, copied, cut, turned round. It proves no statement. -/
import Derived.Test.YtammhjkdjkgpdaaBase
import Derived.Outline
import Derived.Deep.DeepMust
import Derived.Deep.QuietTactic
import Derived.BigQuiet
import Derived.RegionTactic
import Derived.ChangeAlike
import Derived.BigRegion
namespace Go.Proofs.Ytammhjkdjkgpdaa
open Go.RowKit
set_option linter.unusedVariables false
set_option linter.unusedSimpArgs false

theorem still_drewN {a w : World} (h : Still a w) (n : Nat) : Still a (w.drewN n) := ⟨h.os, h.tape, h.output, h.size, h.block⟩

set_option maxHeartbeats 400000 in
theorem same_yes (A A' : Option Addr) (n c c' : Nat) (l : List UInt8) (w : World) (B B' : Nat) (h : Reads w B A n l) (h' : Reads w B' A' n l) (hn : n ≤ 9223372036854775807) :
    Calls Try.prog 12 #[.slice A n c, .slice A' n c'] w fun e w' => e = .returned (.bool true) ∧ Still w w' := by
  go_enter Try.func12, Try.ntmps12
  go_wp2_with fail
  go_loopw [5] (fun i wr => ∃ k : Nat, k ≤ n ∧ i = .int .i64 k ∧ Reads wr B A n l ∧ Reads wr B' A' n l ∧ Still w wr) (fun i _ => n - (intOf i).toNat)
  case atStart => exact ⟨0, Nat.zero_le _, rfl, h, h', Below.refl _ _⟩
  case round =>
    obtain ⟨k, hk, rfl, hr, hr', hst⟩ := hrel
    by_cases hlt : k < n
    · obtain ⟨b, o, rfl, hb, hc⟩ := hr.at_ (by omega)
      obtain ⟨b', o', rfl, hb', hc'⟩ := hr'.at_ (by omega)
      have c1 := hc k hlt
      have c2 := hc' k hlt
      clear hc hc'
      generalize (l.getD k 0).toNat = y at c1 c2
      have z1 : (0 : Int) ≤ (k : Int) := by omega
      have z2 : (k : Int) < (n : Int) := by omega
      go_wp2_with fail
      go_quiet (fail)
      go_wp2_with fail
      go_roundw
      case rel => exact ⟨k + 1, by omega, by go_num, hr, hr', still_drewN hst _⟩
      case measure => simp [intOf]; omega
    · obtain rfl : k = n := by omega
      go_wp2_with fail
      go_ret
      exact ⟨rfl, hst⟩
theorem within_lo (x lo hi : Int) (w : World) (h : x < lo) :
    Calls Try.prog 36 #[.int .i64 x, .int .i64 lo, .int .i64 hi] w fun e w' => e = .returned (.int .i64 lo) ∧ w = w' := by
  go_enter Try.func36, Try.ntmps36
  go_wp2
  go_ret
  exact ⟨rfl, rfl⟩
theorem within_hi (x lo hi : Int) (w : World) (h1 : lo ≤ x) (h : hi < x) :
    Calls Try.prog 36 #[.int .i64 x, .int .i64 lo, .int .i64 hi] w fun e w' => e = .returned (.int .i64 hi) ∧ w = w' := by
  go_enter Try.func36, Try.ntmps36
  go_wp2
  go_ret
  exact ⟨rfl, rfl⟩
theorem within_in (x lo hi : Int) (w : World) (h1 : lo ≤ x) (h : x ≤ hi) :
    Calls Try.prog 36 #[.int .i64 x, .int .i64 lo, .int .i64 hi] w fun e w' => e = .returned (.int .i64 x) ∧ w = w' := by
  go_enter Try.func36, Try.ntmps36
  go_wp2
  go_ret
  exact ⟨rfl, rfl⟩
/-- A number between two others. -/
theorem within_any (x lo hi : Int) (w : World) (hh : lo ≤ hi) :
    Calls Try.prog 36 #[.int .i64 x, .int .i64 lo, .int .i64 hi] w fun e w' => (∃ y : Int, lo ≤ y ∧ y ≤ hi ∧ e = .returned (.int .i64 y)) ∧ w = w' := by
  by_cases h1 : x < lo
  · exact (within_lo x lo hi w h1).mono fun e w' ⟨he, hw⟩ => ⟨⟨lo, by omega, hh, he⟩, hw⟩
  · by_cases h2 : hi < x
    · exact (within_hi x lo hi w (by omega) h2).mono fun e w' ⟨he, hw⟩ => ⟨⟨hi, hh, by omega, he⟩, hw⟩
    · exact (within_in x lo hi w (by omega) (by omega)).mono fun e w' ⟨he, hw⟩ => ⟨⟨x, by omega, by omega, he⟩, hw⟩

/-- At most k bytes of a slice, k at least one. -/
theorem cut_any (A : Option Addr) (n c k : Nat) (l : List UInt8) (w : World) (B : Nat) (h : Reads w B A n l) (hc : n ≤ c) (hm : c ≤ 9223372036854775807) (hk : 1 ≤ k) :
    Calls Try.prog 17 #[.slice A n c, .int .i64 k] w fun e w' => e = .returned (.slice A (min n k) c) ∧ w = w' := by
  by_cases hlt : k < n
  · obtain ⟨b, o, rfl, hb, hcc⟩ := h.at_ (by omega)
    have hmin : min n k = k := by omega
    rw [hmin]
    go_enter Try.func17, Try.ntmps17
    go_wp2
    go_ret
    exact ⟨rfl, rfl⟩
  · have hmin : min n k = n := by omega
    rw [hmin]
    go_enter Try.func17, Try.ntmps17
    go_wp2
    go_ret
    exact ⟨rfl, rfl⟩

/-- A copy in memory of the call's own. -/
theorem copy_any (A : Option Addr) (n c : Nat) (l : List UInt8) (w : World) (B : Nat) (h : Reads w B A n l) (hn : n ≤ 140737488355328) (hA : A = none → n = 0 ∧ c = 0) :
    Calls Try.prog 18 #[.slice A n c] w fun e w' => (∃ v, e = .returned v ∧ w'.ownsRow w.heap.size 5 1 v n (bytesV l)) ∧ Still w w' := by
  go_enter Try.func18, Try.ntmps18
  go_wp2_with (at_builtin; go_must (refine wpList_adds _ rfl _ _ rfl w.heap.size _ 0 [] rfl (World.ownsRow_nil _ _ _ _) _ n c B l rfl h (fun e => (hA e).2) ?c1 ?c2 ?_))
  case c1 => omega
  case c2 => exact Nat.le_refl _
  intro v' w' hown hg _
  have hst : Still w w' := (Below.refl _ _).grown hg (Nat.le_refl _) (fun k hk => by simp [Value.ownBlock] at hk)
  have hown' : w'.ownsRow w.heap.size 5 1 v' n (bytesV l) := by simpa using hown
  clear hg hown
  go_wp2_with fail
  go_ret
  exact ⟨⟨_, rfl, hown'⟩, hst⟩

/-- The first k bytes of l, and the last k, exchanged. -/
def rv (l : List UInt8) (k : Nat) : List UInt8 := (List.range l.length).map fun i => if i < k ∨ l.length - 1 - i < k then l.getD (l.length - 1 - i) 0 else l.getD i 0
theorem rv_length (l : List UInt8) (k : Nat) : (rv l k).length = l.length := by simp [rv]
theorem rv_get (l : List UInt8) (k i : Nat) (hi : i < l.length) : (rv l k).getD i 0 = if i < k ∨ l.length - 1 - i < k then l.getD (l.length - 1 - i) 0 else l.getD i 0 := by
  simp [rv, List.getD, hi]
theorem rv_zero (l : List UInt8) : rv l 0 = l := by
  apply List.ext_getElem (by simp [rv])
  intro i h1 h2
  simp [rv, h2]
theorem rv_end (l : List UInt8) (k : Nat) (h : l.length ≤ 2 * k + 1) : rv l k = l.reverse := by
  apply List.ext_getElem (by simp [rv])
  intro i h1 h2
  simp only [rv_length] at h1
  by_cases c : i < k ∨ l.length - 1 - i < k
  · have h3 : l.length - 1 - i < l.length := by omega
    simp [rv, List.getD, c, h3]
  · have h3 : l.length - 1 - i = i := by omega
    simp [rv, List.getD, h3, h1]
theorem rv_step (l : List UInt8) (k : Nat) (h : 2 * k + 1 < l.length) : ((rv l k).set k (l.getD (l.length - 1 - k) 0)).set (l.length - 1 - k) (l.getD k 0) = rv l (k + 1) := by
  apply List.ext_getElem (by simp [rv])
  intro i h1 h2
  simp only [rv_length] at h2
  rw [List.getElem_set, List.getElem_set]
  have e : l.length - 1 - (l.length - 1 - k) = k := by omega
  by_cases c1 : l.length - 1 - k = i
  · subst c1
    have c2 : l.length - 1 - k < k + 1 ∨ l.length - 1 - (l.length - 1 - k) < k + 1 := by omega
    simp [rv, e]
  · rw [if_neg c1]
    by_cases c2 : k = i
    · subst c2
      simp [rv]
    · rw [if_neg c2]
      by_cases c3 : i < k ∨ l.length - 1 - i < k
      · have c4 : i < k + 1 ∨ l.length - 1 - i < k + 1 := by omega
        simp only [rv, List.getElem_map, List.getElem_range, if_pos c3, if_pos c4]
      · have c4 : ¬ (i < k + 1 ∨ l.length - 1 - i < k + 1) := by omega
        simp only [rv, List.getElem_map, List.getElem_range, if_neg c3, if_neg c4]

set_option maxHeartbeats 400000 in
/-- The exchange in place, on a row of the call's own. -/
theorem reverse_own (base g n cap : Nat) (l : List UInt8) (w : World) (h : w.ownsRow base 5 1 (.slice (some ⟨g, 0, none⟩) n cap) n (bytesV l)) (hn : n ≤ 9223372036854775807) :
    Calls Try.prog 38 #[.slice (some ⟨g, 0, none⟩) n cap] w fun e w' =>
      e = .returned (.tuple #[]) ∧ w'.ownsRow base 5 1 (.slice (some ⟨g, 0, none⟩) n cap) n (bytesV l.reverse) ∧ w.grownBy w' (some g) := by
  have hl : l.length = n := by have := h.1; rw [bytesV_length] at this; omega
  go_enter Try.func38, Try.ntmps38
  go_wp2_with fail
  go_loopw [2, 3] (fun i j wr => ∃ k : Nat, i = .int .i64 k ∧ j = .int .i64 ((n : Int) - 1 - k) ∧ (k = 0 ∨ 2 * k ≤ n) ∧ wr.ownsRow base 5 1 (.slice (some ⟨g, 0, none⟩) n cap) n (bytesV (rv l k)) ∧ w.grownBy wr (some g)) (fun i _ _ => n - (intOf i).toNat)
  case atStart => exact ⟨0, rfl, by simp, .inl rfl, by rw [rv_zero]; exact h, World.grownBy.refl _ _⟩
  case round =>
    obtain ⟨k, rfl, rfl, hk, hr, hg⟩ := hrel
    by_cases hlt : 2 * k + 1 < n
    · obtain ⟨j, hj⟩ : ∃ j : Nat, n = k + 1 + j := ⟨n - k - 1, by omega⟩
      have hj' : ((n : Int) - 1 - (k : Int)) = (j : Int) := by omega
      rw [hj']
      have c1 := hr.cellAt k (by omega)
      have c2 := hr.cellAt j (by omega)
      rw [bytesV_get _ _ (by rw [rv_length]; omega)] at c1 c2
      have f1 := hr.frozenAt k
      have f2 := hr.frozenAt j
      have hkj : k < j := by omega
      have z1 : (j : Int) < (n : Int) := by omega
      have z2 : (k : Int) < (n : Int) := by omega
      have hs1 := hr.stored k (.int .u8 (((rv l k).getD j 0).toNat : Int))
      have hs2 := hs1.1.stored j (.int .u8 (((rv l k).getD k 0).toNat : Int))
      rw [bytesV_set, bytesV_set] at hs2
      have ej : l.length - 1 - k = j := by omega
      have e1 : (rv l k).getD k 0 = l.getD k 0 := by rw [rv_get _ _ _ (by omega), if_neg (by omega)]
      have e2 : (rv l k).getD j 0 = l.getD j 0 := by rw [rv_get _ _ _ (by omega), if_neg (by omega)]
      have e3 := rv_step l k (by omega)
      have hs3 := hg.trans (hs1.2.trans hs2.2)
      have hs4 := hs2.1
      rw [ej] at e3
      rw [e1, e2, e3] at hs4
      rw [e1, e2] at hs3
      rw [e1] at c1
      rw [e2] at c2
      have H4 := Lib.hid hs4
      have H3 := Lib.hid hs3
      have J := Lib.hid hj
      clear hs1 hs2 hs3 hs4 e1 e2 e3 ej hj' hr hj
      generalize (l.getD k 0).toNat = y at c1 H3 H4
      generalize (l.getD j 0).toNat = z at c2 H3 H4
      go_wp2_with fail
      go_region
      go_wp2_with fail
      have hj := J.out
      go_roundw
      case rel => exact ⟨k + 1, by go_num, by go_num, by omega, H4.out, ⟨H3.out.os, H3.out.tape, H3.out.output, H3.out.size, H3.out.block⟩⟩
      case measure => simp [intOf]; omega
    · have e := rv_end l k (by omega)
      rw [e] at hr
      go_wp2_with fail
      go_end0
      exact ⟨rfl, hr, hg⟩

end Go.Proofs.Ytammhjkdjkgpdaa
