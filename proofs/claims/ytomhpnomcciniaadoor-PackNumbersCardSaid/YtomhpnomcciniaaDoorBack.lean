/- Contract: the document's own turning round of bytes. It proves no statement. -/
import Derived.Test.YtomhpnomcciniaaDoorSame
namespace Go.Proofs.YtomhpnomcciniaaDoor
open Go.RowKit
set_option linter.unusedVariables false
set_option linter.unusedSimpArgs false

set_option maxHeartbeats 400000 in
theorem back_any (A : Option Addr) (n c : Nat) (l : List UInt8) (w : World) (B : Nat) (h : Reads w B A n l) (hB : B ≤ w.heap.size) (hn : n ≤ 70368744177664) :
    Calls Tryd.prog 80 #[.slice A n c] w fun e w' => (∃ v, e = .returned v ∧ w'.ownsRow w.heap.size 5 1 v n (bytesV l.reverse)) ∧ Still w w' := by
  have hl := h.1
  go_enter Tryd.func80, Tryd.ntmps80
  go_wp2_with fail
  go_loopw [3, 4] (fun v i wr => ∃ k : Nat, k ≤ n ∧ i = .int .i64 ((n : Int) - 1 - k) ∧ wr.ownsRow w.heap.size 5 1 v k (bytesV (l.reverse.take k)) ∧ Still w wr) (fun _ i _ => (intOf i + 1).toNat)
  case atStart => exact ⟨0, Nat.zero_le _, by simp, World.ownsRow_nil _ _ _ _, Below.refl _ _⟩
  case round =>
    obtain ⟨k, hk, rfl, hown, hst⟩ := hrel
    by_cases hlt : k < n
    · obtain ⟨b, o, rfl, hb, hc⟩ := (h.still hB hst).at_ (by omega)
      obtain ⟨j, hj⟩ : ∃ j : Nat, n = k + 1 + j := ⟨n - k - 1, by omega⟩
      have hj' : ((n : Int) - 1 - (k : Int)) = (j : Int) := by omega
      rw [hj']
      have c1 := hc j (by omega)
      have hx : l.reverse.take (k + 1) = l.reverse.take k ++ [l.getD j 0] := by
        have e : l.reverse[k]? = some (l.getD j 0) := by
          rw [List.getElem?_reverse (by omega), show l.length - 1 - k = j by omega]
          simp [List.getD, show j < l.length by omega]
        rw [List.take_add_one, e]; rfl
      have HX := Lib.hid hx
      have J := Lib.hid hj
      have z1 : (j : Int) < (n : Int) := by omega
      have hsz := hst.size
      clear hx hj hj' hc
      go_wp2_with (at_builtin; go_must (refine wpList_push _ rfl _ _ rfl w.heap.size _ _ _ rfl hown _ (l.getD j 0) rfl ?c1 ?c2 ?c3 ?_))
      case c1 => simp
      case c2 => omega
      case c3 => exact hsz
      intro v' w1 hown' hgrow _
      have hst' : Still w w1 := hst.grown hgrow hsz (fun k hk => (hown.lt k hk).1)
      clear hgrow
      go_wp2_with fail
      have hj := J.out
      go_roundw
      case rel => exact ⟨k + 1, by omega, by go_num, by rw [HX.out]; exact hown', hst'⟩
      case measure => simp [intOf]
    · obtain rfl : k = n := by omega
      have e : l.reverse.take k = l.reverse := List.take_of_length_le (by simp; omega)
      rw [e] at hown
      go_wp2_with fail
      go_ret
      exact ⟨⟨_, rfl, hown⟩, hst⟩

end Go.Proofs.YtomhpnomcciniaaDoor
