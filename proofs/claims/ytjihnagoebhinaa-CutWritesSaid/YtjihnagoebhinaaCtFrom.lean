/- The document's law asks which chunk begins at a place. It proves no statement. -/
import Derived.Test.YtjihnagoebhinaaCutJoinsWalk
namespace Go.Proofs.Ytjihnagoebhinaa
open Go.RowKit
set_option linter.unusedVariables false
set_option linter.unusedSimpArgs false

theorem flat_step (L : List (List UInt8)) (k : Nat) (hk : k < L.length) : (L.take (k + 1)).flatten.length = (L.take k).flatten.length + (L.getD k []).length := by
  rw [flat_take L k hk, List.length_append]
set_option maxRecDepth 100000 in
set_option maxHeartbeats 1600000 in
/-- Which chunk begins at a place. -/
theorem from_any {O P : Nat → Prop} (A : Option Addr) (n c : Nat) (L : List (List UInt8)) (at0 : Nat) (w : World) (h : RowsR w O P A n c L) (hn : n ≤ 65536) (hL : L.flatten.length ≤ 65536) (ha : at0 ≤ 65536) :
    Calls Try.prog 25 #[.slice A n c, .int .i64 (at0 : Nat)] w fun e w' => (∃ r : Int, e = .returned (.int .i64 r) ∧ (r = -1 ∨ ∃ p : Nat, r = (p : Nat) ∧ p ≤ L.length ∧ (L.take p).flatten.length = at0)) ∧ w' = w := by
  have HL := Lib.hid h.len
  have H := Lib.hid h
  have HF := Lib.hid hL
  clear h hL
  go_enter Try.func25, Try.ntmps25
  go_wp2_with fail
  go_loopw [5, 6] (fun sv iv wr => ∃ k t : Nat, iv = .int .i64 k ∧ sv = .int .i64 t ∧ k ≤ n + 1 ∧ Hid (wr = w ∧ t = (L.take k).flatten.length)) (fun _ iv _ => n + 1 - (intOf iv).toNat)
  case atStart => exact ⟨0, 0, rfl, rfl, by omega, Lib.hid ⟨rfl, by simp⟩⟩
  case round =>
    obtain ⟨k, t, rfl, rfl, hk, hin⟩ := hrel
    obtain ⟨rfl, ht⟩ := hin.out
    have ht5 : t ≤ 65536 := by have := flat_take_le L k; have := HF.out; omega
    have HT := Lib.hid ht
    clear hin ht
    by_cases hlt : k ≤ n
    · have z1 : (k : Int) ≤ (n : Int) := by omega
      by_cases he : t = at0
      · subst he
        have HK := Lib.hid hlt
        clear hlt
        go_wp2_with fail
        (try simp only [Exit.inBlock, Exit.then])
        go_ret
        exact ⟨⟨_, rfl, .inr ⟨k, rfl, by rw [HL.out]; exact HK.out, HT.out.symm⟩⟩, rfl⟩
      · have z2 : ((t : Int) == (at0 : Int)) = false := by rw [beq_eq_false_iff_ne]; omega
        have z2' : ¬ (t : Int) = (at0 : Int) := by omega
        have z6 : IntKind.i64.wrap ((k : Int) + 1) = (k : Int) + 1 := by rw [IntKind.wrap_i64]; omega
        by_cases hl2 : k < n
        · obtain ⟨b, o, rfl, _, _, hat⟩ := H.out.at_ (by omega)
          obtain ⟨A', n', c', d1, p1⟩ := hat k hl2
          have hst := flat_step L k (by rw [HL.out]; exact hl2)
          rw [p1.len, ← HT.out] at hst
          have hle := flat_take_le L (k + 1)
          have z3 : (k : Int) < (n : Int) := by omega
          have z4 : (0 : Int) ≤ (k : Int) := by omega
          have z5 : IntKind.i64.wrap ((t : Int) + (n' : Int)) = ((t + n' : Nat) : Int) := by rw [IntKind.wrap_i64]; have := HF.out; omega
          have HST := Lib.hid hst
          have HK := Lib.hid hl2
          clear hst hle hat p1 he hlt hl2
          obtain ⟨t2, ht2⟩ : ∃ t2, t2 = t + n' := ⟨_, rfl⟩
          rw [← ht2] at z5 HST
          have HT2 := Lib.hid ht2
          clear ht2
          go_wp2_with fail
          go_roundw
          case rel => exact ⟨k + 1, t2, by go_num, rfl, by have := HK.out; omega, Lib.hid ⟨by trivial, HST.out.symm⟩⟩
          case measure => simp [intOf]; have := HK.out; omega
        · have z3 : ¬ (k : Int) < (n : Int) := by omega
          have HK := Lib.hid (show k = n by omega)
          have htt : (L.take (k + 1)).flatten.length = (L.take k).flatten.length := by
            rw [List.take_of_length_le (by rw [HL.out, HK.out]; omega), List.take_of_length_le (by rw [HL.out, HK.out]; omega)]
          have HTT := Lib.hid htt
          clear hl2 hlt he htt
          go_wp2_with fail
          go_roundw
          case rel => exact ⟨k + 1, t, by go_num, rfl, by have := HK.out; omega, Lib.hid ⟨by trivial, HT.out.trans HTT.out.symm⟩⟩
          case measure => simp [intOf]; have := HK.out; omega
    · have z1 : ¬ (k : Int) ≤ (n : Int) := by omega
      go_wp2_with fail
      go_ret
      exact ⟨⟨_, rfl, .inl rfl⟩, rfl⟩
end Go.Proofs.Ytjihnagoebhinaa
