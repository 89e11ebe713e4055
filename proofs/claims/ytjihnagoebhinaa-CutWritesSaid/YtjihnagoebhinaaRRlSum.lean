/- Contracts: a text's sum, by the document's own answer. It proves no statement. -/
import Derived.Test.YtjihnagoebhinaaRlWord
import Derived.Test.YtjihnagoebhinaaCut
namespace Go.Proofs.Ytjihnagoebhinaa
open Go.RowKit
set_option linter.unusedVariables false
set_option linter.unusedSimpArgs false

theorem take_one {l : List UInt8} {k : Nat} (h : k < l.length) : l.take (k + 1) = l.take k ++ [l.getD k 0] := by
  rw [List.take_add_one]; simp [List.getD, h]
set_option maxRecDepth 100000 in
theorem rsum_any (seed : Nat) (A : Option Addr) (n c : Nat) (l : List UInt8) (w : World) (B : Nat) (h : Reads w B A n l) (hs : seed < 4294967296) (hn : n ≤ 140737488355328) :
    Calls Try.prog 37 #[.int .u32 seed, .slice A n c] w fun e w' => e = .returned (.int .u32 (sm seed l : Nat)) ∧ w = w' := by
  have hl := h.1
  obtain ⟨R, hR⟩ : ∃ R, R = sm seed l := ⟨_, rfl⟩
  rw [← hR]
  have HR := Lib.hid hR
  clear hR
  go_enter Try.func37, Try.ntmps37
  go_wp2_with fail
  go_loop [5, 6] (fun x i => ∃ k : Nat, k ≤ n ∧ i = .int .i64 k ∧ ∃ y : Nat, x = .int .u32 y ∧ Hid (y = smR seed l k)) (fun _ i => n - (intOf i).toNat)
  case atStart => exact ⟨0, Nat.zero_le _, rfl, 0, rfl, rfl⟩
  case round =>
    obtain ⟨k, hk, rfl, y, rfl, hy⟩ := hrel
    by_cases hlt : k < n
    · obtain ⟨b, o, rfl, hb, hc0⟩ := h.at_ (by omega)
      have hc := hc0 k hlt
      obtain ⟨d, hd⟩ : ∃ d, d = (l.getD k 0).toNat := ⟨_, rfl⟩
      rw [← hd] at hc
      have hd' : d < 256 := by rw [hd]; exact (l.getD k 0).toNat_lt
      have hyb : y < 4294967296 := by rw [hy.out]; exact smR_lt _ _ _
      have HW := Lib.hid (rword_any seed d w hs hd')
      have hwl := wd_lt seed d
      obtain ⟨x, hx⟩ : ∃ x, x = wd seed d := ⟨_, rfl⟩
      rw [← hx] at HW hwl
      obtain ⟨t, ht⟩ : ∃ t, t = (l.length - 1 - k) % 32 := ⟨_, rfl⟩
      have ht32 : t < 32 := by omega
      have s1 : IntKind.i64.wrap ((n : Int) - 1) = (n : Int) - 1 := by rw [IntKind.wrap_i64]; omega
      have s2 : IntKind.i64.wrap ((n : Int) - 1 - (k : Int)) = (n : Int) - 1 - (k : Int) := by rw [IntKind.wrap_i64]; omega
      have s3 : IntKind.u64.wrap ((n : Int) - 1 - (k : Int)) = (n : Int) - 1 - (k : Int) := by rw [IntKind.wrap_u64]; omega
      have s4 : ((n : Int) - 1 - (k : Int)).tmod 32 = (t : Int) := by rw [Int.tmod_eq_emod_of_nonneg (by omega), ht]; omega
      have s5 : IntKind.u64.wrap (32 - (t : Int)) = ((32 - t : Nat) : Int) := by rw [IntKind.wrap_u64]; omega
      have hrot := rot_cast32 x t hwl ht32
      have hrl := rotl_lt 32 x t hwl
      obtain ⟨q, hq⟩ : ∃ q, q = rotl 32 x t := ⟨_, rfl⟩
      rw [← hq] at hrot hrl
      have hxo := u32_xor_nat y q hyb hrl
      obtain ⟨z, hz⟩ : ∃ z, z = y ^^^ q := ⟨_, rfl⟩
      rw [← hz] at hxo
      have HZ := Lib.hid hz
      have HX := Lib.hid hx
      have HD := Lib.hid hd
      have HQ := Lib.hid hq
      have HT := Lib.hid ht
      clear hz hx hd hc0 hq ht
      go_wp2_with fail
      refine HW.out.mono ?_
      rintro e w1 ⟨rfl, rfl⟩
      go_wp2_with fail
      go_round
      case rel =>
        refine ⟨k + 1, by omega, by go_num, z, rfl, ?_⟩
        show _ = _
        rw [smR_succ, ← hy.out, ← HD.out, ← HX.out, ← HT.out, ← HQ.out]
        exact HZ.out
      case measure => simp [intOf]; omega
    · obtain rfl : k = n := by omega
      have e := hy.out
      rw [← hl, smR_all, ← HR.out] at e
      subst e
      go_wp2_with fail
      go_ret
      exact ⟨rfl, rfl⟩
end Go.Proofs.Ytjihnagoebhinaa
