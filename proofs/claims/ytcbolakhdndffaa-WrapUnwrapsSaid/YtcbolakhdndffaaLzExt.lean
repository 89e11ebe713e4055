/- Contract: the document's Extended. It proves no statement. -/
import Derived.Test.YtcbolakhdndffaaLzSq
import Derived.Test.YtcbolakhdndffaaLzLoMath
import Derived.Test.YtcbolakhdndffaaSameAny
import Derived.Test.YtcbolakhdndffaaWithin
import Derived.Test.YtcbolakhdndffaaRowS
namespace Go.Proofs.Ytcbolakhdndffaa
open Go.RowKit
set_option linter.unusedVariables false
set_option linter.unusedSimpArgs false

set_option maxRecDepth 100000 in
set_option maxHeartbeats 1600000 in
theorem extended_any (A : Option Addr) (n c at_ m : Nat) (b : List UInt8) (w : World) (B : Nat) (hr : Reads w B A n b) (hn : n ≤ 1048576) (hat : at_ ≤ n) (hm : m ≤ 65536) :
    Calls Try.prog 38 #[.slice A n c, .int .i64 at_, .int .i64 m] w fun e w' => (∃ y z : Nat, ∃ ok : Bool, e = .returned (.tuple #[.int .i64 y, .int .i64 z, .bool ok]) ∧ ((ok = true ∧ z ≤ n ∧ numR m (b.drop at_) = some (y, b.drop z)) ∨ (ok = false ∧ numR m (b.drop at_) = none))) ∧ w' = w := by
  by_cases h15 : m < 15
  · have e : numR m (b.drop at_) = some (m, b.drop at_) := by unfold numR; rw [if_pos h15]
    have HE := Lib.hid e
    clear e hr
    go_enter Try.func38, Try.ntmps38
    go_wp2_with fail
    go_ret3
    exact ⟨⟨m, at_, true, rfl, .inl ⟨rfl, hat, HE.out⟩⟩, rfl⟩
  · have e : numR m (b.drop at_) = extR m (b.drop at_) := by unfold numR; rw [if_neg h15]
    have HE := Lib.hid e
    have HR := Lib.hid hr
    have HL := Lib.hid hr.1
    have d0 : ¬ ((m : Int) < 15) := by omega
    clear e hr h15
    go_enter Try.func38, Try.ntmps38
    go_wp2_with fail
    go_loopw [1, 2] (fun av nv wr => ∃ (a n1 : Nat), av = .int .i64 a ∧ nv = .int .i64 n1 ∧ a ≤ n ∧ n1 ≤ 1000000000 ∧ wr = w ∧ Hid (extR m (b.drop at_) = extR n1 (b.drop a) ∧ n1 + 255 * at_ = m + 255 * a)) (fun av _ _ => n - (intOf av).toNat)
    case atStart => exact ⟨at_, m, rfl, rfl, hat, by omega, rfl, rfl, rfl⟩
    case round =>
      obtain ⟨a, n1, rfl, rfl, ha, hn1, rfl, hh⟩ := hrel
      by_cases hlt : a < n
      · obtain ⟨bb, o, rfl, hb, hcells⟩ := HR.out.at_ (by omega)
        obtain ⟨k, hk⟩ : ∃ k, k = b.getD a 0 := ⟨_, rfl⟩
        have q1 := hcells a hlt
        rw [← hk] at q1
        have hdrop := getD_drop0 b a (by have := HL.out; omega)
        rw [← hk] at hdrop
        obtain ⟨y, hy⟩ : ∃ y, y = k.toNat := ⟨_, rfl⟩
        rw [← hy] at q1
        have hy8 : y < 256 := by rw [hy]; exact k.toNat_lt
        have hext : extR n1 (b.drop a) = if y = 255 then extR (n1 + 255) (b.drop (a + 1)) else some (n1 + y, b.drop (a + 1)) := by rw [hdrop, extR, ← hy]
        have HX := Lib.hid hext
        have HH := Lib.hid hh.out
        have i1 : IntKind.i64.wrap ((n1 : Int) + (y : Int)) = ((n1 + y : Nat) : Int) := by rw [IntKind.wrap_i64]; omega
        have d1 : (a : Int) + 1 - 1 = (a : Int) := by omega
        clear hcells hk hdrop hext hh hy hb
        by_cases hf : y = 255
        · have d2 : ¬ ((y : Int) < 255) := by omega
          go_wp2_with fail
          go_roundw
          case rel => exact ⟨a + 1, n1 + y, by go_num, by go_num, by omega, by have := HH.out.2; omega, by trivial, by rw [HH.out.1, HX.out, if_pos hf, hf], by have := HH.out.2; omega⟩
          case measure => simp [intOf]; omega
        · have d2 : (y : Int) < 255 := by omega
          go_wp2_with fail
          go_ret3
          exact ⟨⟨n1 + y, a + 1, true, by go_num, .inl ⟨by trivial, by omega, by rw [HE.out, HH.out.1, HX.out, if_neg hf]⟩⟩, rfl⟩
      · obtain rfl : a = n := by omega
        have hd : b.drop a = [] := List.drop_of_length_le (by have := HL.out; omega)
        have HH := Lib.hid hh.out.1
        have HD := Lib.hid hd
        clear hh hd
        go_wp2_with fail
        go_ret3
        exact ⟨⟨0, a, false, rfl, .inr ⟨by trivial, by rw [HE.out, HH.out, HD.out]; rfl⟩⟩, rfl⟩
end Go.Proofs.Ytcbolakhdndffaa
