/- Contract: lives. It proves no statement. -/
import Derived.Test.YtcbolakhdndffaaWrRUnw
import Derived.Lib.SlBytesConst
namespace Go.Proofs.Ytcbolakhdndffaa
open Go.RowKit
set_option linter.unusedVariables false
set_option linter.unusedSimpArgs false

theorem wrap_abc : wrapR [97, 98, 99] false = ([0, 3, 0, 0, 0, 97, 98, 99], 0) := by
  have e : sqz [97, 98, 99] = [48, 97, 98, 99] := by rfl
  rw [wrapR_ok (by decide), wrB_pl (by rw [e]; decide)]
  rfl
set_option maxRecDepth 100000 in
set_option maxHeartbeats 800000 in
theorem lives_any (w : World) : Calls Try.prog 13 #[] w fun e w' => e = .returned (.bool true) ∧ Still w w' := by
  have SQ := Lib.hid (fun c (hc : 3 ≤ c) (hm : c ≤ 9223372036854775807) => wwrap_any (some ⟨w.heap.size, 0, none⟩) 3 c [97, 98, 99] false (w.alloc (.cells (bytesV [97, 98, 99]).toArray 5 (3, 4))) (w.heap.size + 1) ⟨const_reads w [97, 98, 99] (3, 4), hc, hm, fun e => by cases e⟩ (by simp) (by omega))
  rw [wrap_abc] at SQ
  have S1 := Lib.hid ((Still.refl w).alloc (Nat.le_refl _) (.cells (bytesV [97, 98, 99]).toArray 5 (3, 4)))
  obtain ⟨w1, hw1⟩ : ∃ w1, w1 = w.alloc (.cells (bytesV [97, 98, 99]).toArray 5 (3, 4)) := ⟨_, rfl⟩
  rw [← hw1] at SQ S1
  have HW := Lib.hid (show w.alloc (.cells #[.int .u8 97, .int .u8 98, .int .u8 99] 5 (3, 4)) = w1 by rw [hw1]; rfl)
  clear hw1
  have kc := fun (w : World) (C : Array Value) (n c : Nat) => Lib.run_convert_bytes_const (P := Try.prog) w 22 5 C n c Try.underlying22 Try.underlying5
  go_enter Try.func13, Try.ntmps13
  go_wp2_with fail
  clear kc
  rw [HW.out]
  refine (SQ.out _ (by omega) (by omega)).mono ?_
  rintro e w2 ⟨⟨v, rfl, own⟩, s2⟩
  have S2 := Lib.hid (Still.trans S1.out s2)
  obtain ⟨A, c, rfl, f1, f2, f3⟩ := own_form own
  have rd := Reads.of_own own
  obtain ⟨b, o, rfl, hb, hc⟩ := rd.at_ (by decide)
  have c0 : w2.cell? ⟨b, o + 1, none⟩ = some (.int .u8 3) := hc 1 (by decide)
  have hl : ([0, 3, 0, 0, 0, 97, 98, 99] : List UInt8).length = 8 := rfl
  rw [hl]
  clear hc own s2 rd SQ f1 f2 f3 hb
  go_wp2_with fail
  go_ret
  exact ⟨rfl, S2.out⟩
end Go.Proofs.Ytcbolakhdndffaa
