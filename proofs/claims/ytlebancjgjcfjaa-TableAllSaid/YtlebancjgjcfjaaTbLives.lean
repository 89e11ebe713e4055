/- Contract: whether anything is found at all. It proves no statement. -/
import Derived.Test.YtlebancjgjcfjaaTbPut
import Derived.Test.YtlebancjgjcfjaaTbOrd
namespace Go.Proofs.Ytlebancjgjcfjaa
open Go.RowKit
set_option linter.unusedVariables false
set_option linter.unusedSimpArgs false

def keyOne : List UInt8 := 1 :: List.replicate 31 0
theorem built_one : Try.prog.built 43 [(0, .int .u8 1)] = some (bytesV keyOne).toArray := by kernel_rfl
theorem still_chg {w a b : World} {S : Nat → Prop} (s : Still w a) (c : Chg a b S) (hS : ∀ k, S k → w.heap.size ≤ k) : Still w b := c.still s hS
set_option maxRecDepth 100000 in
set_option maxHeartbeats 1600000 in
theorem lives_any (w : World) : Calls Try.prog 8 #[] w fun e w' => e = .returned (.bool true) ∧ Still w w' := by
  have NW := Lib.hid (tnew_any w)
  have PU := Lib.hid (fun W g b (t : Tb W g b [] 8 0) => put_any t keyOne 7 rfl (by simp))
  have GE := Lib.hid (fun W g b cp dd (t : Tb W g b (insL keyOne [7] []) cp dd) => get_yes t keyOne 7 rfl (by simp [insL]) (by simp [insL]))
  have BO := Lib.hid built_one
  obtain ⟨kv, hkv⟩ : ∃ kv, kv = (bytesV keyOne).toArray := ⟨_, rfl⟩
  rw [← hkv] at PU GE BO
  clear hkv
  go_enter Try.func8, Try.ntmps8
  go_wp2_with (first
    | (go_at_call 17; refine NW.out.mono ?_; rintro e w1 ⟨g, b, rfl, t1, s1, hg, hb⟩; have T1 := Lib.hid t1; have S1 := Lib.hid s1; have HG := Lib.hid hg; have HB := Lib.hid hb; clear t1 s1 hg hb)
    | (guard_target =~ wpList _ _ _ (Oper.mk (some 6) _ _ _ _ _ :: _) _ _; go_must (refine wpList_buildTo rfl 43 _ rfl (some 6) rfl kv (by simp only [List.map_toArray, List.map_cons, List.map_nil]; exact BO.out) ?_))
    | (guard_target =~ wpList _ _ _ (Oper.mk (some 10) _ _ _ _ _ :: _) _ _; go_must (refine wpList_buildTo rfl 43 _ rfl (some 10) rfl kv (by simp only [List.map_toArray, List.map_cons, List.map_nil]; exact BO.out) ?_))
    | (go_at_call 20; refine (PU.out _ _ _ T1.out).mono ?_; rintro e w2 ⟨rfl, b2, cp2, dd2, t2, pr2, hb2, c2⟩; have T2 := Lib.hid t2; have S2 := Lib.hid (show Still w w2 from still_chg S1.out c2 (fun k hk => by
        have h1 := HG.out
        have h2 := HB.out
        rcases hk with h | h
        · rw [h]; exact h1
        · rw [h]; exact h2)); clear t2 pr2 hb2 c2)
    | (go_at_call 22; refine (GE.out _ _ _ _ _ T2.out).mono ?_; rintro e w3 ⟨rfl, s3⟩; have S3 := Lib.hid (Still.trans S2.out s3); clear s3))
  go_ret
  exact ⟨rfl, S3.out⟩
end Go.Proofs.Ytlebancjgjcfjaa
