/- Contracts: Sync and SyncDir, where no error is met. They ask what settling does. It proves no statement. -/
import Derived.Test.YtlkkkifilgnhmaaMdSettle
namespace Go.Proofs.Ytlkkkifilgnhmaa
open Go.RowKit Go.Maps Go.WideMaps
set_option linter.unusedVariables false
set_option linter.unusedSimpArgs false

/-- A file's settle, where nothing waits. -/
theorem fsettle_nil {w : World} (gf : Nat) (nv fv : Value) (hf : FileB w gf nv fv (.slice none 0 0)) :
    Calls Try.prog 46 #[.pointer (some ⟨gf, 0, none⟩), .int .i64 0] w fun e w' => e = .returned (.tuple #[]) ∧ FileB w' gf nv fv (.slice none 0 0) ∧ Chg w w' (fun b => b = gf) := by
  have c2 : w.cell? ⟨gf, 2, none⟩ = some (.slice none 0 0) := hf.cell 2
  have kf := hf.frozen 2
  have FB := Lib.hid hf
  clear hf
  go_enter Try.func46, Try.ntmps46
  go_wp2_with fail
  go_loopw [13] (fun iv wr => iv = .int .i64 0 ∧ wr = w) (fun iv _ => 0)
  case atStart => exact ⟨rfl, rfl⟩
  case round =>
    obtain ⟨rfl, hw⟩ := hrel
    have hw' := hw.symm
    subst hw'
    clear hw
    go_wp2_with fail
    go_end0
    exact ⟨rfl, Blk.setc FB.out 2 _, chg_set _ gf 2 _⟩
theorem step_ok {left : Int} (hl0 : left ≠ 0) : (stepR left false).2.2 = 0 ∧ (stepR left false).2.1 = false := by
  unfold stepR
  rw [if_neg hl0]
  split <;> exact ⟨rfl, rfl⟩
set_option maxRecDepth 100000 in
set_option maxHeartbeats 1600000 in
theorem sync_ok {w : World} {g : Nat} {room : Int} {bn bf : Nat} {wv : Value} {left : Int} (h : MedB w g room bn bf wv left false) (hl : left ≤ 9223372036854775807) (hl0 : left ≠ 0) (s : ByteArray) (hs : s.size ≤ maxLen) (n : Nat) (D : DataW Unit) (hown : NM w bn n D)
    (gf k c : Nat) (A : Option Addr) (nv fv : Value) (hlk : look D s = (gf : Int)) (hf : FileB w gf nv fv (.slice A k c)) (hgg : gf ≠ g) (R : World → World → Prop)
    (SE : ∀ W, Chg w W (fun b => b = g) → Calls Try.prog 46 #[.pointer (some ⟨gf, 0, none⟩), .int .i64 (k : Int)] W fun e w' => e = .returned (.tuple #[]) ∧ R W w') :
    Calls Try.prog 27 #[.pointer (some ⟨g, 0, none⟩), .string s] w fun e w' => e = .returned (.int .i64 0) ∧ ∃ W, MedB W g room bn bf wv (stepR left false).1 false ∧ Chg w W (fun b => b = g) ∧ R W w' := by
  have FD := Lib.hid (find_yes h s n D hown hs)
  rw [hlk, show findV false (gf : Int) = pv (gf : Int) from rfl, pv_at, show findE false (gf : Int) = if (gf : Int) < 0 then 9 else 0 from rfl, if_neg (by omega)] at FD
  have ST0 := step_yes h hl
  have st := step_ok hl0
  rw [st.1, st.2] at ST0
  have ST := Lib.hid ST0
  have HF := Lib.hid (fun W (ch : Chg w W (fun b => b = g)) => (show W.cell? ⟨gf, 2, none⟩ = some (.slice A k c) from Blk.cell (ch.blk hf hgg) 2))
  have SEH := Lib.hid SE
  clear h hl hs hown hlk hf SE ST0 st
  go_enter Try.func27, Try.ntmps27
  go_wp2_with fail
  refine FD.out.mono ?_
  rintro e w2 ⟨rfl, rfl⟩
  go_wp2_with fail
  refine ST.out.mono ?_
  rintro e w3 ⟨rfl, m3, g3⟩
  have C3 := Lib.hid (show Chg w w3 (fun b => b = g) from Chg.of_grown g3 (fun k h _ => by simpa using h.symm))
  have M3 := Lib.hid m3
  have c2 := HF.out _ C3.out
  clear m3 g3
  go_wp2_with fail
  refine (SEH.out _ C3.out).mono ?_
  rintro e w4 ⟨rfl, r4⟩
  have R4 := Lib.hid r4
  clear r4 c2
  go_wp2_with fail
  go_ret
  exact ⟨rfl, w3, M3.out, C3.out, R4.out⟩
set_option maxRecDepth 100000 in
set_option maxHeartbeats 1600000 in
theorem syncDir_ok {w : World} {g : Nat} {room : Int} {bn bf : Nat} {left : Int} (k c : Nat) (A : Option Addr) (h : MedB w g room bn bf (.slice A k c) left false) (hl : left ≤ 9223372036854775807) (hl0 : left ≠ 0) (R : World → World → Prop)
    (SE : ∀ W, MedB W g room bn bf (.slice A k c) (stepR left false).1 false → Chg w W (fun b => b = g) → Calls Try.prog 16 #[.pointer (some ⟨g, 0, none⟩), .int .i64 (k : Int)] W fun e w' => e = .returned (.tuple #[]) ∧ R W w') :
    Calls Try.prog 5 #[.pointer (some ⟨g, 0, none⟩)] w fun e w' => e = .returned (.int .i64 0) ∧ ∃ W, MedB W g room bn bf (.slice A k c) (stepR left false).1 false ∧ Chg w W (fun b => b = g) ∧ R W w' := by
  have WK := Lib.hid (works_yes h)
  have ST0 := step_yes h hl
  have st := step_ok hl0
  rw [st.1, st.2] at ST0
  have ST := Lib.hid ST0
  have SEH := Lib.hid SE
  clear h hl SE ST0 st
  go_enter Try.func5, Try.ntmps5
  go_wp2_with fail
  refine WK.out.mono ?_
  rintro e w2 ⟨rfl, rfl⟩
  go_wp2_with fail
  refine ST.out.mono ?_
  rintro e w3 ⟨rfl, m3, g3⟩
  have C3 := Lib.hid (show Chg w w3 (fun b => b = g) from Chg.of_grown g3 (fun k h _ => by simpa using h.symm))
  have M3 := Lib.hid m3
  have c3 : w3.cell? ⟨g, 3, none⟩ = some (.slice A k c) := Blk.cell m3 3
  clear m3 g3
  go_wp2_with fail
  refine (SEH.out _ M3.out C3.out).mono ?_
  rintro e w4 ⟨rfl, r4⟩
  have R4 := Lib.hid r4
  clear r4 c3
  go_wp2_with fail
  go_ret
  exact ⟨rfl, w3, M3.out, C3.out, R4.out⟩
end Go.Proofs.Ytlkkkifilgnhmaa
