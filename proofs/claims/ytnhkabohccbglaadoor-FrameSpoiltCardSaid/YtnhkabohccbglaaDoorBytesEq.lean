/- Bytes alike. It proves no statement. -/
import Derived.Test.YtnhkabohccbglaaDoorSame
import Derived.Test.YtnhkabohccbglaaDoorConv
import Derived.BigQuiet
import Derived.BigFrame
import Derived.Lib.SlBytesConst
namespace Go.Proofs.YtnhkabohccbglaaDoor
open Go.RowKit
set_option linter.unusedVariables false
set_option linter.unusedSimpArgs false

theorem text_iff (a b : ByteArray) : (a.toList = b.toList) ↔ a = b := by
  constructor
  · intro h
    rw [ByteArray.toList_eq, ByteArray.toList_eq] at h
    exact Go.WideShapes.bytes_inj h
  · intro h; rw [h]
set_option maxRecDepth 100000 in
set_option maxHeartbeats 800000 in
theorem bytesEq_any (A A' : Option Addr) (n n' c c' : Nat) (l l' : List UInt8) (w : World) (B B' : Nat) (h : Reads w B A n l) (h' : Reads w B' A' n' l') :
    Calls Tryd.prog 49 #[.slice A n c, .slice A' n' c'] w fun e w' => e = .returned (.bool (decide (l = l'))) ∧ w = w' := by
  have k1 := conv_reads h c
  have k2 := conv_reads h' c'
  obtain ⟨s, hs⟩ : ∃ s : ByteArray, s = ⟨l.toArray⟩ := ⟨_, rfl⟩
  obtain ⟨s', hs'⟩ : ∃ s : ByteArray, s = ⟨l'.toArray⟩ := ⟨_, rfl⟩
  rw [← hs] at k1
  rw [← hs'] at k2
  have hiff : (s = s') ↔ l = l' := by
    rw [hs, hs']
    constructor
    · intro e
      have := congrArg (fun b : ByteArray => b.data.toList) e
      simpa using this
    · intro e; rw [e]
  have HI := Lib.hid hiff
  by_cases he : s = s'
  · have hl := hiff.1 he
    rw [show decide (l = l') = true by simpa using hl]
    subst he
    clear h h' hs hs' hiff hl
    go_enter Tryd.func49, Tryd.ntmps49
    go_wp2_with fail
    go_ret
    exact ⟨by simp, rfl⟩
  · have hl : ¬ l = l' := fun e => he (hiff.2 e)
    rw [show decide (l = l') = false by simpa using hl]
    have hne : ¬ s.toList = s'.toList := fun e => he ((text_iff s s').1 e)
    clear h h' hs hs' hiff hl
    go_enter Tryd.func49, Tryd.ntmps49
    go_wp2_with fail
    go_ret
    exact ⟨by simp [hne], rfl⟩
end Go.Proofs.YtnhkabohccbglaaDoor
