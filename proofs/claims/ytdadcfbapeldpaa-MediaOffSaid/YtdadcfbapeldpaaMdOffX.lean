/- A medium in whatever state in a later world; arming. It proves no statement. -/
import Derived.Test.YtdadcfbapeldpaaMdSeen
namespace Go.Proofs.Ytdadcfbapeldpaa
open Go.RowKit Go.Maps Go.WideMaps Go.Sort
set_option linter.unusedVariables false
set_option linter.unusedSimpArgs false

structure AtX (w0 w2 wr : World) (g : Nat) (own0 : Own) (M : Me) (k : Nat) : Prop where
  ex : ∃ own : Own, MedI wr w0.heap.size own g M ∧ (∀ b, b < w2.heap.size → own b = own0 b)
  good : M.good k
  chg : Chg w2 wr (fun b => own0 b ≠ none)
  st : Still w0 wr
section
variable {w0 w2 wr w' : World} {g k : Nat} {own0 own : Own} {M M' : Me}
theorem AtX.left (h : AtX w0 w2 wr g own0 M k) {own : Own} (m : MedI wr w0.heap.size own g M) (ag : ∀ b, b < w2.heap.size → own b = own0 b) (hl : Left wr w' w0.heap.size g own M') (hg : M'.good (k + 1)) : AtX w0 w2 w' g own0 M' (k + 1) := by
  obtain ⟨c, own', h1, m'⟩ := hl
  exact ⟨⟨own', m', fun b hb => by rw [h1 b (Nat.lt_of_lt_of_le hb h.chg.size)]; exact ag b hb⟩, hg, h.chg.trans c (fun b hb h => by rw [← ag b hb]; exact h), c.still h.st (fun b hb => (m.dom b hb).1)⟩
theorem AtX.still (h : AtX w0 w2 wr g own0 M k) (s : Still wr w') : AtX w0 w2 w' g own0 M k := by
  obtain ⟨own, m, ag⟩ := h.ex
  exact ⟨⟨own, m.still s, ag⟩, h.good, h.chg.trans (Chg.of_still s (fun _ => False)) (fun b _ h => h.elim), Still.trans h.st s⟩
theorem AtX.mono (h : AtX w0 w2 wr g own0 M k) {k' : Nat} (hk : k ≤ k') : AtX w0 w2 wr g own0 M k' := ⟨h.ex, h.good.mono hk, h.chg, h.st⟩
end
/-- Its names are N, none of them too long; it is armed by left. -/
structure Arm (M : Me) (N : NT) (left : Int) (off : Bool) : Prop where
  now : M.now = N
  nm : M.Nms
  left : M.left = left
  off : M.off = off
theorem Arm.on {M : Me} {N : NT} (h : Arm M N (-1) false) : M.On := ⟨h.off, h.left, h.nm⟩
theorem Arm.of_on {M : Me} (h : M.On) : Arm M M.now (-1) false := ⟨rfl, h.nm, h.left, h.off⟩
theorem stepL_pos (j : Int) (h : 0 < j) : stepL j = j - 1 := by
  unfold stepL stepR
  rw [if_neg (by omega), if_pos h]
theorem Arm.sync {M : Me} {N : NT} {j : Int} (h : Arm M N j false) (hj : j ≠ 0) : (opSyncDir M).1 = 0 ∧ Arm (opSyncDir M).2 N (stepL j) false := by
  have e : opSyncDir M = (0, M.syncedDir) := by
    unfold opSyncDir
    rw [if_neg (by rw [h.off]; decide), if_neg (by rw [h.left]; exact hj)]
  rw [e]
  exact ⟨rfl, h.now, ⟨h.nm.now, h.nm.now, fun x hx => by cases hx⟩, by show stepL M.left = _; rw [h.left], h.off⟩
theorem Arm.die {M : Me} {N : NT} (h : Arm M N 0 false) : (opSyncDir M).1 = 12 ∧ Arm (opSyncDir M).2 N 0 true := by
  have e : opSyncDir M = (12, M.dead) := by
    unfold opSyncDir
    rw [if_neg (by rw [h.off]; decide), if_pos h.left]
  rw [e]
  exact ⟨rfl, h.now, ⟨h.nm.now, h.nm.fast, h.nm.wait⟩, h.left, rfl⟩
theorem Arm.arm {M : Me} {N : NT} (h : Arm M N (-1) false) (n : Nat) : (opArm M n).1 = 0 ∧ Arm (opArm M n).2 N n false := by
  have e : opArm M n = (0, { M with left := (n : Int) }) := by
    unfold opArm
    rw [if_neg (by rw [h.off]; decide), if_neg (by omega)]
  rw [e]
  exact ⟨rfl, h.now, ⟨h.nm.now, h.nm.fast, h.nm.wait⟩, rfl, h.off⟩
theorem Arm.crash {M : Me} {N : NT} {j : Int} (h : Arm M N j true) (hok : M.ok) (hc : M.cnt ≤ 1000000) : Arm (M.crash [4611686018427387904]) N (-1) false := by
  have hn : natN [4611686018427387904] M.wait.length = M.wait.length := by
    have := hok.len
    unfold natN tkN
    simp only
    omega
  have hl : M.lasts [4611686018427387904] = M.now := by
    unfold Me.lasts
    rw [hn, List.take_length]
    exact hok.eq.symm
  exact ⟨hl.trans h.now, h.nm.crash _, rfl, rfl⟩
theorem Arm.append {M : Me} {N : NT} (h : Arm M N (-1) false) (s : ByteArray) (x : List UInt8) : Arm (opAppend M s x).2 N (-1) false := by
  unfold opAppend
  split
  · exact h
  · split
    · exact h
    · rw [if_neg (by rw [h.left]; decide)]
      exact ⟨h.now, ⟨h.nm.now, h.nm.fast, h.nm.wait⟩, by show stepL M.left = _; rw [h.left]; exact stepL_on, h.off⟩
/-- SyncDir, whatever it answers. -/
theorem syncDir_at {w0 w2 wr : World} {g k : Nat} {own0 : Own} {M : Me} (h : AtX w0 w2 wr g own0 M k) (hk : k ≤ 800000) :
    Calls Try.prog 9 #[.pointer (some ⟨g, 0, none⟩)] wr fun e w' => e = .returned (.int .i64 (opSyncDir M).1) ∧ AtX w0 w2 w' g own0 (opSyncDir M).2 (k + 1) := by
  obtain ⟨own, m, ag⟩ := h.ex
  exact (syncDir_M m h.good.ok (by have := h.good.cnt; omega)).mono fun e w' ⟨he, hl⟩ => ⟨he, h.left m ag hl (opSyncDir_good h.good)⟩
end Go.Proofs.Ytdadcfbapeldpaa
