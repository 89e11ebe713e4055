/- A medium whose power is on and that isn't armed stays so. It proves no statement. -/
import Derived.Test.YtlkkkifilgnhmaaMdOps9
namespace Go.Proofs.Ytlkkkifilgnhmaa
open Go.RowKit Go.Maps Go.WideMaps Go.Sort
set_option linter.unusedVariables false
set_option linter.unusedSimpArgs false

/-- No name is too long. -/
def shortN (N : NT) : Prop := ∀ p ∈ N, p.1.length ≤ 24
theorem shortN_nil : shortN [] := fun p hp => by cases hp
theorem shortN_del {N : NT} (h : shortN N) (s : List UInt8) : shortN (nDel N s) := fun p hp => h p (List.mem_filter.1 hp).1
theorem mem_nIns {x p : List UInt8 × Nat} {N : NT} (h : p ∈ nIns x N) : p = x ∨ p ∈ N := by
  induction N with
  | nil => exact .inl (by simpa [nIns] using h)
  | cons y r ih =>
    unfold nIns at h
    split at h
    · rcases List.mem_cons.1 h with h | h
      · exact .inl h
      · exact .inr h
    · rcases List.mem_cons.1 h with h | h
      · exact .inr (h ▸ List.mem_cons_self)
      · rcases ih h with h | h
        · exact .inl h
        · exact .inr (List.mem_cons_of_mem _ h)
theorem shortN_put {N : NT} (h : shortN N) (s : List UInt8) (f : Nat) (hs : s.length ≤ 24) : shortN (nPut N s f) := fun p hp => by
  rcases mem_nIns hp with rfl | hp
  · exact hs
  · exact shortN_del h s p hp
def shortX (x : ByteArray × ByteArray × Int) : Prop := 0 ≤ x.2.2 → x.2.1.data.toList.length ≤ 24
theorem shortN_step {N : NT} (h : shortN N) (x : ByteArray × ByteArray × Int) (hx : shortX x) : shortN (nmStep N x) := by
  unfold nmStep
  split
  · exact shortN_del h _
  · exact shortN_put (shortN_del h _) _ _ (hx (by omega))
theorem shortN_steps (X : List (ByteArray × ByteArray × Int)) : ∀ {N : NT}, shortN N → (∀ x ∈ X, shortX x) → shortN (nmSteps N X) := by
  induction X with
  | nil => intro N h _; exact h
  | cons x r ih => intro N h hX; exact ih (shortN_step h x (hX x List.mem_cons_self)) (fun y hy => hX y (List.mem_cons_of_mem _ hy))
structure Me.Nms (M : Me) : Prop where
  now : shortN M.now
  fast : shortN M.fast
  wait : ∀ x ∈ M.wait, shortX x
theorem Me.Nms.link {M : Me} (h : M.Nms) (x : ByteArray × ByteArray × Int) (fs : Nat → Option Fi) (hx : shortX x) : (M.link x fs).Nms :=
  ⟨shortN_step h.now x hx, h.fast, fun y hy => by
    rcases List.mem_append.1 (show y ∈ M.wait ++ [x] from hy) with hy | hy
    · exact h.wait y hy
    · rw [List.mem_singleton.1 hy]; exact hx⟩
theorem Me.Nms.crash {M : Me} (h : M.Nms) (zs : List Int) : (M.crash zs).Nms := by
  have h1 : shortN (M.lasts zs) := shortN_steps _ h.fast (fun x hx => h.wait x (List.mem_of_mem_take hx))
  exact ⟨h1, h1, fun x hx => by cases hx⟩
theorem nmOK_len {s : ByteArray} (h : ¬ nmOK s.data.toList = false) : s.data.toList.length ≤ 24 := by
  have h1 : nmOK s.data.toList = true := by simpa using h
  unfold nmOK at h1
  simp only [Bool.and_eq_true, decide_eq_true_eq] at h1
  exact h1.1.2
/-- The power is on, nothing armed, no name too long. -/
structure Me.On (M : Me) : Prop where
  off : M.off = false
  left : M.left = -1
  nm : M.Nms
theorem Me.On.ne {M : Me} (h : M.On) : ¬ M.left = 0 := by rw [h.left]; decide
theorem Me.On.no {M : Me} (h : M.On) : ¬ M.off = true := by rw [h.off]; decide
theorem stepL_on : stepL (-1) = -1 := by unfold stepL stepR; rw [if_neg (by decide), if_neg (by decide)]
theorem Me.On.stepL {M : Me} (h : M.On) : stepL M.left = -1 := by rw [h.left]; exact stepL_on
theorem Me.On.new (room : Int) : (Me.new room).On := ⟨rfl, rfl, shortN_nil, shortN_nil, fun x hx => by cases hx⟩
theorem Me.On.link {M : Me} (h : M.On) (x : ByteArray × ByteArray × Int) (fs : Nat → Option Fi) (hx : shortX x) : (M.link x fs).On := ⟨h.off, h.stepL, h.nm.link x fs hx⟩
theorem Me.On.wrote {M : Me} (h : M.On) (gf : Nat) (F : Fi) : (M.wrote gf F).On := ⟨h.off, h.stepL, h.nm.now, h.nm.fast, h.nm.wait⟩
theorem Me.On.name {M : Me} (h : M.On) (x : ByteArray × ByteArray × Int) (hx : shortX x) : (opName M x).2.On := by unfold opName; rw [if_neg h.ne]; exact h.link _ _ hx
theorem Me.On.syncedDir {M : Me} (h : M.On) : M.syncedDir.On := ⟨h.off, h.stepL, h.nm.now, h.nm.now, fun x hx => by cases hx⟩
theorem Me.On.step {M : Me} (h : M.On) (x : Call) (gf : Nat) (o : Option Nat) (h7 : x.k ≠ 7) : (stepM M x gf o).2.On := by
  unfold stepM
  by_cases e0 : x.k = 0
  · rw [if_pos e0]
    unfold opCreate
    rw [if_neg h.no]
    split
    · exact h
    rename_i hnm
    split
    · exact h
    split
    · exact h
    rw [if_neg h.ne]
    exact h.link _ _ (fun _ => nmOK_len hnm)
  rw [if_neg e0]
  by_cases e1 : x.k = 1
  · rw [if_pos e1]
    unfold opAppend
    split
    · exact h
    · split
      · exact h
      · rw [if_neg h.ne]; exact h.wrote _ _
  rw [if_neg e1]
  by_cases e2 : x.k = 2
  · rw [if_pos e2]
    unfold opTruncate
    split
    · exact h
    · split
      · exact h
      · rw [if_neg h.ne]; exact h.wrote _ _
  rw [if_neg e2]
  by_cases e3 : x.k = 3
  · rw [if_pos e3]
    unfold opRename
    split
    · exact h
    · split
      · exact h
      · rename_i hnm
        exact h.name _ (fun _ => nmOK_len hnm)
  rw [if_neg e3]
  by_cases e4 : x.k = 4
  · rw [if_pos e4]
    unfold opRemove
    split
    · exact h
    · exact h.name _ (fun h0 => absurd (show (0 : Int) ≤ -1 from h0) (by decide))
  rw [if_neg e4]
  by_cases e5 : x.k = 5
  · rw [if_pos e5]
    unfold opSync
    split
    · exact h
    · rw [if_neg h.ne]; exact h.wrote _ _
  rw [if_neg e5]
  by_cases e6 : x.k = 6
  · rw [if_pos e6]
    unfold opSyncDir
    rw [if_neg h.no, if_neg h.ne]
    exact h.syncedDir
  rw [if_neg e6, if_neg h7]
  by_cases e8 : x.k = 8
  · rw [if_pos e8]; exact ⟨rfl, rfl, h.nm.crash _⟩
  rw [if_neg e8]
  by_cases e9 : x.k = 9
  · rw [if_pos e9]
    unfold opSetRoom
    rw [if_neg h.no]
    split
    · exact h
    · exact ⟨h.off, h.left, h.nm.now, h.nm.fast, h.nm.wait⟩
  rw [if_neg e9]
  by_cases e10 : x.k = 10
  · rw [if_pos e10]
    unfold Me.rotted
    split
    · exact h
    · split
      · exact h
      · split
        · exact h
        · exact ⟨h.off, h.left, h.nm.now, h.nm.fast, h.nm.wait⟩
  rw [if_neg e10]
  exact h
/-- Without power nothing changes, but by a crash or rot. -/
theorem off_step {M : Me} (h : M.off = true) (x : Call) (gf : Nat) (o : Option Nat) (h8 : x.k ≠ 8) (h10 : x.k ≠ 10) : stepM M x gf o = (([], 12, false), M) := by
  have hf : ∀ s, M.find s = .inl 12 := fun s => by unfold Me.find; rw [if_pos h]
  unfold stepM opCreate opAppend opTruncate opRename opRemove opSync opSyncDir opArm opSetRoom opRead
  simp only [hf, h, if_true, h8, h10, if_false]
  repeat' split
  all_goals rfl
end Go.Proofs.Ytlkkkifilgnhmaa
