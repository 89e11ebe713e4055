/- What the room is worth, from call to call. It proves no statement. -/
import Derived.Test.YtlddmgofjeibaaaMdOps9
namespace Go.Proofs.Ytlddmgofjeibaaa
open Go.RowKit Go.Maps Go.WideMaps Go.Sort
set_option linter.unusedVariables false
set_option linter.unusedSimpArgs false

def szF (fs : Nat → Option Fi) (f : Nat) : Nat := match fs f with | some F => F.now.length | none => 0
def sumN (fs : Nat → Option Fi) (N : NT) : Nat := (N.map fun p => szF fs p.2).sum
theorem used_sumN (M : Me) : M.used = sumN M.fs M.now := by
  rw [Me.used_eq]
  rfl
theorem sumN_ins (fs : Nat → Option Fi) (x : List UInt8 × Nat) (N : NT) : sumN fs (nIns x N) = szF fs x.2 + sumN fs N := by
  induction N with
  | nil => simp [sumN, nIns]
  | cons y r ih =>
    unfold nIns
    split
    · simp [sumN]
    · unfold sumN at ih ⊢
      rw [List.map_cons, List.sum_cons, ih, List.map_cons, List.sum_cons]
      omega
theorem sumN_del (fs : Nat → Option Fi) (N : NT) (s : List UInt8) : sumN fs (nDel N s) ≤ sumN fs N := by
  unfold nDel
  induction N with
  | nil => exact Nat.le_refl _
  | cons y r ih =>
    rw [List.filter_cons]
    unfold sumN at ih ⊢
    split
    · rw [List.map_cons, List.sum_cons, List.map_cons, List.sum_cons]; omega
    · rw [List.map_cons, List.sum_cons]; omega
theorem sumN_del_mem (fs : Nat → Option Fi) {N : NT} {s : List UInt8} {gf : Nat} (hm : (s, gf) ∈ N) : sumN fs (nDel N s) + szF fs gf ≤ sumN fs N := by
  induction N with
  | nil => cases hm
  | cons y r ih =>
    unfold nDel
    rw [List.filter_cons]
    rcases List.mem_cons.1 hm with h | h
    · subst h
      have h1 := sumN_del fs r s
      unfold nDel at h1
      unfold sumN at h1 ⊢
      simp only [beq_self_eq_true, Bool.not_true, Bool.false_eq_true, if_false, List.map_cons, List.sum_cons]
      omega
    · have h1 := ih h
      unfold nDel at h1
      unfold sumN at h1 ⊢
      split
      · rw [List.map_cons, List.sum_cons, List.map_cons, List.sum_cons]; omega
      · rw [List.map_cons, List.sum_cons]; omega
/-- No file has two names. -/
def Once (N : NT) : Prop := (N.map (·.2)).Nodup
theorem Once.del {N : NT} (h : Once N) (s : List UInt8) : Once (nDel N s) := by
  unfold Once nDel at *
  exact List.Nodup.sublist (List.Sublist.map _ List.filter_sublist) h
theorem once_ins {x : List UInt8 × Nat} {N : NT} : Once (nIns x N) ↔ (∀ p ∈ N, p.2 ≠ x.2) ∧ Once N := by
  induction N with
  | nil => simp [nIns, Once]
  | cons y r ih =>
    unfold nIns
    split
    · unfold Once
      rw [List.map_cons, List.nodup_cons]
      constructor
      · rintro ⟨h1, h2⟩
        exact ⟨fun p hp e => h1 (by rw [← e]; exact List.mem_map.2 ⟨p, hp, rfl⟩), h2⟩
      · rintro ⟨h1, h2⟩
        refine ⟨fun hm => ?_, h2⟩
        obtain ⟨p, hp, e⟩ := List.mem_map.1 hm
        exact h1 p hp e
    · unfold Once at ih ⊢
      rw [List.map_cons, List.nodup_cons, ih, List.map_cons, List.nodup_cons]
      constructor
      · rintro ⟨h1, h2, h3⟩
        refine ⟨fun p hp e => ?_, ?_, h3⟩
        · rcases List.mem_cons.1 hp with rfl | hp
          · exact h1 (by rw [e]; exact List.mem_map.2 ⟨x, mem_ins.2 (.inl rfl), rfl⟩)
          · exact h2 p hp e
        · intro hm
          obtain ⟨p, hp, e⟩ := List.mem_map.1 hm
          exact h1 (List.mem_map.2 ⟨p, mem_ins.2 (.inr hp), e⟩)
      · rintro ⟨h1, h2, h3⟩
        refine ⟨fun hm => ?_, fun p hp => h1 p (List.mem_cons_of_mem _ hp), h3⟩
        obtain ⟨p, hp, e⟩ := List.mem_map.1 hm
        rcases mem_ins.1 hp with rfl | hp
        · exact h1 y (by simp) e.symm
        · exact h2 (List.mem_map.2 ⟨p, hp, e⟩)
theorem Once.ne_del {N : NT} (h : Once N) {s : List UInt8} {gf : Nat} (hm : (s, gf) ∈ N) : ∀ p ∈ nDel N s, p.2 ≠ gf := by
  intro p hp e
  obtain ⟨hp1, hp2⟩ := List.mem_filter.1 hp
  have : p = (s, gf) := by
    unfold Once at h
    clear hp
    induction N with
    | nil => cases hm
    | cons y r ih =>
      rw [List.map_cons, List.nodup_cons] at h
      rcases List.mem_cons.1 hm with h1 | h1
      · rcases List.mem_cons.1 hp1 with h2 | h2
        · rw [h2, h1]
        · exact absurd (List.mem_map.2 ⟨p, h2, by rw [e, ← h1]⟩) h.1
      · rcases List.mem_cons.1 hp1 with h2 | h2
        · exact absurd (List.mem_map.2 ⟨_, h1, by rw [← h2, e]⟩) h.1
        · exact ih h.2 h1 h2
  subst this
  simp at hp2
theorem szF_other {fs : Nat → Option Fi} {gf x : Nat} (F : Fi) (h : x ≠ gf) : szF (upd fs gf F) x = szF fs x := by unfold szF; rw [upd_other _ _ h]
theorem szF_same (fs : Nat → Option Fi) (gf : Nat) (F : Fi) : szF (upd fs gf F) gf = F.now.length := by unfold szF; rw [upd_same]
theorem szF_of {fs : Nat → Option Fi} {gf : Nat} {F : Fi} (h : fs gf = some F) : szF fs gf = F.now.length := by unfold szF; rw [h]
theorem sumN_out {fs : Nat → Option Fi} {gf : Nat} (F : Fi) {N : NT} (h : ∀ p ∈ N, p.2 ≠ gf) : sumN (upd fs gf F) N = sumN fs N := by
  unfold sumN
  congr 1
  exact List.map_congr_left (fun p hp => szF_other F (h p hp))
/-- One file's bytes changed. -/
theorem sumN_upd {fs : Nat → Option Fi} {gf : Nat} (F : Fi) {N : NT} (h : Once N) {s : List UInt8} (hm : (s, gf) ∈ N) : sumN (upd fs gf F) N + szF fs gf = sumN fs N + F.now.length := by
  induction N with
  | nil => cases hm
  | cons y r ih =>
    have h' := h
    unfold Once at h'
    rw [List.map_cons, List.nodup_cons] at h'
    have e1 : ∀ fs, sumN fs (y :: r) = szF fs y.2 + sumN fs r := fun fs => by unfold sumN; rw [List.map_cons, List.sum_cons]
    rw [e1, e1]
    rcases List.mem_cons.1 hm with h1 | h1
    · subst h1
      rw [szF_same, sumN_out F (fun p hp e => h'.1 (List.mem_map.2 ⟨p, hp, e⟩))]
      dsimp only
      omega
    · have hne : y.2 ≠ gf := fun e => h'.1 (List.mem_map.2 ⟨_, h1, by rw [e]⟩)
      have := ih h'.2 h1
      rw [szF_other F hne]
      omega
/-- The room holds. -/
structure Me.Fits (M : Me) (rm : Int) : Prop where
  room : M.room = rm
  once : Once M.now
  used : (sumN M.fs M.now : Int) ≤ rm
theorem Me.Fits.new {room : Int} (h : 0 ≤ room) : (Me.new room).Fits room := ⟨rfl, List.nodup_nil, by show ((0 : Nat) : Int) ≤ room; omega⟩
theorem Me.Fits.dead {M : Me} {room : Int} (h : M.Fits room) : M.dead.Fits room := ⟨h.room, h.once, h.used⟩
theorem Me.Fits.create {M : Me} {room : Int} (h : M.Fits room) (hok : M.ok) (s : ByteArray) (gf : Nat) (hg : M.fs gf = none) : (opCreate M s gf).2.Fits room := by
  unfold opCreate
  split
  · exact h
  split
  · exact h
  split
  · exact h
  split
  · exact h
  split
  · exact h.dead
  have hout : ∀ p ∈ M.now, p.2 ≠ gf := fun p hp e => by
    have hp' := hp
    rw [hok.eq] at hp'
    obtain ⟨F, hF⟩ := steps_files hok.ff hok.fw p hp'
    rw [e, hg] at hF
    cases hF
  have e0 : nmStep M.now (⟨#[]⟩, s, (gf : Int)) = nPut (nDel M.now []) s.data.toList gf := by
    unfold nmStep
    rw [if_neg (by show ¬ (gf : Int) < 0; omega)]
    rfl
  have hsub : ∀ p ∈ nDel (nDel M.now []) s.data.toList, p.2 ≠ gf := fun p hp => hout p (List.mem_filter.1 (List.mem_filter.1 hp).1).1
  refine ⟨h.room, ?_, ?_⟩
  · show Once (nmStep M.now (⟨#[]⟩, s, (gf : Int)))
    rw [e0]
    exact once_ins.2 ⟨hsub, (h.once.del _).del _⟩
  · show (sumN (upd M.fs gf ⟨[], [], []⟩) (nmStep M.now (⟨#[]⟩, s, (gf : Int))) : Int) ≤ room
    rw [e0]
    unfold nPut
    rw [sumN_ins, sumN_out _ hsub, szF_same]
    have h1 := sumN_del M.fs (nDel M.now []) s.data.toList
    have h2 := sumN_del M.fs M.now []
    have h3 := h.used
    show ((0 + sumN M.fs (nDel (nDel M.now []) s.data.toList) : Nat) : Int) ≤ room
    omega
theorem Me.Fits.link {M : Me} {room : Int} (h : M.Fits room) (s t : ByteArray) (gf : Nat) (hm : (s.data.toList, gf) ∈ M.now) : (M.link (s, t, (gf : Int)) M.fs).Fits room := by
  have e0 : nmStep M.now (s, t, (gf : Int)) = nPut (nDel M.now s.data.toList) t.data.toList gf := by
    unfold nmStep
    rw [if_neg (by show ¬ (gf : Int) < 0; omega)]
    rfl
  have hne := h.once.ne_del hm
  refine ⟨h.room, ?_, ?_⟩
  · show Once (nmStep M.now (s, t, (gf : Int)))
    rw [e0]
    exact once_ins.2 ⟨fun p hp => hne p (List.mem_filter.1 hp).1, (h.once.del _).del _⟩
  · show (sumN M.fs (nmStep M.now (s, t, (gf : Int))) : Int) ≤ room
    rw [e0]
    unfold nPut
    rw [sumN_ins]
    have h1 := sumN_del M.fs (nDel M.now s.data.toList) t.data.toList
    have h2 := sumN_del_mem M.fs hm
    have h3 := h.used
    show ((szF M.fs gf + sumN M.fs (nDel (nDel M.now s.data.toList) t.data.toList) : Nat) : Int) ≤ room
    omega
theorem Me.Fits.unlink {M : Me} {room : Int} (h : M.Fits room) (s : ByteArray) : (M.link (s, ⟨#[]⟩, -1) M.fs).Fits room := by
  have e0 : nmStep M.now (s, ⟨#[]⟩, -1) = nDel M.now s.data.toList := by
    unfold nmStep
    rw [if_pos (by show (-1 : Int) < 0; decide)]
  refine ⟨h.room, ?_, ?_⟩
  · show Once (nmStep M.now (s, ⟨#[]⟩, -1))
    rw [e0]
    exact h.once.del _
  · show (sumN M.fs (nmStep M.now (s, ⟨#[]⟩, -1)) : Int) ≤ room
    rw [e0]
    have h1 := sumN_del M.fs M.now s.data.toList
    have h3 := h.used
    omega
theorem Me.Fits.rename {M : Me} {room : Int} (h : M.Fits room) (s t : ByteArray) : (opRename M s t).2.Fits room := by
  unfold opRename
  split
  · exact h
  rename_i gf F hf
  split
  · exact h
  unfold opName
  split
  · exact h.dead
  · exact h.link s t gf (nFind_mem (Me.find_fs hf).2.1)
theorem Me.Fits.remove {M : Me} {room : Int} (h : M.Fits room) (s : ByteArray) : (opRemove M s).2.Fits room := by
  unfold opRemove
  split
  · exact h
  unfold opName
  split
  · exact h.dead
  · exact h.unlink s
/-- A file that turns, and is not longer than the room lets it. -/
theorem Me.Fits.wrote {M : Me} {room : Int} (h : M.Fits room) {s : List UInt8} {gf : Nat} {F F' : Fi} (hk : nFind M.now s = some gf) (hF : M.fs gf = some F) (hl : (sumN M.fs M.now : Int) + F'.now.length ≤ room + F.now.length) : (sumN (upd M.fs gf F') M.now : Int) ≤ room := by
  have := sumN_upd (fs := M.fs) F' h.once (nFind_mem hk)
  rw [szF_of hF] at this
  omega
theorem Me.Fits.append {M : Me} {room : Int} (h : M.Fits room) (s : ByteArray) (x : List UInt8) : (opAppend M s x).2.Fits room := by
  unfold opAppend
  split
  · exact h
  rename_i gf F hf
  obtain ⟨hF, hk, _⟩ := Me.find_fs hf
  split
  · exact h
  rename_i hr
  split
  · exact h.dead
  refine ⟨h.room, h.once, ?_⟩
  show (sumN (upd M.fs gf _) M.now : Int) ≤ room
  refine h.wrote hk hF ?_
  rw [used_sumN, h.room] at hr
  have : (F.wrote ⟨F.now.length, x⟩).now.length = F.now.length + x.length := by show (F.now.take F.now.length ++ x).length = _; rw [List.take_length, List.length_append]
  omega
theorem Me.Fits.truncate {M : Me} {room : Int} (h : M.Fits room) (s : ByteArray) (n : Int) : (opTruncate M s n).2.Fits room := by
  unfold opTruncate
  split
  · exact h
  rename_i gf F hf
  obtain ⟨hF, hk, _⟩ := Me.find_fs hf
  split
  · exact h
  split
  · exact h.dead
  refine ⟨h.room, h.once, ?_⟩
  show (sumN (upd M.fs gf _) M.now : Int) ≤ room
  refine h.wrote hk hF ?_
  have : (F.wrote ⟨n.toNat, []⟩).now.length ≤ F.now.length := by show (F.now.take n.toNat ++ []).length ≤ _; rw [List.append_nil, List.length_take]; omega
  have := h.used
  omega
theorem Me.Fits.sync {M : Me} {room : Int} (h : M.Fits room) (s : ByteArray) : (opSync M s).2.Fits room := by
  unfold opSync
  split
  · exact h
  rename_i gf F hf
  obtain ⟨hF, hk, _⟩ := Me.find_fs hf
  split
  · exact h.dead
  refine ⟨h.room, h.once, ?_⟩
  show (sumN (upd M.fs gf _) M.now : Int) ≤ room
  refine h.wrote hk hF ?_
  have := h.used
  show (sumN M.fs M.now : Int) + F.now.length ≤ room + F.now.length
  omega
theorem Me.Fits.syncDir {M : Me} {room : Int} (h : M.Fits room) : (opSyncDir M).2.Fits room := by
  unfold opSyncDir
  split
  · exact h
  split
  · exact h.dead
  · exact ⟨h.room, h.once, h.used⟩
theorem Me.Fits.arm {M : Me} {room : Int} (h : M.Fits room) (n : Int) : (opArm M n).2.Fits room := by
  unfold opArm
  split
  · exact h
  split
  · exact h
  · exact ⟨h.room, h.once, h.used⟩
theorem Me.Fits.rotted {M : Me} {room : Int} (h : M.Fits room) (s : ByteArray) (x : Int) (m : Nat) (o : Option Nat) : (M.rotted s x m o).2.Fits room := by
  unfold Me.rotted
  split
  · exact h
  rename_i gf hk
  split
  · exact h
  rename_i F hF
  split
  · exact h
  refine ⟨h.room, h.once, ?_⟩
  show (sumN (upd M.fs gf _) M.now : Int) ≤ room
  refine h.wrote hk hF ?_
  rw [rotAt_now, List.length_modify]
  have := h.used
  omega
theorem Me.Fits.step {M : Me} {room : Int} (h : M.Fits room) (hok : M.ok) (x : Call) (gf : Nat) (o : Option Nat) (hg : M.fs gf = none) (h8 : x.k ≠ 8) (h9 : x.k ≠ 9) : (stepM M x gf o).2.Fits room := by
  unfold stepM
  by_cases e0 : x.k = 0
  · rw [if_pos e0]; exact h.create hok _ _ hg
  rw [if_neg e0]
  by_cases e1 : x.k = 1
  · rw [if_pos e1]; exact h.append _ _
  rw [if_neg e1]
  by_cases e2 : x.k = 2
  · rw [if_pos e2]; exact h.truncate _ _
  rw [if_neg e2]
  by_cases e3 : x.k = 3
  · rw [if_pos e3]; exact h.rename _ _
  rw [if_neg e3]
  by_cases e4 : x.k = 4
  · rw [if_pos e4]; exact h.remove _
  rw [if_neg e4]
  by_cases e5 : x.k = 5
  · rw [if_pos e5]; exact h.sync _
  rw [if_neg e5]
  by_cases e6 : x.k = 6
  · rw [if_pos e6]; exact h.syncDir
  rw [if_neg e6]
  by_cases e7 : x.k = 7
  · rw [if_pos e7]; exact h.arm _
  rw [if_neg e7, if_neg h8, if_neg h9]
  by_cases e10 : x.k = 10
  · rw [if_pos e10]; exact h.rotted _ _ _ _
  rw [if_neg e10]
  exact h
end Go.Proofs.Ytlddmgofjeibaaa
