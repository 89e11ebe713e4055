/- Media that are fast: behind Sync of all names and SyncDir a crash changes nothing. Mathematics; it proves no statement. -/
import Derived.Test.YtdadcfbapeldpaaMdAllAny
namespace Go.Proofs.Ytdadcfbapeldpaa
open Go.RowKit Go.Maps Go.WideMaps Go.Sort
set_option linter.unusedVariables false
set_option linter.unusedSimpArgs false

/-- All of a file is fast. -/
def Fi.still (F : Fi) : Prop := F.fast = F.now ∧ F.wait = []
theorem now_files {M : Me} (h : M.ok) : ∀ p ∈ M.now, ∃ F, M.fs p.2 = some F := by
  rw [h.eq]
  exact steps_files h.ff h.fw
/-- M is M0, but k of its files were synced. -/
structure Sy (M0 M : Me) (k : Nat) : Prop where
  now : M.now = M0.now
  files : ∀ gf F, M0.fs gf = some F → ∃ G, M.fs gf = some G ∧ G.now = F.now
  done : ∀ j, j < k → ∀ p, M0.now[j]? = some p → ∃ G, M.fs p.2 = some G ∧ G.still
theorem Sy.zero (M : Me) : Sy M M 0 := ⟨rfl, fun gf F h => ⟨F, h, rfl⟩, fun j hj => absurd hj (by omega)⟩
theorem bytes_of {M : Me} (h : M.ok) (ho : M.off = false) {p : List UInt8 × Nat} (hp : p ∈ M.now) {F : Fi} (hF : M.fs p.2 = some F) : M.find (txt p) = .inr (p.2, F) ∧ M.bytes (txt p) = (F.now, 0) := by
  have h1 : nFind M.now (txt p).data.toList = some p.2 := nFind_of_mem h.rn hp
  have h2 : M.find (txt p) = .inr (p.2, F) := by
    unfold Me.find
    rw [if_neg (by rw [ho]; decide), h1]
    simp only
    rw [hF]
  exact ⟨h2, by unfold Me.bytes; rw [h2]⟩
theorem Sy.all {M0 M : Me} {k : Nat} (h : Sy M0 M k) (h0 : M0.ok) (o0 : M0.off = false) (hM : M.ok) (oM : M.off = false) : allL M = allL M0 := by
  unfold allL
  rw [h.now]
  refine List.map_congr_left fun p hp => ?_
  obtain ⟨F, hF⟩ := now_files h0 p hp
  obtain ⟨G, hG, hGn⟩ := h.files _ _ hF
  rw [(bytes_of h0 o0 hp hF).2, (bytes_of hM oM (by rw [h.now]; exact hp) hG).2, hGn]
theorem Sy.step {M0 M : Me} {k : Nat} (h : Sy M0 M k) (h0 : M0.ok) (hM : M.ok) (on : M.On) {p : List UInt8 × Nat} (hp : M0.now[k]? = some p) : (opSync M (txt p)).1 = 0 ∧ Sy M0 (opSync M (txt p)).2 (k + 1) := by
  have hm := List.mem_of_getElem? hp
  obtain ⟨F, hF⟩ := now_files h0 p hm
  obtain ⟨G, hG, hGn⟩ := h.files _ _ hF
  have e : opSync M (txt p) = (0, M.wrote p.2 G.synced) := by
    unfold opSync
    rw [(bytes_of hM on.off (by rw [h.now]; exact hm) hG).1]
    simp only
    rw [if_neg on.ne]
  rw [e]
  refine ⟨rfl, h.now, fun gf F' hF' => ?_, fun j hj q hq => ?_⟩
  · by_cases hx : gf = p.2
    · subst hx
      rw [hF] at hF'
      obtain rfl := Option.some.inj hF'
      exact ⟨G.synced, upd_same _ _ _, hGn⟩
    · obtain ⟨G', h1, h2⟩ := h.files gf F' hF'
      exact ⟨G', (upd_other _ _ hx).trans h1, h2⟩
  · by_cases hx : q.2 = p.2
    · exact ⟨G.synced, by rw [hx]; exact upd_same _ _ _, rfl, rfl⟩
    · have hj2 : j < k := by
        rcases Nat.lt_or_ge j k with h1 | h1
        · exact h1
        · obtain rfl : j = k := by omega
          rw [hp] at hq
          exact absurd (congrArg Prod.snd (Option.some.inj hq)).symm hx
      obtain ⟨G', h1, h2⟩ := h.done j hj2 q hq
      exact ⟨G', (upd_other _ _ hx).trans h1, h2⟩
/-- Nothing waits. -/
structure Flat (M0 M : Me) : Prop where
  sy : Sy M0 M M0.now.length
  fast : M.fast = M.now
  wait : M.wait = []
theorem Sy.flat {M0 M : Me} (h : Sy M0 M M0.now.length) (on : M.On) : (opSyncDir M).1 = 0 ∧ Flat M0 (opSyncDir M).2 := by
  have e : opSyncDir M = (0, M.syncedDir) := by unfold opSyncDir; rw [if_neg on.no, if_neg on.ne]
  rw [e]
  exact ⟨rfl, ⟨h.now, h.files, h.done⟩, rfl, rfl⟩
theorem crash_still {F : Fi} (h : F.still) (zs : List Int) : F.crash zs = F := by
  obtain ⟨n, f, wt⟩ := F
  obtain ⟨h1, h2⟩ := h
  simp only at h1 h2
  subst h1
  subst h2
  have : crashL f [] zs = f := by simp [crashL, tornOf, appAll]
  unfold Fi.crash
  simp only [this]
theorem upd_id {fs : Nat → Option Fi} {f : Nat} {F : Fi} (h : fs f = some F) : upd fs f F = fs := by
  funext x
  unfold upd
  split
  · rename_i e
    rw [e, h]
  · rfl
theorem crAll_still (L : List Nat) (fs : Nat → Option Fi) (h : ∀ f ∈ L, ∃ F, fs f = some F ∧ F.still) : ∀ zs, (crAll fs zs L).1 = fs := by
  induction L with
  | nil => intro zs; rfl
  | cons f r ih =>
    intro zs
    obtain ⟨F, hF, hS⟩ := h f List.mem_cons_self
    have e : crSt (fs, zs) f = (fs, zs.tail.tail) := by
      unfold crSt
      simp only
      rw [hF]
      simp only
      rw [crash_still hS, upd_id hF]
    show (List.foldl crSt (crSt (fs, zs) f) r).1 = fs
    rw [e]
    exact ih (fun g hg => h g (List.mem_cons_of_mem _ hg)) _
theorem Flat.crash {M0 M : Me} (h : Flat M0 M) (zs : List Int) : Flat M0 (M.crash zs) := by
  have hl : M.lasts zs = M.now := by
    unfold Me.lasts
    rw [h.wait, h.fast, List.take_nil]
    rfl
  have hf : (M.crash zs).fs = M.fs := by
    show (crAll M.fs zs.tail ((M.lasts zs).map (·.2))).1 = M.fs
    rw [hl, h.sy.now]
    refine crAll_still _ _ (fun f hf => ?_) _
    obtain ⟨p, hp, rfl⟩ := List.mem_map.1 hf
    obtain ⟨j, hj, e⟩ := List.mem_iff_getElem.1 hp
    exact h.sy.done j hj p (by rw [List.getElem?_eq_getElem hj, e])
  have hn : (M.crash zs).now = M.now := hl
  have hs : (M.crash zs).fast = M.now := hl
  exact ⟨⟨hn.trans h.sy.now, fun gf F hF => by rw [hf]; exact h.sy.files gf F hF, fun j hj p hp => by rw [hf]; exact h.sy.done j hj p hp⟩, hs.trans hn.symm, rfl⟩
theorem crash_on {M : Me} (h : M.On) (zs : List Int) : (M.crash zs).On := ⟨rfl, rfl, h.nm.crash zs⟩
end Go.Proofs.Ytdadcfbapeldpaa
