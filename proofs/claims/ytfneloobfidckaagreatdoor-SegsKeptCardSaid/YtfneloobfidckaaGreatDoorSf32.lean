/- Contracts and facts, several texts in one. It proves no statement. -/
import Derived.Test.YtfneloobfidckaaGreatDoorSf31

/- The segments' bytes beside a log and its medium, while the power is on: what Append and Commit make of them. Mathematics; it proves no statement. -/


namespace Go.Proofs.YtfneloobfidckaaGreatDoor
open Go.RowKit Go.Maps Go.WideMaps Go.Sort
set_option linter.unusedVariables false
set_option linter.unusedSimpArgs false

theorem nFind_none {N : NT} {s : List UInt8} : nFind N s = none ↔ ∀ p ∈ N, p.1 ≠ s := by
  unfold nFind
  rw [Option.map_eq_none_iff, List.find?_eq_none]
  simp
theorem nFind_cons (y : List UInt8 × Nat) (r : NT) (s : List UInt8) : nFind (y :: r) s = if y.1 = s then some y.2 else nFind r s := by
  unfold nFind
  rw [List.find?_cons]
  by_cases e : y.1 = s
  · rw [if_pos e]; simp [e]
  · rw [if_neg e]
    have : (y.1 == s) = false := by simpa using e
    rw [this]
theorem nFind_ins {N : NT} (x : List UInt8 × Nat) (h : nFind N x.1 = none) (s : List UInt8) : nFind (nIns x N) s = if x.1 = s then some x.2 else nFind N s := by
  induction N with
  | nil => unfold nIns; rw [nFind_cons]
  | cons y r ih =>
    have h' := nFind_none.1 h
    have ih := ih (nFind_none.2 fun p hp => h' p (List.mem_cons_of_mem _ hp))
    unfold nIns
    split
    · rw [nFind_cons]
    · have hy := h' y (by simp)
      rw [nFind_cons, ih, nFind_cons]
      by_cases e : y.1 = s
      · rw [if_pos e, if_neg (fun e2 => hy (e.trans e2.symm)), if_pos e]
      · rw [if_neg e, if_neg e]
theorem nDel_none {N : NT} {s : List UInt8} (h : nFind N s = none) : nDel N s = N := by
  unfold nDel
  rw [List.filter_eq_self]
  intro p hp
  simpa using nFind_none.1 h p hp
theorem nDel_ins {N : NT} (x : List UInt8 × Nat) : nDel (nIns x N) x.1 = nDel N x.1 := by
  induction N with
  | nil => simp [nIns, nDel]
  | cons y r ih =>
    unfold nIns
    split
    · simp [nDel]
    · unfold nDel at ih ⊢
      rw [List.filter_cons, List.filter_cons, ih]
theorem dig_ok : ∀ (k n : Nat), ∀ c ∈ dig k n, inNm c.toNat = true
  | 0, _, c, h => by simp [dig] at h
  | k + 1, n, c, h => by
    rcases List.mem_append.1 (show c ∈ dig k (n / 10) ++ [UInt8.ofNat (48 + n % 10)] from h) with h | h
    · exact dig_ok k _ c h
    · have : c = UInt8.ofNat (48 + n % 10) := by simpa using h
      rw [this, digit_nat _ (by omega)]
      unfold inNm
      exact decide_eq_true (by omega)
theorem nmOK_sgnB (n : Nat) : nmOK (sgnB n) = true := by
  unfold nmOK
  rw [sgnB_length, Bool.and_eq_true]
  refine ⟨by decide, List.all_eq_true.2 fun c hc => ?_⟩
  rcases List.mem_append.1 (show c ∈ [115, 101, 103, 46] ++ dig 8 n from hc) with h | h
  · exact (show ∀ c ∈ ([115, 101, 103, 46] : List UInt8), inNm c.toNat = true by decide) c h
  · exact dig_ok 8 n c h
/-- Segments: each one's number and bytes. -/
abbrev Sb := List (Nat × List UInt8)
def nextX (X : Sb) : Nat := match X.getLast? with | none => 0 | some p => p.1 + 1
/-- The log, its medium, and the segments' bytes. -/
structure AB (M : Me) (S : Lg) (X : Sb) (rm : Int) : Prop where
  ok : M.ok
  sok : S.ok
  off : M.off = false
  left : M.left = -1
  segs : S.segs = X.map fun p => (p.1, p.2.length)
  file : ∀ p ∈ X, ∃ gf F, nFind M.now (sgnB p.1) = some gf ∧ M.fs gf = some F ∧ F.now = p.2
  only : ∀ q ∈ M.now, ∃ p ∈ X, q.1 = sgnB p.1
  fits : M.Fits rm
section
variable {M : Me} {S : Lg} {X : Sb} {rm : Int}
theorem AB.num (h : AB M S X rm) {p : Nat × List UInt8} (hp : p ∈ X) : p.1 < 1048576 ∧ p.2.length ≤ 16777216 :=
  h.sok.num (p.1, p.2.length) (by rw [h.segs]; exact List.mem_map.2 ⟨p, hp, rfl⟩)
theorem AB.rise (h : AB M S X rm) : X.Pairwise fun p q => p.1 < q.1 := by
  have := h.sok.rise
  rw [h.segs, List.pairwise_map] at this
  exact this
theorem AB.name (h : AB M S X rm) {p : Nat × List UInt8} (hp : p ∈ X) : (nameS (p.1 : Int)).data.toList = sgnB p.1 := by
  rw [nameS_list, if_pos ⟨by omega, by have := (h.num hp).1; omega⟩]
  rfl
theorem AB.find (h : AB M S X rm) {p : Nat × List UInt8} (hp : p ∈ X) : ∃ gf F, M.find (nameS (p.1 : Int)) = .inr (gf, F) ∧ F.now = p.2 ∧ nFind M.now (sgnB p.1) = some gf ∧ M.fs gf = some F := by
  obtain ⟨gf, F, h1, h2, h3⟩ := h.file p hp
  refine ⟨gf, F, ?_, h3, h1, h2⟩
  unfold Me.find
  rw [if_neg (by rw [h.off]; decide), h.name hp, h1]
  simp only [h2]
theorem AB.bytes (h : AB M S X rm) {p : Nat × List UInt8} (hp : p ∈ X) : M.bytes (nameS (p.1 : Int)) = (p.2, 0) := by
  obtain ⟨gf, F, h1, h2, _⟩ := h.find hp
  unfold Me.bytes
  rw [h1]
  simp only [h2]
theorem AB.ne (h : AB M S X rm) : ¬ M.left = 0 := by rw [h.left]; decide
theorem stepL_m1 : stepL (-1) = -1 := by unfold stepL stepR; rw [if_neg (by decide), if_neg (by decide)]
theorem AB.stepN (h : AB M S X rm) : stepL M.left = -1 := by rw [h.left]; exact stepL_m1
/-- One segment is one name. -/
theorem AB.uniq (h : AB M S X rm) {p q : Nat × List UInt8} (hp : p ∈ X) (hq : q ∈ X) (e : p.1 = q.1) : p = q := by
  obtain ⟨i, hi, ei⟩ := List.mem_iff_getElem.1 hp
  obtain ⟨j, hj, ej⟩ := List.mem_iff_getElem.1 hq
  have hr := List.pairwise_iff_getElem.1 h.rise
  rcases Nat.lt_trichotomy i j with hl | hl | hl
  · have := hr i j hi hj hl; rw [ei, ej] at this; omega
  · subst hl; rw [← ei, ← ej]
  · have := hr j i hj hi hl; rw [ei, ej] at this; omega
/-- Other files are other files. -/
theorem AB.apart (h : AB M S X rm) {p q : Nat × List UInt8} (hp : p ∈ X) (hq : q ∈ X) {a b : Nat} (ha : nFind M.now (sgnB p.1) = some a) (hb : nFind M.now (sgnB q.1) = some b) (e : a = b) : p = q := by
  have m1 := nFind_mem ha
  have m2 := nFind_mem hb
  subst e
  have ho := h.fits.once
  have key : ∀ (N : NT), Once N → ∀ s t, (s, a) ∈ N → (t, a) ∈ N → s = t := by
    intro N
    induction N with
    | nil => intro _ s t hs; cases hs
    | cons y r ih =>
      intro hN s t hs ht
      unfold Once at hN
      rw [List.map_cons, List.nodup_cons] at hN
      rcases List.mem_cons.1 hs with h1 | h1
      · rcases List.mem_cons.1 ht with h2 | h2
        · exact congrArg Prod.fst (h1.trans h2.symm)
        · exact absurd (List.mem_map.2 ⟨_, h2, by rw [← h1]⟩) hN.1
      · rcases List.mem_cons.1 ht with h2 | h2
        · exact absurd (List.mem_map.2 ⟨_, h1, by rw [← h2]⟩) hN.1
        · exact ih hN.2 s t h1 h2
  have := key _ ho _ _ m1 m2
  exact h.uniq hp hq (sgnB_inj (h.num hp).1 (h.num hq).1 this)
/-- A file synced. -/
theorem AB.sync (h : AB M S X rm) {p : Nat × List UInt8} (hp : p ∈ X) : (opSync M (nameS (p.1 : Int))).1 = 0 ∧ AB (opSync M (nameS (p.1 : Int))).2 S X rm ∧ (opSync M (nameS (p.1 : Int))).2.now = M.now ∧ (opSync M (nameS (p.1 : Int))).2.used = M.used := by
  obtain ⟨gf, F, h1, h2, h3, h4⟩ := h.find hp
  have e : opSync M (nameS (p.1 : Int)) = (0, M.wrote gf F.synced) := by
    unfold opSync
    rw [h1]
    simp only
    rw [if_neg h.ne]
  have hf := h.fits.sync (nameS (p.1 : Int))
  rw [e] at hf ⊢
  refine ⟨rfl, ⟨Me.wrote_ok h.ok h.ne _ _, h.sok, h.off, h.stepN, h.segs, fun q hq => ?_, h.only, hf⟩, rfl, ?_⟩
  · obtain ⟨a, G, k1, k2, k3⟩ := h.file q hq
    by_cases ea : a = gf
    · subst ea
      rw [h4] at k2
      injection k2 with k2
      subst k2
      exact ⟨a, F.synced, k1, upd_same _ _ _, k3⟩
    · exact ⟨a, G, k1, (upd_other _ _ ea).trans k2, k3⟩
  · rw [used_sumN, used_sumN]
    have := sumN_upd (fs := M.fs) F.synced h.fits.once (nFind_mem h3)
    rw [szF_of h4] at this
    show sumN (upd M.fs gf F.synced) M.now = _
    have e2 : F.synced.now = F.now := rfl
    rw [e2] at this
    omega
theorem AB.syncDir (h : AB M S X rm) : (opSyncDir M).1 = 0 ∧ AB (opSyncDir M).2 S X rm ∧ (opSyncDir M).2.used = M.used := by
  have e : opSyncDir M = (0, M.syncedDir) := by
    unfold opSyncDir
    rw [if_neg (by rw [h.off]; decide), if_neg h.ne]
  have hf := h.fits.syncDir
  rw [e] at hf ⊢
  exact ⟨rfl, ⟨Me.syncedDir_ok h.ok h.ne, h.sok, h.off, h.stepN, h.segs, h.file, h.only, hf⟩, by rw [used_sumN, used_sumN]; rfl⟩
/-- The log's own numbers turned: nothing that the segments are. -/
theorem AB.log (h : AB M S X rm) {S' : Lg} (e : S'.segs = S.segs) (hok : S'.ok) : AB M S' X rm := ⟨h.ok, hok, h.off, h.left, e.trans h.segs, h.file, h.only, h.fits⟩
theorem AB.size (h : AB M S X rm) {i : Nat} {p : Nat × List UInt8} (hp : X[i]? = some p) : sizeL M S i = (p.2.length, S) := by
  have hs : S.segs[i]? = some (p.1, p.2.length) := by rw [h.segs, List.getElem?_map, hp]; rfl
  unfold sizeL
  rw [hs]
  simp only
  rw [h.bytes (List.mem_of_getElem? hp), if_neg (show ¬ ((0 : Int) = 12) by decide)]
  show (p.2.length, S.sized i p.2.length) = _
  congr 1
  unfold Lg.sized
  have : (S.segs.modify i fun q => (q.1, p.2.length)) = S.segs := by
    apply List.ext_getElem?
    intro j
    rw [List.getElem?_modify]
    by_cases ej : i = j
    · subst ej; rw [hs]; simp
    · simp [ej]
  rw [this]
/-- Bytes put behind the last segment's. -/
theorem AB.extend (h : AB M S X rm) {Y : Sb} {p : Nat × List UInt8} (hX : X = Y ++ [p]) (b : List UInt8) (hb : p.2.length + b.length ≤ 16777216) :
    (rm < (b.length : Int) + M.used ∧ extendL M S b = (11, M, S)) ∨ ((extendL M S b).1 = 0 ∧ AB (extendL M S b).2.1 (extendL M S b).2.2 (Y ++ [(p.1, p.2 ++ b)]) rm ∧ (extendL M S b).2.2.fresh = S.fresh ∧ (extendL M S b).2.2.limit = S.limit ∧ (extendL M S b).2.2.isOpen = S.isOpen ∧ (extendL M S b).2.1.used = M.used + b.length) := by
  have hp : p ∈ X := by rw [hX]; simp
  obtain ⟨gf, F, h1, h2, h3, h4⟩ := h.find hp
  have hs : S.segs.getLast? = some (p.1, p.2.length) := by rw [h.segs, hX, List.map_append]; simp
  have hl : S.segs.length - 1 = Y.length := by rw [h.segs, hX]; simp
  have e : opAppend M (nameS (p.1 : Int)) b = if M.room < (b.length : Int) + M.used then (11, M) else (0, M.wrote gf (F.wrote ⟨F.now.length, b⟩)) := by
    unfold opAppend
    rw [h1]
    simp only
    rw [if_neg h.ne]
  have hf := h.fits.append (nameS (p.1 : Int)) b
  unfold extendL
  rw [hs]
  simp only
  rw [h.fits.room] at e
  rw [e] at hf ⊢
  by_cases c : rm < (b.length : Int) + M.used
  · left
    refine ⟨c, ?_⟩
    rw [if_pos c, if_neg (show ¬ ((11 : Int) = 0) by decide)]
  · right
    rw [if_neg c] at hf ⊢
    rw [if_pos rfl]
    have e1 : (F.wrote ⟨F.now.length, b⟩).now = p.2 ++ b := by
      show F.now.take F.now.length ++ b = _
      rw [List.take_length, h2]
    refine ⟨rfl, ⟨Me.wrote_ok h.ok h.ne _ _, Lg.sized_ok h.sok (by simpa using hb), h.off, h.stepN, ?_, fun q hq => ?_, fun q hq => ?_, hf⟩, rfl, rfl, rfl, ?_⟩
    · show (S.segs.modify (S.segs.length - 1) fun q => (q.1, p.2.length + b.length)) = _
      rw [hl, h.segs, hX, List.map_append, List.map_append]
      apply List.ext_getElem?
      intro j
      rw [List.getElem?_modify]
      by_cases ej : Y.length = j
      · subst ej
        rw [List.getElem?_append_right (by simp), List.getElem?_append_right (by simp)]
        simp
      · simp only [ej, if_false]
        by_cases hj : j < Y.length
        · rw [List.getElem?_append_left (by simpa using hj), List.getElem?_append_left (by simpa using hj)]
          cases Y[j]? <;> simp
        · rw [List.getElem?_eq_none (by simp; omega), List.getElem?_eq_none (by simp; omega)]
          rfl
    · rcases List.mem_append.1 hq with hq | hq
      · have hqX : q ∈ X := by rw [hX]; exact List.mem_append_left _ hq
        obtain ⟨a, G, k1, k2, k3⟩ := h.file q hqX
        refine ⟨a, G, k1, (upd_other _ _ fun ea => ?_).trans k2, k3⟩
        have hqp := h.apart hqX hp k1 h3 ea
        rw [hqp] at hq
        have hr := h.rise
        rw [hX, List.pairwise_append] at hr
        have := hr.2.2 _ hq _ List.mem_cons_self
        omega
      · have : q = (p.1, p.2 ++ b) := by simpa using hq
        subst this
        exact ⟨gf, _, h3, upd_same _ _ _, e1⟩
    · obtain ⟨r, hr, er⟩ := h.only q hq
      rw [hX] at hr
      rcases List.mem_append.1 hr with hr | hr
      · exact ⟨r, List.mem_append_left _ hr, er⟩
      · have : r = p := by simpa using hr
        subst this
        exact ⟨(r.1, r.2 ++ b), by simp, er⟩
    · rw [used_sumN, used_sumN]
      have := sumN_upd (fs := M.fs) (F.wrote ⟨F.now.length, b⟩) h.fits.once (nFind_mem h3)
      have e1l : (F.wrote ⟨F.now.length, b⟩).now.length = p.2.length + b.length := by rw [e1, List.length_append]
      have e1f : F.now.length = p.2.length := by rw [h2]
      rw [szF_of h4, e1l, e1f] at this
      rw [e1f]
      show sumN (upd M.fs gf _) M.now = _
      omega
theorem AB.next (h : AB M S X rm) : nextL S = nextX X := by
  unfold nextL nextX
  rw [h.segs, List.getLast?_map]
  cases X.getLast? <;> rfl
/-- A new segment. -/
theorem AB.begin (h : AB M S X rm) {gf : Nat} (hg : M.fs gf = none) (b : List UInt8) (hb : b.length ≤ 17000) :
    ((beginL M S b gf).1 ≠ 0 ∧ AB (beginL M S b gf).2.1 S X rm ∧ (beginL M S b gf).2.2 = S ∧ (beginL M S b gf).2.1.now = M.now ∧ (beginL M S b gf).2.1.used = M.used ∧ ((beginL M S b gf).1 = 11 → rm < (b.length : Int) + 8 + M.used) ∧ ((beginL M S b gf).1 = 11 ∨ nextX X = 1048576 ∨ 500 ≤ M.now.length))
    ∨ ((beginL M S b gf).1 = 0 ∧ AB (beginL M S b gf).2.1 (beginL M S b gf).2.2 (X ++ [(nextX X, magicL ++ b)]) rm ∧ (beginL M S b gf).2.2 = S.grown (nextX X, 8 + b.length) ∧ (beginL M S b gf).2.1.used = M.used + (8 + b.length)) := by
  unfold beginL
  rw [h.next]
  by_cases h0 : nextX X = 1048576
  · left
    rw [if_pos h0]
    exact ⟨show (16 : Int) ≠ 0 by decide, h, rfl, rfl, rfl, fun e => absurd e (show ¬ ((16 : Int) = 11) by decide), .inr (.inl h0)⟩
  rw [if_neg h0]
  obtain ⟨n, hn⟩ : ∃ n, n = nextX X := ⟨_, rfl⟩
  have hab := nextL_above h.sok
  rw [h.next, ← hn] at hab
  have hnl : n < 1048576 := by
    have := nextL_le h.sok
    rw [h.next] at this
    omega
  have hgr := Lg.grown_ok h.sok (by rw [h.next]; omega) (z := 8 + b.length) (by omega)
  rw [h.next] at hgr
  rw [← hn] at hgr ⊢
  obtain ⟨s, hs⟩ : ∃ s, s = nameS (n : Int) := ⟨_, rfl⟩
  have hsl : s.data.toList = sgnB n := by rw [hs, nameS_list, if_pos ⟨by omega, by omega⟩]; rfl
  have hno : nFind M.now (sgnB n) = none := by
    rw [nFind_none]
    intro q hq e
    obtain ⟨p, hp, ep⟩ := h.only q hq
    rw [ep] at e
    have := sgnB_inj (h.num hp).1 hnl e
    have := hab (p.1, p.2.length) (by rw [h.segs]; exact List.mem_map.2 ⟨p, hp, rfl⟩)
    omega
  have hfull : nFind M.now [] = none := by
    rw [nFind_none]
    intro q hq e
    obtain ⟨p, hp, ep⟩ := h.only q hq
    have := congrArg List.length (ep.symm.trans e)
    rw [sgnB_length] at this
    cases this
  have ec : opCreate M s gf = if 500 ≤ M.now.length then (16, M) else (0, M.link (⟨#[]⟩, s, (gf : Int)) (upd M.fs gf ⟨[], [], []⟩)) := by
    unfold opCreate
    rw [if_neg (by rw [h.off]; decide), hsl, if_neg (by rw [nmOK_sgnB]; decide), hno, if_neg (by decide), if_neg h.ne]
  have hfc := h.fits.create h.ok s gf hg
  rw [← hs]
  rw [ec] at hfc ⊢
  by_cases h5 : 500 ≤ M.now.length
  · left
    rw [if_pos h5, if_pos (show (16 : Int) ≠ 0 by decide)]
    exact ⟨show (16 : Int) ≠ 0 by decide, h, rfl, rfl, rfl, fun e => absurd e (show ¬ ((16 : Int) = 11) by decide), .inr (.inr h5)⟩
  rw [if_neg h5] at hfc ⊢
  rw [if_neg (show ¬ ((0 : Int) ≠ 0) by decide)]
  dsimp only at hfc ⊢
  have hok1 : (M.link (⟨#[]⟩, s, (gf : Int)) (upd M.fs gf ⟨[], [], []⟩)).ok := Me.link_ok h.ok h.ne _ _ (fun x G hG => upd_some hG) (fun _ => ⟨_, by simp only [Int.toNat_natCast]; exact upd_same _ _ _⟩)
  have hnow : (M.link (⟨#[]⟩, s, (gf : Int)) (upd M.fs gf ⟨[], [], []⟩)).now = nIns (sgnB n, gf) M.now := by
    show nmStep M.now (⟨#[]⟩, s, (gf : Int)) = _
    unfold nmStep
    rw [if_neg (by show ¬ (gf : Int) < 0; omega)]
    show nPut (nDel M.now []) s.data.toList gf = _
    unfold nPut
    rw [nDel_none hfull, hsl, nDel_none hno]
  have hfs : (M.link (⟨#[]⟩, s, (gf : Int)) (upd M.fs gf ⟨[], [], []⟩)).fs = upd M.fs gf ⟨[], [], []⟩ := rfl
  have hlf : (M.link (⟨#[]⟩, s, (gf : Int)) (upd M.fs gf ⟨[], [], []⟩)).left = -1 := h.stepN
  have hof : (M.link (⟨#[]⟩, s, (gf : Int)) (upd M.fs gf ⟨[], [], []⟩)).off = false := h.off
  obtain ⟨M1, hM1⟩ : ∃ M1, M1 = M.link (⟨#[]⟩, s, (gf : Int)) (upd M.fs gf ⟨[], [], []⟩) := ⟨_, rfl⟩
  rw [← hM1] at hfc hok1 hnow hfs hlf hof ⊢
  have hne1 : ¬ M1.left = 0 := by rw [hlf]; decide
  have hk1 : nFind M1.now (sgnB n) = some gf := by rw [hnow, nFind_ins _ hno, if_pos rfl]
  have hF1 : M1.fs gf = some ⟨[], [], []⟩ := by rw [hfs]; exact upd_same _ _ _
  have hold : ∀ q ∈ X, ∃ a G, nFind M1.now (sgnB q.1) = some a ∧ M1.fs a = some G ∧ G.now = q.2 ∧ a ≠ gf := by
    intro q hq
    obtain ⟨a, G, k1, k2, k3⟩ := h.file q hq
    have hag : a ≠ gf := fun e => by rw [e, hg] at k2; cases k2
    refine ⟨a, G, ?_, ?_, k3, hag⟩
    · rw [hnow, nFind_ins _ hno, if_neg ?_, k1]
      intro e
      have := sgnB_inj hnl (h.num hq).1 e
      have := hab (q.1, q.2.length) (by rw [h.segs]; exact List.mem_map.2 ⟨q, hq, rfl⟩)
      omega
    · rw [hfs, upd_other _ _ hag]; exact k2
  have hfd : M1.find s = .inr (gf, ⟨[], [], []⟩) := by
    unfold Me.find
    rw [if_neg (by rw [hof]; decide), hsl, hk1]
    simp only [hF1]
  have hu1 : M1.used = M.used := by
    rw [used_sumN, used_sumN, hnow, sumN_ins, hfs, szF_same]
    have hout : ∀ q ∈ M.now, q.2 ≠ gf := by
      intro q hq e
      obtain ⟨G, hG⟩ := steps_files h.ok.ff h.ok.fw q (by rw [← h.ok.eq]; exact hq)
      rw [e, hg] at hG
      cases hG
    rw [sumN_out _ hout]
    show 0 + _ = _
    omega
  have ea : opAppend M1 s (magicL ++ b) = if rm < ((magicL ++ b).length : Int) + M.used then (11, M1) else (0, M1.wrote gf (Fi.wrote ⟨[], [], []⟩ ⟨0, magicL ++ b⟩)) := by
    unfold opAppend
    rw [hfd]
    simp only
    rw [if_neg hne1, hfc.room, hu1]
    rfl
  have hlen : ((magicL ++ b).length : Int) = (b.length : Int) + 8 := by rw [List.length_append]; show ((8 + b.length : Nat) : Int) = _; omega
  have hfa := hfc.append s (magicL ++ b)
  rw [ea] at hfa ⊢
  rw [hlen] at hfa ⊢
  by_cases c : rm < (b.length : Int) + 8 + M.used
  · left
    rw [if_pos c] at hfa ⊢
    rw [if_pos rfl]
    have er : opRemove M1 s = (0, M1.link (s, ⟨#[]⟩, -1) M1.fs) := by
      unfold opRemove
      rw [hfd]
      show opName M1 (s, ⟨#[]⟩, -1) = _
      unfold opName
      rw [if_neg hne1]
    have hfr := hfa.remove s
    dsimp only at hfr ⊢
    rw [er] at hfr ⊢
    have hnow2 : (M1.link (s, ⟨#[]⟩, -1) M1.fs).now = M.now := by
      show nmStep M1.now (s, ⟨#[]⟩, -1) = _
      unfold nmStep
      rw [if_pos (by show (-1 : Int) < 0; decide)]
      show nDel M1.now s.data.toList = _
      rw [hsl, hnow, nDel_ins, nDel_none hno]
    rw [if_neg (show ¬ ((0 : Int) = 12) by decide)]
    refine ⟨show (11 : Int) ≠ 0 by decide, ⟨Me.link_ok hok1 hne1 _ _ (fun x G hG => ⟨G, hG⟩) (fun h0 => absurd h0 (by show ¬ (0 : Int) ≤ -1; decide)), h.sok, hof, ?_, h.segs, fun q hq => ?_, fun q hq => ?_, hfr⟩, rfl, hnow2, ?_, fun _ => c, .inl rfl⟩
    · show stepL M1.left = -1
      rw [hlf]
      exact stepL_m1
    · obtain ⟨a, G, k1, k2, k3, k4⟩ := hold q hq
      refine ⟨a, G, ?_, k2, k3⟩
      rw [hnow2]
      rw [hnow, nFind_ins _ hno] at k1
      split at k1
      · injection k1 with k1; exact absurd k1.symm k4
      · exact k1
    · exact h.only q (by rw [← hnow2]; exact hq)
    · rw [used_sumN, hnow2, used_sumN]
      show sumN M1.fs M.now = _
      rw [hfs]
      refine sumN_out _ ?_
      intro q hq e
      obtain ⟨G, hG⟩ := steps_files h.ok.ff h.ok.fw q (by rw [← h.ok.eq]; exact hq)
      rw [e, hg] at hG
      cases hG
  · right
    rw [if_neg c] at hfa ⊢
    rw [if_neg (show ¬ ((0 : Int) = 11) by decide), if_neg (show ¬ ((0 : Int) ≠ 0) by decide)]
    dsimp only at hfa ⊢
    refine ⟨rfl, ⟨Me.wrote_ok hok1 hne1 _ _, hgr, hof, ?_, ?_, fun q hq => ?_, fun q hq => ?_, hfa⟩, rfl, ?_⟩
    · show stepL M1.left = -1
      rw [hlf]
      exact stepL_m1
    · show S.segs ++ [(n, 8 + b.length)] = _
      rw [List.map_append, h.segs, List.map_cons, List.map_nil, List.length_append]
      rfl
    · rcases List.mem_append.1 hq with hq | hq
      · obtain ⟨a, G, k1, k2, k3, k4⟩ := hold q hq
        exact ⟨a, G, k1, (upd_other _ _ k4).trans k2, k3⟩
      · have : q = (n, magicL ++ b) := by simpa using hq
        subst this
        exact ⟨gf, _, hk1, upd_same _ _ _, rfl⟩
    · have hq' : q ∈ nIns (sgnB n, gf) M.now := by rw [← hnow]; exact hq
      rcases mem_ins.1 hq' with e | hq'
      · exact ⟨(n, magicL ++ b), by simp, by rw [e]⟩
      · obtain ⟨p, hp, ep⟩ := h.only q hq'
        exact ⟨p, List.mem_append_left _ hp, ep⟩
    · rw [← hu1, used_sumN, used_sumN]
      have := sumN_upd (fs := M1.fs) (Fi.wrote ⟨[], [], []⟩ ⟨0, magicL ++ b⟩) hfc.once (nFind_mem hk1)
      rw [szF_of hF1] at this
      have e3 : (Fi.wrote ⟨[], [], []⟩ ⟨0, magicL ++ b⟩).now.length = 8 + b.length := by
        show (magicL ++ b).length = _
        rw [List.length_append]
        rfl
      rw [e3] at this
      have e4 : (⟨[], [], []⟩ : Fi).now.length = 0 := rfl
      rw [e4] at this
      show sumN (upd M1.fs gf _) M1.now = _
      omega
theorem getLast_split {α : Type} {X : List α} {p : α} (h : X.getLast? = some p) : X = X.dropLast ++ [p] := by
  rcases List.eq_nil_or_concat X with e | ⟨L, b, e⟩
  · rw [e] at h; cases h
  · rw [e] at h ⊢
    simp at h ⊢
    exact h
/-- What becomes of the segments' bytes where an entry's are put. -/
def layX (S : Lg) (X : Sb) (b : List UInt8) : Sb :=
  match X.getLast? with
  | some p => if S.isOpen = true ∧ ((p.2.length + b.length : Nat) : Int) ≤ S.limit then X.dropLast ++ [(p.1, p.2 ++ b)] else X ++ [(nextX X, magicL ++ b)]
  | none => X ++ [(nextX X, magicL ++ b)]
def growsX (S : Lg) (X : Sb) (b : List UInt8) : Nat :=
  match X.getLast? with
  | some p => if S.isOpen = true ∧ ((p.2.length + b.length : Nat) : Int) ≤ S.limit then 0 else 1
  | none => 1
/-- What a call leaves that answered an error. -/
structure AB.Same (M M' : Me) (S S' : Lg) (X : Sb) (rm : Int) : Prop where
  ab : AB M' S' X rm
  now : M'.now = M.now
  used : M'.used = M.used
  fresh : S'.fresh = S.fresh
  lim : S'.limit = S.limit
theorem AB.lay (h : AB M S X rm) {gf : Nat} (hg : M.fs gf = none) (b : List UInt8) (hb : b.length ≤ 17000) :
    ((layA M S b gf).1 ≠ 0 ∧ AB.Same M (layA M S b gf).2.1 S (layA M S b gf).2.2 X rm ∧ ((layA M S b gf).1 = 11 → rm < (b.length : Int) + 8 + M.used) ∧ ((layA M S b gf).1 = 11 ∨ nextX X = 1048576 ∨ 500 ≤ M.now.length))
    ∨ ((layA M S b gf).1 = 0 ∧ AB (layA M S b gf).2.1 (layA M S b gf).2.2 (layX S X b) rm ∧ (layA M S b gf).2.2.isOpen = true ∧ (layA M S b gf).2.2.fresh = S.fresh + growsX S X b ∧ (layA M S b gf).2.2.limit = S.limit ∧ (layA M S b gf).2.1.used ≤ M.used + (8 + b.length)) := by
  have hlast : X.getLast? = none ∨ ∃ p, X.getLast? = some p := by cases X.getLast? <;> simp
  cases ho : S.isOpen with
  | false =>
    have e1 : layX S X b = X ++ [(nextX X, magicL ++ b)] := by
      unfold layX
      rcases hlast with e | ⟨p, e⟩ <;> rw [e]
      simp [ho]
    have e2 : growsX S X b = 1 := by
      unfold growsX
      rcases hlast with e | ⟨p, e⟩ <;> rw [e]
      simp [ho]
    rw [layA_shut ho, e1, e2]
    rcases h.begin hg b hb with ⟨a1, a2, a3, a4, a5, a6, a7⟩ | ⟨a1, a2, a3, a4⟩
    · left
      rw [a3]
      exact ⟨a1, ⟨a2, a4, a5, rfl, rfl⟩, a6, a7⟩
    · right
      refine ⟨a1, a2, ?_, ?_, ?_, Nat.le_of_eq a4⟩ <;> rw [a3] <;> rfl
  | true =>
    obtain ⟨m, q, hm, hq, hl⟩ := Lg.last_of (S := S) (by have := h.sok.opn ho; have := h.sok.fresh; omega)
    obtain ⟨p, hp⟩ : ∃ p, X[m]? = some p := ⟨_, List.getElem?_eq_getElem (by have := congrArg List.length h.segs; simp at this; omega)⟩
    have hXl : X.length = m + 1 := by have := congrArg List.length h.segs; simp at this; omega
    have hXlast : X.getLast? = some p := by rw [List.getLast?_eq_getElem?, hXl]; exact hp
    have hXd : X = X.dropLast ++ [p] := getLast_split hXlast
    have hqe : q = (p.1, p.2.length) := by
      rw [h.segs, List.getElem?_map, hp] at hq
      injection hq with hq
      exact hq.symm
    have hlim := h.sok.lim
    rw [layA_open ho hm hl]
    unfold layO
    rw [h.size hp, hqe]
    dsimp only
    by_cases c : ((p.2.length + b.length : Nat) : Int) ≤ S.limit
    · rw [if_pos c]
      have e1 : layX S X b = X.dropLast ++ [(p.1, p.2 ++ b)] := by
        unfold layX
        rw [hXlast]
        exact if_pos ⟨ho, c⟩
      have e2 : growsX S X b = 0 := by
        unfold growsX
        rw [hXlast]
        exact if_pos ⟨ho, c⟩
      rw [e1, e2]
      rcases h.extend hXd b (by omega) with ⟨a1, a2⟩ | ⟨a1, a2, a3, a4, a5, a6⟩
      · left
        rw [a2]
        exact ⟨show (11 : Int) ≠ 0 by decide, ⟨h, rfl, rfl, rfl, rfl⟩, fun _ => by omega, .inl rfl⟩
      · right
        exact ⟨a1, a2, by rw [a5]; exact ho, a3, a4, by omega⟩
    · rw [if_neg c]
      have e1 : layX S X b = X ++ [(nextX X, magicL ++ b)] := by
        unfold layX
        rw [hXlast]
        exact if_neg (fun hh => c hh.2)
      have e2 : growsX S X b = 1 := by
        unfold growsX
        rw [hXlast]
        exact if_neg (fun hh => c hh.2)
      rw [e1, e2]
      obtain ⟨s1, s2, s3, s4⟩ := h.sync (List.mem_of_getElem? hp)
      rw [if_neg (by rw [s1]; decide)]
      have hg2 : (opSync M (nameS (p.1 : Int))).2.fs gf = none := by
        obtain ⟨a, F, f1, f2, f3, f4⟩ := h.find (List.mem_of_getElem? hp)
        unfold opSync
        rw [f1]
        simp only
        rw [if_neg h.ne]
        show upd M.fs a F.synced gf = none
        rw [upd_other _ _ (fun e => by rw [e, f4] at hg; cases hg)]
        exact hg
      have h2 := s2.log (S' := { S with isOpen := false }) rfl (Lg.shut_ok h.sok)
      rcases h2.begin hg2 b hb with ⟨a1, a2, a3, a4, a5, a6, a7⟩ | ⟨a1, a2, a3, a4⟩
      · left
        rw [a3]
        exact ⟨a1, ⟨a2, a4.trans s3, a5.trans s4, rfl, rfl⟩, fun e => by have := a6 e; rw [s4] at this; exact this, by rw [s3] at a7; exact a7⟩
      · right
        refine ⟨a1, a2, ?_, ?_, ?_, by rw [a4, s4]; exact Nat.le_refl _⟩ <;> rw [a3] <;> rfl
/-- Append. -/
theorem AB.append (h : AB M S X rm) {gf : Nat} (hg : M.fs gf = none) (E : Int × List UInt8) (hb : E.2.length ≤ 17000) :
    ((appendL M S E gf).2.1 ≠ 0 ∧ AB.Same M (appendL M S E gf).2.2.1 S (appendL M S E gf).2.2.2 X rm ∧ ((appendL M S E gf).2.1 = 11 → E.1 = 0 → rm < (E.2.length : Int) + 8 + M.used) ∧ (E.1 ≠ 0 → (appendL M S E gf).2.1 = E.1) ∧ (E.1 = 0 → (appendL M S E gf).2.1 = 11 ∨ nextX X = 1048576 ∨ 500 ≤ M.now.length))
    ∨ ((appendL M S E gf).2.1 = 0 ∧ E.1 = 0 ∧ AB (appendL M S E gf).2.2.1 (appendL M S E gf).2.2.2 (layX S X E.2) rm ∧ (appendL M S E gf).2.2.2.isOpen = true ∧ (appendL M S E gf).2.2.2.fresh = S.fresh + growsX S X E.2 ∧ (appendL M S E gf).2.2.2.limit = S.limit ∧ (appendL M S E gf).1 = placeL (appendL M S E gf).2.2.2 E.2.length ∧ (appendL M S E gf).2.2.1.used ≤ M.used + (8 + E.2.length)) := by
  unfold appendL appendR
  by_cases e : E.1 = 0
  · rw [if_neg (by rw [e]; decide)]
    rcases h.lay hg E.2 hb with ⟨a1, a2, a3, a4⟩ | ⟨a1, a2, a3, a4, a5, a6⟩
    · left
      rw [if_pos a1]
      exact ⟨a1, a2, fun k _ => a3 k, fun k => absurd e k, fun _ => a4⟩
    · right
      rw [if_neg (by rw [a1]; decide)]
      exact ⟨rfl, e, a2, a3, a4, a5, rfl, a6⟩
  · left
    rw [if_pos e]
    exact ⟨e, ⟨h, rfl, rfl, rfl, rfl⟩, fun _ k => absurd k e, fun _ => rfl, fun k => absurd k e⟩
theorem layX_last (S : Lg) (X : Sb) (b : List UInt8) : ∃ p, (layX S X b).getLast? = some p := by
  unfold layX
  split
  · split <;> exact ⟨_, List.getLast?_concat⟩
  · exact ⟨_, List.getLast?_concat⟩
theorem cmE_ok : cmE.1 = 0 ∧ cmE.2.length ≤ 17000 := by
  refine ⟨?_, ?_⟩
  · unfold cmE encE
    rw [if_neg (by unfold ckE; rw [if_neg (by decide), if_neg (by decide), if_pos rfl, if_pos ⟨rfl, rfl⟩]; decide)]
  · have := encE_len (t := 2) (K := List.replicate 32 0) (D := []) (by simp)
    unfold cmE
    omega
/-- Commit. -/
theorem AB.commit (h : AB M S X rm) {gf : Nat} (hg : M.fs gf = none) :
    ((commitL M S gf).2.1 ≠ 0 ∧ AB.Same M (commitL M S gf).2.2.1 S (commitL M S gf).2.2.2 X rm ∧ (rm < (cmE.2.length : Int) + 8 + M.used ∨ nextX X = 1048576 ∨ 500 ≤ M.now.length))
    ∨ ((commitL M S gf).2.1 = 0 ∧ AB (commitL M S gf).2.2.1 (commitL M S gf).2.2.2 (layX S X cmE.2) rm ∧ (commitL M S gf).2.2.2.isOpen = false ∧ (commitL M S gf).2.2.2.fresh = 0 ∧ (commitL M S gf).2.2.2.limit = S.limit ∧ (commitL M S gf).2.2.1.used ≤ M.used + (8 + cmE.2.length)) := by
  unfold commitL commitR
  rcases h.append hg cmE cmE_ok.2 with ⟨a1, a2, a3, a4, a9⟩ | ⟨a1, _, a2, a3, a4, a5, a6, a7⟩
  · left
    rw [if_pos a1]
    refine ⟨a1, a2, ?_⟩
    rcases a9 cmE_ok.1 with b1 | b1
    · exact .inl (a3 b1 cmE_ok.1)
    · exact .inr b1
  · right
    rw [if_neg (by rw [a1]; decide)]
    obtain ⟨p, hp⟩ := layX_last S X cmE.2
    have hpl : (appendL M S cmE gf).1.1 = p.1 := by
      rw [a6]
      unfold placeL
      rw [a2.segs, List.getLast?_map, hp]
      rfl
    obtain ⟨s1, s2, _, s4⟩ := a2.sync (List.mem_of_getLast? hp)
    rw [hpl, if_neg (by rw [s1]; decide)]
    obtain ⟨d1, d2, d3⟩ := s2.syncDir
    rw [if_neg (by rw [d1]; decide)]
    exact ⟨rfl, d2.log rfl (Lg.settled_ok d2.sok), rfl, rfl, a5, by rw [d3, s4]; exact a7⟩
end
end Go.Proofs.YtfneloobfidckaaGreatDoor
