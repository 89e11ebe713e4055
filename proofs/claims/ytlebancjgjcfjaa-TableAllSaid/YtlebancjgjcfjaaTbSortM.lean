/- Mathematics: places of keys, sorted. It proves no statement. -/
import Derived.Test.YtlebancjgjcfjaaTbL
import Derived.Sort.LotA
import Derived.Sort.Grow
namespace Go.Proofs.Ytlebancjgjcfjaa
open Go.Sort Go.Lib
set_option linter.unusedVariables false
set_option linter.unusedSimpArgs false

theorem Rise.ext {L M : List KV} (h1 : Rise L) (h2 : Rise M) (h : ∀ z, z ∈ L ↔ z ∈ M) : L = M := by
  induction L generalizing M with
  | nil =>
    cases M with
    | nil => rfl
    | cons y r => exact absurd ((h y).2 (by simp)) (by simp)
  | cons x L ih =>
    cases M with
    | nil => exact absurd ((h x).1 (by simp)) (by simp)
    | cons y M =>
      obtain ⟨hx, hL⟩ := List.pairwise_cons.1 h1
      obtain ⟨hy, hM⟩ := List.pairwise_cons.1 h2
      have e : x = y := by
        rcases List.mem_cons.1 ((h x).1 (by simp)) with e | hm
        · exact e
        · rcases List.mem_cons.1 ((h y).2 (by simp)) with e | hm2
          · exact e.symm
          · have a := hy x hm
            have b := hx y hm2
            rw [ltK_asym a] at b; cases b
      subst e
      rw [ih hL hM (fun z => by
        constructor
        · intro hz
          rcases List.mem_cons.1 ((h z).1 (by simp [hz])) with e | hm
          · subst e; have := hx z hz; rw [ltK_irrefl] at this; cases this
          · exact hm
        · intro hz
          rcases List.mem_cons.1 ((h z).2 (by simp [hz])) with e | hm
          · subst e; have := hy z hz; rw [ltK_irrefl] at this; cases this
          · exact hm)]
/-- A place that has a key. -/
abbrev FP (S : List Sl) : Type := { p : Nat // ∃ k v, S[p]? = some (Sl.full k v) }
section
variable {S : List Sl}
def FP.key (x : FP S) : List UInt8 := (slot S x.1).key
def FP.pr (x : FP S) : KV := ((slot S x.1).key, (slot S x.1).val 0)
def FP.cf (x y : FP S) : Int := compareBytes x.key y.key
theorem FP.slot (x : FP S) : S[x.1]? = some (Sl.full x.pr.1 x.pr.2) := by
  obtain ⟨p, k, v, h⟩ := x
  have e := slot_of h
  simp only [FP.pr, e]
  exact h
theorem FP.ltOf_eq (x y : FP S) : ltK x.key y.key = decide (FP.cf x y < 0) := rfl
theorem FP.ext_key {m : Nat} (hI : Inv m S) {x y : FP S} (h : x.key = y.key) : x = y := by
  apply Subtype.ext
  have hx := x.slot
  have hy := y.slot
  have e : x.pr.1 = y.pr.1 := h
  rw [← e] at hy
  exact (hI.at_uniq hx hy).1
theorem FP.swo : SWO (fun x y : FP S => decide (FP.cf x y < 0)) where
  irrefl x := ltK_irrefl _
  trans x y z h1 h2 := ltK_trans (a := x.key) (b := y.key) (c := z.key) h1 h2
  ntrans x y z h1 h2 := by
    cases hc : (decide (FP.cf x z < 0)) with
    | false => rfl
    | true =>
      have hc : ltK x.key z.key = true := hc
      have h1 : ltK x.key y.key = false := h1
      have h2 : ltK y.key z.key = false := h2
      by_cases e : x.key = y.key
      · rw [e] at hc; rw [h2] at hc; cases hc
      · have := ltK_trans (ltK_tri e h1) hc
        rw [h2] at this; cases this
theorem FP.anti {m : Nat} (hI : Inv m S) (x y : FP S) (h1 : decide (FP.cf x y < 0) = false) (h2 : decide (FP.cf y x < 0) = false) : x = y := by
  have h1 : ltK x.key y.key = false := h1
  have h2 : ltK y.key x.key = false := h2
  refine FP.ext_key hI ?_
  by_cases e : x.key = y.key
  · exact e
  · rw [ltK_tri e h1] at h2; cases h2
/-- All places that have a key, in their order. -/
def idxL (S : List Sl) (i : Nat) : List Nat := (List.range i).filter fun p => (Go.Proofs.Ytlebancjgjcfjaa.slot S p).isFull
theorem idxL_succ (S : List Sl) (i : Nat) : idxL S (i + 1) = idxL S i ++ (if (Go.Proofs.Ytlebancjgjcfjaa.slot S i).isFull then [i] else []) := by
  unfold idxL
  rw [List.range_succ, List.filter_append]
  simp [List.filter_cons]
theorem idxL_len (S : List Sl) (i : Nat) : (idxL S i).length ≤ i := by
  have := List.length_filter_le (fun p => (Go.Proofs.Ytlebancjgjcfjaa.slot S p).isFull) (List.range i)
  simpa [idxL] using this
theorem idxL_full {i p : Nat} (hi : i ≤ S.length) (h : p ∈ idxL S i) : ∃ k v, S[p]? = some (Sl.full k v) := by
  obtain ⟨h1, h2⟩ := List.mem_filter.1 h
  simp at h1
  have hs := slot_eq (S := S) (i := p) (by omega)
  cases hc : Go.Proofs.Ytlebancjgjcfjaa.slot S p with
  | empty => rw [hc] at h2; cases h2
  | dead => rw [hc] at h2; cases h2
  | full k v => exact ⟨k, v, by rw [hs, hc]⟩
def fpL (S : List Sl) : List (FP S) := (idxL S S.length).pmap (fun p h => ⟨p, h⟩) (fun p hp => idxL_full (Nat.le_refl _) hp)
theorem fpL_val (S : List Sl) : (fpL S).map (·.1) = idxL S S.length := by
  unfold fpL
  rw [List.map_pmap]
  simp [List.pmap_eq_map]
theorem fpL_nodup (S : List Sl) : (fpL S).Nodup := by
  have h : ((fpL S).map (·.1)).Nodup := by
    rw [fpL_val]
    exact List.nodup_iff_pairwise_ne.2 ((List.nodup_iff_pairwise_ne.1 List.nodup_range).filter _)
  rw [List.nodup_iff_pairwise_ne, List.pairwise_map] at h
  rw [List.nodup_iff_pairwise_ne]
  exact h.imp fun hne e => hne (by rw [e])
theorem fpL_mem (x : FP S) : x ∈ fpL S := by
  have h : x.1 ∈ (fpL S).map (·.1) := by
    rw [fpL_val]
    obtain ⟨k, v, h⟩ := x.2
    refine List.mem_filter.2 ⟨by simpa using (List.getElem?_eq_some_iff.1 h).1, by rw [slot_of h]; rfl⟩
  obtain ⟨y, hy, e⟩ := List.mem_map.1 h
  have : y = x := Subtype.ext e
  rwa [← this]
/-- The places, by rising keys. -/
def sortP (S : List Sl) : List (FP S) := (fpL S).mergeSort fun x y => !decide (FP.cf y x < 0)
theorem sortP_perm (S : List Sl) : (sortP S).Perm (fpL S) := List.mergeSort_perm _ _
theorem sortP_len (S : List Sl) : (sortP S).length = (idxL S S.length).length := by rw [(sortP_perm S).length_eq, ← fpL_val, List.length_map]
theorem sortP_pr {m : Nat} {L : List KV} (hI : Inv m S) (a : Abs S L) : (sortP S).map FP.pr = L := by
  have hs : (sortP S).Pairwise fun x y => (!decide (FP.cf y x < 0)) = true := by
    refine List.pairwise_mergeSort ?_ ?_ _
    · intro x y z h1 h2
      have h1 : decide (FP.cf y x < 0) = false := by simpa using h1
      have h2 : decide (FP.cf z y < 0) = false := by simpa using h2
      have := FP.swo.ntrans z y x h2 h1
      simpa using this
    · intro x y
      cases hc : decide (FP.cf y x < 0) with
      | false => simp
      | true =>
        have : ltK x.key y.key = false := ltK_asym (show ltK y.key x.key = true from hc)
        have h2 : decide (FP.cf x y < 0) = false := this
        simp [h2]
  have hn : (sortP S).Pairwise (· ≠ ·) := List.nodup_iff_pairwise_ne.1 ((sortP_perm S).nodup_iff.2 (fpL_nodup S))
  refine Rise.ext ?_ a.rise ?_
  · unfold Rise
    rw [List.pairwise_map]
    refine (hs.and hn).imp ?_
    rintro x y ⟨h1, h2⟩
    have h1 : ltK y.key x.key = false := by
      have : decide (FP.cf y x < 0) = false := by simpa using h1
      exact this
    exact ltK_tri (fun e => h2 (FP.ext_key hI e.symm)) h1
  · intro z
    rw [← a.mem]
    constructor
    · intro hz
      obtain ⟨x, hx, rfl⟩ := List.mem_map.1 hz
      exact mem_fulls.2 ⟨_, x.slot⟩
    · intro hz
      obtain ⟨p, hp⟩ := mem_fulls.1 hz
      refine List.mem_map.2 ⟨⟨p, _, _, hp⟩, ?_, ?_⟩
      · exact (sortP_perm S).mem_iff.2 (fpL_mem _)
      · have e := slot_of hp
        simp [FP.pr, e, Sl.key, Sl.val]
/-- The places, as numbers. -/
def posL (S : List Sl) : List Nat := (sortP S).map (·.1)
theorem posL_len {m : Nat} {L : List KV} (hI : Inv m S) (a : Abs S L) : (posL S).length = L.length := by
  rw [← sortP_pr hI a]; simp [posL]
theorem posL_at {m : Nat} {L : List KV} (hI : Inv m S) (a : Abs S L) {q : Nat} {z : KV} (h : L[q]? = some z) : ∃ p, (posL S)[q]? = some p ∧ S[p]? = some (Sl.full z.1 z.2) := by
  rw [← sortP_pr hI a, List.getElem?_map] at h
  cases hx : (sortP S)[q]? with
  | none => rw [hx] at h; cases h
  | some x =>
    rw [hx] at h
    simp only [Option.map_some, Option.some.injEq] at h
    subst h
    exact ⟨x.1, by simp [posL, hx], x.slot⟩
end
end Go.Proofs.Ytlebancjgjcfjaa
