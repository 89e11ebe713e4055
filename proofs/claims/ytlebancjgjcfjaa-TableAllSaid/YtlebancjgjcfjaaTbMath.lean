/- Mathematics of open addressed slots: searches, keys put and taken away. It proves no statement. -/
import Derived.Test.YtlebancjgjcfjaaBase
namespace Go.Proofs.Ytlebancjgjcfjaa
set_option linter.unusedVariables false
set_option linter.unusedSimpArgs false

/-- A slot. -/
inductive Sl where
  | empty : Sl
  | dead : Sl
  | full : List UInt8 → List Int → Sl
def Sl.ends (k : List UInt8) : Sl → Bool
  | .empty => true
  | .dead => false
  | .full k' _ => decide (k' = k)
def Sl.pair : Sl → Option (List UInt8 × List Int)
  | .full k v => some (k, v)
  | _ => none
def Sl.isFull : Sl → Bool
  | .full _ _ => true
  | _ => false
def Sl.isDead : Sl → Bool
  | .dead => true
  | _ => false
def Sl.key : Sl → List UInt8
  | .full k _ => k
  | _ => List.replicate 32 0
def Sl.val (m : Nat) : Sl → List Int
  | .full _ v => v
  | _ => List.replicate m 0
def Sl.st : Sl → Nat
  | .empty => 0
  | .dead => 1
  | .full _ _ => 2
def fulls (S : List Sl) : List (List UInt8 × List Int) := S.filterMap Sl.pair
def keysN (S : List Sl) : Nat := S.countP Sl.isFull
def deadN (S : List Sl) : Nat := S.countP Sl.isDead
/-- Where a search begins. -/
def homeN (k : List UInt8) : Nat := (k.getD 0 0).toNat + 256 * (k.getD 1 0).toNat + 65536 * (k.getD 2 0).toNat + 16777216 * (k.getD 3 0).toNat
def pos (k : List UInt8) (n j : Nat) : Nat := (homeN k % n + j) % n
def slot (S : List Sl) (i : Nat) : Sl := S.getD i .empty
theorem slot_eq {S : List Sl} {i : Nat} (h : i < S.length) : S[i]? = some (slot S i) := by simp [slot, List.getD, h]
theorem slot_of {S : List Sl} {i : Nat} {x : Sl} (h : S[i]? = some x) : slot S i = x := by simp [slot, List.getD, h]
theorem pos_lt (k : List UInt8) {n : Nat} (j : Nat) (h : 0 < n) : pos k n j < n := Nat.mod_lt _ h
theorem pos_next (k : List UInt8) (n j : Nat) : pos k n (j + 1) = (pos k n j + 1) % n := by unfold pos; rw [Nat.mod_add_mod (homeN k % n + j), Nat.add_assoc]
theorem pos_zero (k : List UInt8) (n : Nat) : pos k n 0 = homeN k % n := by unfold pos; rw [Nat.add_zero, Nat.mod_mod]
theorem pos_inj (k : List UInt8) {n i j : Nat} (hi : i < n) (hj : j < n) (h : pos k n i = pos k n j) : i = j := by
  unfold pos at h
  have hh : homeN k % n < n := Nat.mod_lt _ (by omega)
  generalize homeN k % n = a at *
  have e1 : (a + i) % n = if a + i < n then a + i else a + i - n := by
    split
    · rename_i h1; exact Nat.mod_eq_of_lt h1
    · rename_i h1; rw [Nat.mod_eq_sub_mod (by omega)]; exact Nat.mod_eq_of_lt (by omega)
  have e2 : (a + j) % n = if a + j < n then a + j else a + j - n := by
    split
    · rename_i h1; exact Nat.mod_eq_of_lt h1
    · rename_i h1; rw [Nat.mod_eq_sub_mod (by omega)]; exact Nat.mod_eq_of_lt (by omega)
  rw [e1, e2] at h
  split at h <;> split at h <;> omega
theorem pos_surj (k : List UInt8) {n p : Nat} (hp : p < n) : ∃ i, i < n ∧ pos k n i = p := by
  have hh : homeN k % n < n := Nat.mod_lt _ (by omega)
  unfold pos
  generalize homeN k % n = a at *
  by_cases h : a ≤ p
  · exact ⟨p - a, by omega, by rw [show a + (p - a) = p by omega]; exact Nat.mod_eq_of_lt hp⟩
  · exact ⟨p + n - a, by omega, by rw [show a + (p + n - a) = p + n by omega, Nat.add_mod_right]; exact Nat.mod_eq_of_lt hp⟩

/-- A search for k ends behind j steps more. -/
structure Stop (S : List Sl) (k : List UInt8) (j : Nat) : Prop where
  lt : j < S.length
  yes : (slot S (pos k S.length j)).ends k = true
  no : ∀ i, i < j → (slot S (pos k S.length i)).ends k = false
theorem Stop.uniq {S : List Sl} {k : List UInt8} {i j : Nat} (h1 : Stop S k i) (h2 : Stop S k j) : i = j := by
  rcases Nat.lt_trichotomy i j with h | h | h
  · have := h2.no i h; rw [h1.yes] at this; cases this
  · exact h
  · have := h1.no j h; rw [h2.yes] at this; cases this
theorem least_ex (P : Nat → Bool) : ∀ n i, i < n → P i = true → ∃ j, j ≤ i ∧ P j = true ∧ ∀ i', i' < j → P i' = false := by
  intro n
  induction n with
  | zero => intro i hi; omega
  | succ n ih =>
    intro i hi hP
    by_cases h : ∃ i', i' < i ∧ P i' = true
    · obtain ⟨i', h1, h2⟩ := h
      obtain ⟨j, h3, h4, h5⟩ := ih i' (by omega) h2
      exact ⟨j, by omega, h4, h5⟩
    · refine ⟨i, Nat.le_refl _, hP, fun i' hi' => ?_⟩
      cases hc : P i' with
      | false => rfl
      | true => exact absurd ⟨i', hi', hc⟩ h
theorem empty_ex : ∀ S : List Sl, keysN S + deadN S < S.length → ∃ p, p < S.length ∧ S[p]? = some Sl.empty := by
  intro S
  induction S with
  | nil => intro h; simp at h
  | cons x r ih =>
    intro h
    cases x with
    | empty => exact ⟨0, by simp, rfl⟩
    | dead =>
      obtain ⟨p, h1, h2⟩ := ih (by simp only [keysN, deadN, List.countP_cons, List.length_cons, Sl.isFull, Sl.isDead] at h ⊢; simp at h; omega)
      exact ⟨p + 1, by simp; omega, by simpa using h2⟩
    | full k v =>
      obtain ⟨p, h1, h2⟩ := ih (by simp only [keysN, deadN, List.countP_cons, List.length_cons, Sl.isFull, Sl.isDead] at h ⊢; simp at h; omega)
      exact ⟨p + 1, by simp; omega, by simpa using h2⟩

/-- What holds in a table. -/
structure Inv (m : Nat) (S : List Sl) : Prop where
  pow : ∃ e, S.length = 8 * 2 ^ e
  probe : ∀ (p : Nat) (k : List UInt8) (v : List Int), S[p]? = some (Sl.full k v) → k.length = 32 ∧ v.length = m ∧ ∃ j, Stop S k j ∧ pos k S.length j = p
  load : 4 * (keysN S + deadN S) ≤ 3 * S.length
section
variable {m : Nat} {S : List Sl} {k : List UInt8} {v : List Int} {j : Nat}
theorem Inv.len8 (h : Inv m S) : 8 ≤ S.length := by
  obtain ⟨e, he⟩ := h.pow
  have := Nat.two_pow_pos e
  omega
theorem Inv.stop_ex (h : Inv m S) (k : List UInt8) : ∃ j, Stop S k j := by
  have h8 := h.len8
  have hl := h.load
  obtain ⟨p, hp, he⟩ := empty_ex S (by omega)
  obtain ⟨i, hi, hpi⟩ := pos_surj k hp
  obtain ⟨j, h1, h2, h3⟩ := least_ex (fun i => (slot S (pos k S.length i)).ends k) S.length i hi (by simp only [hpi, slot_of he]; rfl)
  exact ⟨j, by omega, h2, h3⟩
theorem mem_fulls {x : List UInt8 × List Int} : x ∈ fulls S ↔ ∃ p : Nat, S[p]? = some (Sl.full x.1 x.2) := by
  unfold fulls
  rw [List.mem_filterMap]
  constructor
  · rintro ⟨a, ha, hx⟩
    obtain ⟨p, hp⟩ := List.mem_iff_getElem?.1 ha
    cases a with
    | empty => cases hx
    | dead => cases hx
    | full k v => cases hx; exact ⟨p, hp⟩
  · rintro ⟨p, hp⟩
    exact ⟨_, List.mem_iff_getElem?.2 ⟨p, hp⟩, rfl⟩
theorem Inv.at_uniq (h : Inv m S) {p q : Nat} {v' : List Int} (hp : S[p]? = some (Sl.full k v)) (hq : S[q]? = some (Sl.full k v')) : p = q ∧ v = v' := by
  obtain ⟨_, _, i, hi, hpi⟩ := h.probe p k v hp
  obtain ⟨_, _, i', hi', hqi⟩ := h.probe q k v' hq
  have := hi.uniq hi'
  subst this
  have e : p = q := hpi.symm.trans hqi
  subst e
  rw [hp] at hq
  cases hq
  exact ⟨rfl, rfl⟩
theorem Inv.uniq (h : Inv m S) {v' : List Int} (hp : (k, v) ∈ fulls S) (hq : (k, v') ∈ fulls S) : v = v' := by
  obtain ⟨p, hp⟩ := mem_fulls.1 hp
  obtain ⟨q, hq⟩ := mem_fulls.1 hq
  exact (h.at_uniq hp hq).2
/-- Where a search ends there is the key, or the key is nowhere. -/
theorem Inv.find (h : Inv m S) (s : Stop S k j) : (∃ v, S[pos k S.length j]? = some (Sl.full k v)) ∨ (S[pos k S.length j]? = some Sl.empty ∧ ∀ v, (k, v) ∉ fulls S) := by
  have h8 := h.len8
  have hlt := pos_lt k j (show 0 < S.length by omega)
  have hs := slot_eq hlt
  have hy := s.yes
  cases hc : slot S (pos k S.length j) with
  | empty =>
    rw [hc] at hs
    refine .inr ⟨hs, fun v hv => ?_⟩
    obtain ⟨p, hp⟩ := mem_fulls.1 hv
    obtain ⟨_, _, i, hi, hpi⟩ := h.probe p k v hp
    have := hi.uniq s
    subst this
    rw [hpi, hp] at hs
    cases hs
  | dead => rw [hc] at hy; cases hy
  | full k' v =>
    rw [hc] at hy hs
    have e : k' = k := of_decide_eq_true hy
    subst e
    exact .inl ⟨v, hs⟩
/-- Slots of which one was given another content: searches that don't meet it in a new way go as they went. -/
theorem Stop.set {p : Nat} {x : Sl} {k' : List UInt8} (s : Stop S k' j) (hx : ∀ y, S[p]? = some y → x.ends k' = y.ends k') : Stop (S.set p x) k' j := by
  have key : ∀ q, (slot (S.set p x) q).ends k' = (slot S q).ends k' := by
    intro q
    by_cases hq : q < S.length
    · by_cases e : p = q
      · subst e
        have h1 : (S.set p x)[p]? = some x := by simp [hq]
        rw [slot_of h1]
        exact hx _ (slot_eq hq)
      · have h1 : (S.set p x)[q]? = some (slot S q) := by rw [List.getElem?_set_ne e]; exact slot_eq hq
        rw [slot_of h1]
    · have h1 : (S.set p x)[q]? = none := by simp; omega
      have h2 : S[q]? = none := by simp; omega
      simp [slot, List.getD, h1, h2]
  exact ⟨by simpa using s.lt, by rw [List.length_set, key]; exact s.yes, fun i hi => by rw [List.length_set, key]; exact s.no i hi⟩
/-- .. or meet it on their way. -/
theorem Stop.set_dead {p : Nat} {k' : List UInt8} {kk : List UInt8} {vv : List Int} (s : Stop S k' j) (hp : S[p]? = some (Sl.full kk vv)) (hne : kk ≠ k') : Stop (S.set p .dead) k' j :=
  s.set fun y hy => by rw [hp] at hy; cases hy; simp [Sl.ends, hne]
theorem Stop.set_full {p : Nat} {k' : List UInt8} {kk : List UInt8} {vv : List Int} (s : Stop S k' j) (hp : S[p]? = some Sl.empty) (hne : pos k' S.length j ≠ p) (h0 : 0 < S.length) : Stop (S.set p (.full kk vv)) k' j := by
  have key : ∀ i, i ≤ j → pos k' S.length i ≠ p → slot (S.set p (.full kk vv)) (pos k' S.length i) = slot S (pos k' S.length i) := by
    intro i _ hi
    have h1 : (S.set p (Sl.full kk vv))[pos k' S.length i]? = some (slot S (pos k' S.length i)) := by
      rw [List.getElem?_set_ne (fun e => hi e.symm)]; exact slot_eq (pos_lt _ _ h0)
    exact slot_of h1
  refine ⟨by simpa using s.lt, by rw [List.length_set, key j (Nat.le_refl _) hne]; exact s.yes, fun i hi => ?_⟩
  have hne2 : pos k' S.length i ≠ p := by
    intro e
    have := s.no i hi
    rw [e, slot_of hp] at this
    cases this
  rw [List.length_set, key i (by omega) hne2]
  exact s.no i hi
theorem keysN_set {p : Nat} {x y : Sl} (h : S[p]? = some y) : keysN (S.set p x) + (if y.isFull then 1 else 0) = keysN S + (if x.isFull then 1 else 0) := by
  obtain ⟨hp, hy⟩ := List.getElem?_eq_some_iff.1 h
  unfold keysN
  rw [List.countP_set (h := hp), hy]
  have : y.isFull = true → 0 < S.countP Sl.isFull := fun hf => List.countP_pos_iff.2 ⟨y, List.mem_of_getElem? h, hf⟩
  split <;> rename_i hh <;> split <;> simp_all <;> omega
theorem deadN_set {p : Nat} {x y : Sl} (h : S[p]? = some y) : deadN (S.set p x) + (if y.isDead then 1 else 0) = deadN S + (if x.isDead then 1 else 0) := by
  obtain ⟨hp, hy⟩ := List.getElem?_eq_some_iff.1 h
  unfold deadN
  rw [List.countP_set (h := hp), hy]
  have : y.isDead = true → 0 < S.countP Sl.isDead := fun hf => List.countP_pos_iff.2 ⟨y, List.mem_of_getElem? h, hf⟩
  split <;> rename_i hh <;> split <;> simp_all <;> omega
theorem mem_set {p : Nat} {x y : Sl} (h : S[p]? = some y) (z : List UInt8 × List Int) : z ∈ fulls (S.set p x) ↔ x = Sl.full z.1 z.2 ∨ ∃ q : Nat, q ≠ p ∧ S[q]? = some (Sl.full z.1 z.2) := by
  obtain ⟨hp, hy⟩ := List.getElem?_eq_some_iff.1 h
  rw [mem_fulls]
  constructor
  · rintro ⟨q, hq⟩
    by_cases e : p = q
    · subst e
      rw [List.getElem?_set_self hp] at hq
      cases hq
      exact .inl rfl
    · rw [List.getElem?_set_ne e] at hq
      exact .inr ⟨q, fun e' => e e'.symm, hq⟩
  · rintro (rfl | ⟨q, hne, hq⟩)
    · exact ⟨p, by rw [List.getElem?_set_self hp]⟩
    · exact ⟨q, by rw [List.getElem?_set_ne (fun e => hne e.symm)]; exact hq⟩
/-- Another value under a key that is there. -/
theorem Inv.over (h : Inv m S) {p : Nat} {v' : List Int} (hp : S[p]? = some (Sl.full k v)) (hv : v'.length = m) :
    Inv m (S.set p (.full k v')) ∧ keysN (S.set p (.full k v')) = keysN S ∧ deadN (S.set p (.full k v')) = deadN S ∧ ∀ z, z ∈ fulls (S.set p (.full k v')) ↔ (z = (k, v') ∨ (z ∈ fulls S ∧ z.1 ≠ k)) := by
  have hk := keysN_set (x := .full k v') hp
  have hd := deadN_set (x := .full k v') hp
  simp [Sl.isFull, Sl.isDead] at hk hd
  have hlt := (List.getElem?_eq_some_iff.1 hp).1
  refine ⟨⟨by simpa using h.pow, ?_, by simp only [hk, hd, List.length_set]; exact h.load⟩, hk, hd, ?_⟩
  · intro q k2 v2 hq
    by_cases e : p = q
    · subst e
      rw [List.getElem?_set_self hlt] at hq
      cases hq
      obtain ⟨a, _, j, hj, hpj⟩ := h.probe p k v hp
      exact ⟨a, hv, j, hj.set (fun y hy => by rw [hp] at hy; cases hy; rfl), by rw [List.length_set]; exact hpj⟩
    · rw [List.getElem?_set_ne e] at hq
      obtain ⟨a, b, j, hj, hpj⟩ := h.probe q k2 v2 hq
      exact ⟨a, b, j, hj.set (fun y hy => by rw [hp] at hy; cases hy; rfl), by rw [List.length_set]; exact hpj⟩
  · intro z
    rw [mem_set hp]
    constructor
    · rintro (e | ⟨q, hne, hq⟩)
      · cases e; exact .inl rfl
      · refine .inr ⟨mem_fulls.2 ⟨q, hq⟩, fun e => hne ?_⟩
        rw [e] at hq
        exact (h.at_uniq hq hp).1
    · rintro (rfl | ⟨hz, hne⟩)
      · exact .inl rfl
      · obtain ⟨q, hq⟩ := mem_fulls.1 hz
        refine .inr ⟨q, fun e => hne ?_, hq⟩
        rw [e, hp] at hq
        cases hq; rfl
/-- A key more. -/
theorem Inv.more (h : Inv m S) {j : Nat} (s : Stop S k j) (hp : S[pos k S.length j]? = some Sl.empty) (hk32 : k.length = 32) (hv : v.length = m) (hl : 4 * (keysN S + 1 + deadN S) ≤ 3 * S.length) :
    Inv m (S.set (pos k S.length j) (.full k v)) ∧ keysN (S.set (pos k S.length j) (.full k v)) = keysN S + 1 ∧ deadN (S.set (pos k S.length j) (.full k v)) = deadN S ∧ ∀ z, z ∈ fulls (S.set (pos k S.length j) (.full k v)) ↔ (z = (k, v) ∨ z ∈ fulls S) := by
  have hk := keysN_set (x := .full k v) hp
  have hd := deadN_set (x := .full k v) hp
  simp [Sl.isFull, Sl.isDead] at hk hd
  have h8 := h.len8
  have hlt := (List.getElem?_eq_some_iff.1 hp).1
  refine ⟨⟨by simpa using h.pow, ?_, by simp only [hk, hd, List.length_set]; omega⟩, hk, hd, ?_⟩
  · intro q k2 v2 hq
    by_cases e : pos k S.length j = q
    · rw [← e, List.getElem?_set_self hlt] at hq
      cases hq
      refine ⟨hk32, hv, j, ⟨by simpa using s.lt, ?_, fun i hi => ?_⟩, by rw [List.length_set]; exact e⟩
      · rw [List.length_set]
        have h1 : (S.set (pos k S.length j) (Sl.full k v))[pos k S.length j]? = some (.full k v) := List.getElem?_set_self hlt
        rw [slot_of h1]
        simp [Sl.ends]
      · rw [List.length_set]
        have hne : pos k S.length j ≠ pos k S.length i := fun e' => by
          have := pos_inj k s.lt (by have := s.lt; omega) e'
          omega
        have h1 : (S.set (pos k S.length j) (Sl.full k v))[pos k S.length i]? = some (slot S (pos k S.length i)) := by
          rw [List.getElem?_set_ne hne]; exact slot_eq (pos_lt _ _ (by omega))
        rw [slot_of h1]
        exact s.no i hi
    · rw [List.getElem?_set_ne e] at hq
      obtain ⟨a, b, j2, hj, hpj⟩ := h.probe q k2 v2 hq
      exact ⟨a, b, j2, hj.set_full hp (by rw [hpj]; exact fun e' => e e'.symm) (by omega), by rw [List.length_set]; exact hpj⟩
  · intro z
    rw [mem_set hp]
    constructor
    · rintro (e | ⟨q, hne, hq⟩)
      · cases e; exact .inl rfl
      · exact .inr (mem_fulls.2 ⟨q, hq⟩)
    · rintro (rfl | hz)
      · exact .inl rfl
      · obtain ⟨q, hq⟩ := mem_fulls.1 hz
        refine .inr ⟨q, fun e => ?_, hq⟩
        rw [e, hp] at hq
        cases hq
/-- A key taken away. -/
theorem Inv.less (h : Inv m S) {p : Nat} (hp : S[p]? = some (Sl.full k v)) :
    Inv m (S.set p .dead) ∧ keysN (S.set p .dead) + 1 = keysN S ∧ deadN (S.set p .dead) = deadN S + 1 ∧ ∀ z, z ∈ fulls (S.set p .dead) ↔ (z ∈ fulls S ∧ z.1 ≠ k) := by
  have hk := keysN_set (x := .dead) hp
  have hd := deadN_set (x := .dead) hp
  simp [Sl.isFull, Sl.isDead] at hk hd
  have hlt := (List.getElem?_eq_some_iff.1 hp).1
  have hl := h.load
  refine ⟨⟨by simpa using h.pow, ?_, by simp only [hd, List.length_set]; omega⟩, hk, hd, ?_⟩
  · intro q k2 v2 hq
    by_cases e : p = q
    · subst e
      rw [List.getElem?_set_self hlt] at hq
      cases hq
    · rw [List.getElem?_set_ne e] at hq
      obtain ⟨a, b, j, hj, hpj⟩ := h.probe q k2 v2 hq
      refine ⟨a, b, j, hj.set_dead hp (fun e2 => e ?_), by rw [List.length_set]; exact hpj⟩
      subst e2
      exact (h.at_uniq hp hq).1
  · intro z
    rw [mem_set hp]
    constructor
    · rintro (e | ⟨q, hne, hq⟩)
      · cases e
      · refine ⟨mem_fulls.2 ⟨q, hq⟩, fun e => hne ?_⟩
        rw [e] at hq
        exact (h.at_uniq hq hp).1
    · rintro ⟨hz, hne⟩
      obtain ⟨q, hq⟩ := mem_fulls.1 hz
      refine .inr ⟨q, fun e => hne ?_, hq⟩
      rw [e, hp] at hq
      cases hq; rfl
end
/-- Slots that nothing was put into. -/
theorem rep_get {n p : Nat} {x : Sl} (h : (List.replicate n Sl.empty)[p]? = some x) : x = .empty := by
  rw [List.getElem?_replicate] at h
  split at h
  · cases h; rfl
  · cases h
theorem keysN_rep (n : Nat) : keysN (List.replicate n .empty) = 0 := by simp [keysN, List.countP_replicate, Sl.isFull]
theorem deadN_rep (n : Nat) : deadN (List.replicate n .empty) = 0 := by simp [deadN, List.countP_replicate, Sl.isDead]
theorem fulls_rep (n : Nat) : fulls (List.replicate n .empty) = [] := by
  apply List.eq_nil_iff_forall_not_mem.2
  intro z hz
  obtain ⟨p, hp⟩ := mem_fulls.1 hz
  cases rep_get hp
theorem Inv.rep (m e : Nat) : Inv m (List.replicate (8 * 2 ^ e) .empty) :=
  ⟨⟨e, by simp⟩, fun p k v hp => (by cases rep_get hp), by rw [keysN_rep, deadN_rep]; omega⟩
/-- How far a search goes. -/
theorem nodup_le {l r : List Nat} (h : l.Nodup) (hs : ∀ x ∈ l, x ∈ r) : l.length ≤ r.length := by
  induction l generalizing r with
  | nil => simp
  | cons a l ih =>
    obtain ⟨h1, h2⟩ := List.nodup_cons.1 h
    have ha := hs a (by simp)
    have := ih (r := r.erase a) h2 (fun x hx => (List.mem_erase_of_ne (fun e => h1 (by rw [← e]; exact hx))).2 (hs x (by simp [hx])))
    rw [List.length_erase_of_mem ha] at this
    have := List.length_pos_of_mem ha
    simp
    omega
theorem inUse_count : ∀ (S : List Sl), S.countP (fun x => x.isFull || x.isDead) = keysN S + deadN S := by
  intro S
  induction S with
  | nil => rfl
  | cons x r ih =>
    unfold keysN deadN at *
    rw [List.countP_cons, List.countP_cons, List.countP_cons, ih]
    cases x <;> simp [Sl.isFull, Sl.isDead] <;> omega
theorem countP_idx (P : Sl → Bool) : ∀ (S : List Sl), ((List.range S.length).filter fun i => P (slot S i)).length = S.countP P := by
  intro S
  rw [← List.countP_eq_length_filter]
  have h1 : S = (List.range S.length).map (slot S) := by
    refine List.ext_getElem? fun i => ?_
    rw [List.getElem?_map]
    by_cases h : i < S.length
    · rw [slot_eq h, List.getElem?_range h]; rfl
    · rw [List.getElem?_eq_none (by omega), List.getElem?_eq_none (by simp; omega)]; rfl
  conv => rhs; rw [h1]
  rw [List.countP_map]
  rfl
theorem Stop.steps {S : List Sl} {k : List UInt8} {j : Nat} (s : Stop S k j) : j ≤ keysN S + deadN S := by
  have h0 : 0 < S.length := by have := s.lt; omega
  have h1 : ((List.range j).map (pos k S.length)).length ≤ ((List.range S.length).filter fun i => (fun x : Sl => x.isFull || x.isDead) (slot S i)).length := by
    refine nodup_le ?_ ?_
    · rw [List.nodup_iff_pairwise_ne, List.pairwise_map]
      refine List.Pairwise.imp_of_mem ?_ (List.nodup_iff_pairwise_ne.1 List.nodup_range)
      intro a b ha hb hne e
      have := s.lt
      simp at ha hb
      exact hne (pos_inj k (by omega) (by omega) e)
    · intro x hx
      obtain ⟨i, hi, rfl⟩ := List.mem_map.1 hx
      simp at hi
      refine List.mem_filter.2 ⟨by simp; exact pos_lt _ _ h0, ?_⟩
      have := s.no i hi
      cases hc : slot S (pos k S.length i) with
      | empty => rw [hc] at this; cases this
      | dead => rfl
      | full a b => rfl
  have h2 := Nat.le_trans h1 (Nat.le_of_eq ((countP_idx (fun x : Sl => x.isFull || x.isDead) S).trans (inUse_count S)))
  simpa using h2
end Go.Proofs.Ytlebancjgjcfjaa
