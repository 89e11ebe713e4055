/- Mathematics: a table made anew. It proves no statement. -/
import Derived.Test.YtlebancjgjcfjaaTbMath
namespace Go.Proofs.Ytlebancjgjcfjaa
set_option linter.unusedVariables false
set_option linter.unusedSimpArgs false

/-- As many slots as so many keys ask for. -/
def NewCap (k n : Nat) : Prop := ∃ e, n = 8 * 2 ^ e ∧ 2 * k + 1 ≤ n ∧ (e = 0 ∨ n < 4 * k + 2)
theorem NewCap.bd {k n : Nat} (h : NewCap k n) : 8 ≤ n ∧ 2 * k + 1 ≤ n ∧ (n = 8 ∨ n < 4 * k + 2) := by
  obtain ⟨e, rfl, h2, h3⟩ := h
  have := Nat.two_pow_pos e
  refine ⟨by omega, h2, ?_⟩
  rcases h3 with rfl | h3
  · exact .inl rfl
  · exact .inr h3
theorem NewCap.uniq {k n n' : Nat} (h : NewCap k n) (h' : NewCap k n') : n = n' := by
  obtain ⟨e, rfl, h2, h3⟩ := h
  obtain ⟨e', rfl, h2', h3'⟩ := h'
  rcases Nat.lt_trichotomy e e' with hlt | rfl | hlt
  · have : 2 ^ (e + 1) ≤ 2 ^ e' := Nat.pow_le_pow_right (by omega) hlt
    rw [Nat.pow_succ] at this
    rcases h3' with rfl | h3'
    · omega
    · omega
  · rfl
  · have : 2 ^ (e' + 1) ≤ 2 ^ e := Nat.pow_le_pow_right (by omega) hlt
    rw [Nat.pow_succ] at this
    rcases h3 with rfl | h3
    · omega
    · omega
theorem keysN_take_succ {S : List Sl} {i : Nat} {s : Sl} (h : S[i]? = some s) : keysN (S.take (i + 1)) = keysN (S.take i) + (if s.isFull then 1 else 0) := by
  unfold keysN
  rw [List.take_add_one, h, List.countP_append]
  simp [List.countP_cons, List.countP_nil]
theorem keysN_take_le (S : List Sl) (i : Nat) : keysN (S.take i) ≤ keysN S := by
  unfold keysN
  have := List.countP_append (p := Sl.isFull) (l₁ := S.take i) (l₂ := S.drop i)
  rw [List.take_append_drop] at this
  omega
/-- Behind i of the elder slots. -/
structure Ren (m n : Nat) (S : List Sl) (i : Nat) (Si : List Sl) : Prop where
  len : Si.length = n
  inv : Inv m Si
  dead : deadN Si = 0
  keys : keysN Si = keysN (S.take i)
  mem : ∀ z : List UInt8 × List Int, z ∈ fulls Si ↔ ∃ q, q < i ∧ S[q]? = some (Sl.full z.1 z.2)
theorem Ren.start {m k n : Nat} (S : List Sl) (h : NewCap k n) : Ren m n S 0 (List.replicate n .empty) := by
  obtain ⟨e, rfl, _⟩ := h
  exact ⟨by simp, Inv.rep m e, deadN_rep _, by rw [keysN_rep]; rfl, fun z => by rw [fulls_rep]; simp⟩
theorem Ren.skip {m n i : Nat} {S Si : List Sl} (h : Ren m n S i Si) {s : Sl} (hs : S[i]? = some s) (hf : s.isFull = false) : Ren m n S (i + 1) Si := by
  refine ⟨h.len, h.inv, h.dead, by rw [keysN_take_succ hs, hf, h.keys]; simp, fun z => ?_⟩
  rw [h.mem]
  constructor
  · rintro ⟨q, hq, e⟩; exact ⟨q, by omega, e⟩
  · rintro ⟨q, hq, e⟩
    refine ⟨q, ?_, e⟩
    rcases Nat.lt_or_ge q i with h1 | h1
    · exact h1
    · have : q = i := by omega
      subst this
      rw [hs] at e
      cases e
      cases hf
section
variable {m n i j : Nat} {S Si : List Sl} {k : List UInt8} {v : List Int}
theorem Ren.new (h : Ren m n S i Si) (hI : Inv m S) (hs : S[i]? = some (.full k v)) (v' : List Int) : (k, v') ∉ fulls Si := by
  intro hm
  obtain ⟨q, hq, e⟩ := (h.mem _).1 hm
  have := (hI.at_uniq e hs).1
  omega
theorem Ren.room (h : Ren m n S i Si) (hc : NewCap (keysN S) n) (hs : S[i]? = some (.full k v)) : 4 * (keysN Si + 1 + deadN Si) ≤ 3 * Si.length := by
  have h1 := keysN_take_succ hs
  have h2 := keysN_take_le S (i + 1)
  have hb := hc.bd
  simp [Sl.isFull] at h1
  rw [h.dead, h.len, h.keys]
  omega
theorem Ren.stop (h : Ren m n S i Si) (hI : Inv m S) (hs : S[i]? = some (.full k v)) : ∃ j, Stop Si k j ∧ Si[pos k Si.length j]? = some Sl.empty := by
  obtain ⟨j, hj⟩ := h.inv.stop_ex k
  refine ⟨j, hj, ?_⟩
  rcases h.inv.find hj with ⟨v', e⟩ | ⟨e, _⟩
  · exact absurd (mem_fulls.2 ⟨_, e⟩) (h.new hI hs v')
  · exact e
theorem Ren.step (h : Ren m n S i Si) (hI : Inv m S) (hc : NewCap (keysN S) n) (hs : S[i]? = some (.full k v)) (hj : Stop Si k j) (he : Si[pos k Si.length j]? = some Sl.empty) : Ren m n S (i + 1) (Si.set (pos k Si.length j) (.full k v)) := by
  obtain ⟨hk, hv, _⟩ := hI.probe i k v hs
  obtain ⟨I, K, D, M⟩ := h.inv.more hj he hk hv (h.room hc hs)
  refine ⟨by rw [List.length_set]; exact h.len, I, by rw [D]; exact h.dead, by rw [K, keysN_take_succ hs, h.keys]; simp [Sl.isFull], fun z => ?_⟩
  rw [M, h.mem]
  constructor
  · rintro (rfl | ⟨q, hq, e⟩)
    · exact ⟨i, by omega, hs⟩
    · exact ⟨q, by omega, e⟩
  · rintro ⟨q, hq, e⟩
    rcases Nat.lt_or_ge q i with h1 | h1
    · exact .inr ⟨q, h1, e⟩
    · have : q = i := by omega
      subst this
      rw [hs] at e
      cases e
      exact .inl rfl
theorem Ren.all (h : Ren m n S S.length Si) : keysN Si = keysN S ∧ ∀ z, z ∈ fulls Si ↔ z ∈ fulls S := by
  refine ⟨by rw [h.keys, List.take_length], fun z => ?_⟩
  rw [h.mem, mem_fulls]
  constructor
  · rintro ⟨q, _, e⟩; exact ⟨q, e⟩
  · rintro ⟨q, e⟩; exact ⟨q, (List.getElem?_eq_some_iff.1 e).1, e⟩
end
end Go.Proofs.Ytlebancjgjcfjaa
