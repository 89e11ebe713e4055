/- Mathematics: keys in their order, lists of keys and values that rise, what a table holds. It proves no statement. -/
import Derived.Test.YtlebancjgjcfjaaTbRenM
import Derived.Lib.Bytealg
namespace Go.Proofs.Ytlebancjgjcfjaa
open Go.Lib
set_option linter.unusedVariables false
set_option linter.unusedSimpArgs false

theorem cmp_self : ∀ a : List UInt8, compareBytes a a = 0
  | [] => rfl
  | x :: a => by simp [compareBytes, UInt8.lt_irrefl, cmp_self a]
theorem cmp_eq : ∀ {a b : List UInt8}, compareBytes a b = 0 → a = b
  | [], [], _ => rfl
  | [], _ :: _, h => by simp [compareBytes] at h
  | _ :: _, [], h => by simp [compareBytes] at h
  | x :: a, y :: b, h => by
    unfold compareBytes at h
    by_cases h1 : x < y
    · rw [if_pos h1] at h; simp at h
    · rw [if_neg h1] at h
      by_cases h2 : y < x
      · rw [if_pos h2] at h; simp at h
      · rw [if_neg h2] at h
        have e : x = y := UInt8.le_antisymm (UInt8.not_lt.1 h2) (UInt8.not_lt.1 h1)
        rw [e, cmp_eq h]
theorem cmp_flip : ∀ a b : List UInt8, compareBytes a b = - compareBytes b a
  | [], [] => rfl
  | [], _ :: _ => rfl
  | _ :: _, [] => rfl
  | x :: a, y :: b => by
    unfold compareBytes
    by_cases h1 : x < y
    · have h2 : ¬ y < x := fun h => UInt8.lt_irrefl x (UInt8.lt_trans h1 h)
      rw [if_pos h1, if_neg h2, if_pos h1]
    · by_cases h2 : y < x
      · rw [if_neg h1, if_pos h2, if_pos h2]; rfl
      · rw [if_neg h1, if_neg h2, if_neg h2, if_neg h1, cmp_flip a b]
theorem cmp_trans : ∀ {a b c : List UInt8}, compareBytes a b < 0 → compareBytes b c < 0 → compareBytes a c < 0
  | [], [], _, h, _ => by simp [compareBytes] at h
  | [], _ :: _, [], _, h => by simp [compareBytes] at h
  | [], _ :: _, _ :: _, _, _ => by simp [compareBytes]
  | _ :: _, [], _, h, _ => by simp [compareBytes] at h
  | _ :: _, _ :: _, [], _, h => by simp [compareBytes] at h
  | x :: a, y :: b, z :: c, h1, h2 => by
    unfold compareBytes at h1 h2 ⊢
    by_cases xy : x < y
    · by_cases yz : y < z
      · rw [if_pos (UInt8.lt_trans xy yz)]; omega
      · rw [if_neg yz] at h2
        by_cases zy : z < y
        · rw [if_pos zy] at h2; omega
        · have e : y = z := UInt8.le_antisymm (UInt8.not_lt.1 zy) (UInt8.not_lt.1 yz)
          rw [if_pos (by rw [← e]; exact xy)]; omega
    · rw [if_neg xy] at h1
      by_cases yx : y < x
      · rw [if_pos yx] at h1; omega
      · have e : x = y := UInt8.le_antisymm (UInt8.not_lt.1 yx) (UInt8.not_lt.1 xy)
        subst e
        rw [if_neg yx] at h1
        by_cases yz : x < z
        · rw [if_pos yz]; omega
        · rw [if_neg yz] at h2 ⊢
          by_cases zy : z < x
          · rw [if_pos zy] at h2; omega
          · rw [if_neg zy] at h2 ⊢
            exact cmp_trans h1 h2
/-- Ahead. -/
def ltK (a b : List UInt8) : Bool := decide (compareBytes a b < 0)
theorem ltK_irrefl (a : List UInt8) : ltK a a = false := by simp [ltK, cmp_self]
theorem ltK_trans {a b c : List UInt8} (h1 : ltK a b = true) (h2 : ltK b c = true) : ltK a c = true := by
  simp [ltK] at *
  exact cmp_trans h1 h2
theorem ltK_tri {a b : List UInt8} (h : a ≠ b) (h1 : ltK a b = false) : ltK b a = true := by
  simp [ltK] at *
  have := cmp_flip a b
  have h0 : compareBytes a b ≠ 0 := fun e => h (cmp_eq e)
  omega
theorem ltK_asym {a b : List UInt8} (h : ltK a b = true) : ltK b a = false := by
  cases hc : ltK b a with
  | false => rfl
  | true => have := ltK_trans h hc; rw [ltK_irrefl] at this; cases this
theorem ltK_ne {a b : List UInt8} (h : ltK a b = true) : a ≠ b := fun e => by rw [e, ltK_irrefl] at h; cases h

abbrev KV := List UInt8 × List Int
def Rise (L : List KV) : Prop := L.Pairwise (fun a b => ltK a.1 b.1 = true)
def insL (k : List UInt8) (v : List Int) : List KV → List KV
  | [] => [(k, v)]
  | z :: r => if z.1 = k then (k, v) :: r else if ltK k z.1 then (k, v) :: z :: r else z :: insL k v r
def delL (k : List UInt8) (L : List KV) : List KV := L.filter (fun z => !decide (z.1 = k))
def hasL (k : List UInt8) (L : List KV) : Bool := L.any (fun z => decide (z.1 = k))
theorem hasL_iff {k : List UInt8} {L : List KV} : hasL k L = true ↔ ∃ v, (k, v) ∈ L := by
  unfold hasL
  rw [List.any_eq_true]
  constructor
  · rintro ⟨z, hz, e⟩
    have e := of_decide_eq_true e
    exact ⟨z.2, by rw [← e]; exact hz⟩
  · rintro ⟨v, hv⟩; exact ⟨_, hv, by simp⟩
theorem hasL_no {k : List UInt8} {L : List KV} : hasL k L = false ↔ ∀ v, (k, v) ∉ L := by
  constructor
  · intro h v hv
    have := hasL_iff.2 ⟨v, hv⟩
    rw [h] at this; cases this
  · intro h
    cases hc : hasL k L with
    | false => rfl
    | true => obtain ⟨v, hv⟩ := hasL_iff.1 hc; exact absurd hv (h v)
theorem Rise.uniq {L : List KV} (h : Rise L) {k : List UInt8} {v v' : List Int} (h1 : (k, v) ∈ L) (h2 : (k, v') ∈ L) : v = v' := by
  induction L with
  | nil => cases h1
  | cons z r ih =>
    obtain ⟨hz, hr⟩ := List.pairwise_cons.1 h
    rcases List.mem_cons.1 h1 with e1 | h1 <;> rcases List.mem_cons.1 h2 with e2 | h2
    · rw [← e1] at e2; cases e2; rfl
    · have := hz _ h2; rw [← e1, ltK_irrefl] at this; cases this
    · have := hz _ h1; rw [← e2, ltK_irrefl] at this; cases this
    · exact ih hr h1 h2
theorem mem_insL {k : List UInt8} {v : List Int} {L : List KV} (h : Rise L) (z : KV) : z ∈ insL k v L ↔ z = (k, v) ∨ (z ∈ L ∧ z.1 ≠ k) := by
  induction L with
  | nil => simp [insL]
  | cons y r ih =>
    obtain ⟨hy, hr⟩ := List.pairwise_cons.1 h
    unfold insL
    by_cases e : y.1 = k
    · rw [if_pos e, List.mem_cons, List.mem_cons]
      constructor
      · rintro (rfl | hz)
        · exact .inl rfl
        · exact .inr ⟨.inr hz, fun e2 => by have := ltK_ne (hy z hz); rw [e, e2] at this; exact this rfl⟩
      · rintro (rfl | ⟨rfl | hz, hne⟩)
        · exact .inl rfl
        · exact absurd e hne
        · exact .inr hz
    · rw [if_neg e]
      by_cases l : ltK k y.1 = true
      · rw [if_pos l, List.mem_cons]
        constructor
        · rintro (rfl | hz)
          · exact .inl rfl
          · refine .inr ⟨hz, fun e2 => ?_⟩
            rcases List.mem_cons.1 hz with rfl | hz
            · exact e e2
            · have := ltK_trans l (hy z hz); rw [e2, ltK_irrefl] at this; cases this
        · rintro (rfl | ⟨hz, _⟩)
          · exact .inl rfl
          · exact .inr hz
      · rw [if_neg l, List.mem_cons, ih hr, List.mem_cons]
        constructor
        · rintro (rfl | rfl | ⟨hz, hne⟩)
          · exact .inr ⟨.inl rfl, e⟩
          · exact .inl rfl
          · exact .inr ⟨.inr hz, hne⟩
        · rintro (rfl | ⟨rfl | hz, hne⟩)
          · exact .inr (.inl rfl)
          · exact .inl rfl
          · exact .inr (.inr ⟨hz, hne⟩)
theorem Rise.ins {k : List UInt8} {v : List Int} {L : List KV} (h : Rise L) : Rise (insL k v L) := by
  induction L with
  | nil => simp [insL, Rise]
  | cons y r ih =>
    obtain ⟨hy, hr⟩ := List.pairwise_cons.1 h
    unfold insL
    by_cases e : y.1 = k
    · rw [if_pos e]
      exact List.pairwise_cons.2 ⟨fun z hz => by show ltK k z.1 = true; rw [← e]; exact hy z hz, hr⟩
    · rw [if_neg e]
      by_cases l : ltK k y.1 = true
      · rw [if_pos l]
        exact List.pairwise_cons.2 ⟨fun z hz => by
          rcases List.mem_cons.1 hz with rfl | hz
          · exact l
          · exact ltK_trans l (hy z hz), h⟩
      · rw [if_neg l]
        refine List.pairwise_cons.2 ⟨fun z hz => ?_, ih hr⟩
        rcases (mem_insL hr z).1 hz with rfl | ⟨hz, _⟩
        · exact ltK_tri (fun e2 => e e2.symm) (by simpa using l)
        · exact hy z hz
theorem insL_len {k : List UInt8} {v : List Int} {L : List KV} (h : Rise L) : (insL k v L).length = if hasL k L then L.length else L.length + 1 := by
  induction L with
  | nil => rfl
  | cons y r ih =>
    obtain ⟨hy, hr⟩ := List.pairwise_cons.1 h
    have hc : hasL k (y :: r) = (decide (y.1 = k) || hasL k r) := rfl
    unfold insL
    by_cases e : y.1 = k
    · rw [if_pos e, hc]; simp [e]
    · rw [if_neg e, hc]
      by_cases l : ltK k y.1 = true
      · have : hasL k r = false := hasL_no.2 fun v hv => by have := ltK_trans l (hy _ hv); rw [ltK_irrefl] at this; cases this
        rw [if_pos l]; simp [e, this]
      · rw [if_neg l, List.length_cons, ih hr]
        simp only [e, decide_false, Bool.false_or, List.length_cons]
        split <;> rfl
theorem mem_delL {k : List UInt8} {L : List KV} (z : KV) : z ∈ delL k L ↔ z ∈ L ∧ z.1 ≠ k := by
  unfold delL
  rw [List.mem_filter]
  simp
theorem Rise.del {k : List UInt8} {L : List KV} (h : Rise L) : Rise (delL k L) := h.filter _
theorem delL_none {k : List UInt8} {L : List KV} (h : hasL k L = false) : delL k L = L := by
  unfold delL
  rw [List.filter_eq_self]
  intro z hz
  have : z.1 ≠ k := fun e => hasL_no.1 h z.2 (by rw [← e]; exact hz)
  simp [this]
theorem delL_len {k : List UInt8} {L : List KV} (h : Rise L) (hk : hasL k L = true) : (delL k L).length + 1 = L.length := by
  induction L with
  | nil => cases hk
  | cons y r ih =>
    obtain ⟨hy, hr⟩ := List.pairwise_cons.1 h
    have hc : hasL k (y :: r) = (decide (y.1 = k) || hasL k r) := rfl
    by_cases e : y.1 = k
    · have hn : hasL k r = false := hasL_no.2 fun v hv => by have := hy _ hv; rw [e, ltK_irrefl] at this; cases this
      have : delL k (y :: r) = delL k r := by simp [delL, e]
      rw [this, delL_none hn]; rfl
    · have : delL k (y :: r) = y :: delL k r := by simp [delL, e]
      rw [hc] at hk
      simp [e] at hk
      rw [this, List.length_cons, List.length_cons, ih hr hk]
/-- What a table holds. -/
structure Abs (S : List Sl) (L : List KV) : Prop where
  rise : Rise L
  len : keysN S = L.length
  mem : ∀ z, z ∈ fulls S ↔ z ∈ L
theorem Abs.rep (n : Nat) : Abs (List.replicate n .empty) [] := ⟨List.Pairwise.nil, keysN_rep n, fun z => by rw [fulls_rep]⟩
section
variable {m : Nat} {S : List Sl} {L : List KV} {k : List UInt8} {v v' : List Int}
theorem Abs.at_ (a : Abs S L) {p : Nat} (hp : S[p]? = some (.full k v)) : (k, v) ∈ L := (a.mem _).1 (mem_fulls.2 ⟨p, hp⟩)
theorem Abs.find (a : Abs S L) (h : Inv m S) {j : Nat} (s : Stop S k j) : (hasL k L = true ∧ ∃ v, S[pos k S.length j]? = some (Sl.full k v) ∧ (k, v) ∈ L) ∨ (hasL k L = false ∧ S[pos k S.length j]? = some Sl.empty) := by
  rcases h.find s with ⟨v, e⟩ | ⟨e, hn⟩
  · have := a.at_ e
    exact .inl ⟨hasL_iff.2 ⟨v, this⟩, v, e, this⟩
  · exact .inr ⟨hasL_no.2 fun v hv => hn v ((a.mem _).2 hv), e⟩
theorem Abs.over (a : Abs S L) (h : Inv m S) {p : Nat} (hp : S[p]? = some (Sl.full k v)) (hv : v'.length = m) : Abs (S.set p (.full k v')) (insL k v' L) := by
  obtain ⟨_, K, _, M⟩ := h.over hp hv
  have hk : hasL k L = true := hasL_iff.2 ⟨v, a.at_ hp⟩
  exact ⟨a.rise.ins, by rw [K, insL_len a.rise, hk, if_pos rfl]; exact a.len, fun z => by rw [M, mem_insL a.rise, a.mem]⟩
theorem Abs.more (a : Abs S L) (h : Inv m S) {j : Nat} (s : Stop S k j) (hp : S[pos k S.length j]? = some Sl.empty) (hk32 : k.length = 32) (hv : v.length = m) (hl : 4 * (keysN S + 1 + deadN S) ≤ 3 * S.length) :
    Abs (S.set (pos k S.length j) (.full k v)) (insL k v L) := by
  obtain ⟨_, K, _, M⟩ := h.more s hp hk32 hv hl
  have hn : hasL k L = false := by
    rcases a.find h s with ⟨_, v, e, _⟩ | ⟨e, _⟩
    · rw [hp] at e; cases e
    · exact e
  refine ⟨a.rise.ins, by rw [K, insL_len a.rise, hn, a.len]; rfl, fun z => ?_⟩
  rw [M, mem_insL a.rise, a.mem]
  constructor
  · rintro (rfl | hz)
    · exact .inl rfl
    · exact .inr ⟨hz, fun e => hasL_no.1 hn z.2 (by rw [← e]; exact hz)⟩
  · rintro (rfl | ⟨hz, _⟩)
    · exact .inl rfl
    · exact .inr hz
theorem Abs.less (a : Abs S L) (h : Inv m S) {p : Nat} (hp : S[p]? = some (Sl.full k v)) : Abs (S.set p .dead) (delL k L) := by
  obtain ⟨_, K, _, M⟩ := h.less hp
  have hk : hasL k L = true := hasL_iff.2 ⟨v, a.at_ hp⟩
  have := delL_len a.rise hk
  exact ⟨a.rise.del, by have := a.len; omega, fun z => by rw [M, mem_delL, a.mem]⟩
theorem Abs.ren (a : Abs S L) {n : Nat} {S2 : List Sl} (r : Ren m n S S.length S2) : Abs S2 L := ⟨a.rise, r.all.1.trans a.len, fun z => (r.all.2 z).trans (a.mem z)⟩
end
/-- What Put makes of the slots and the dead ones. -/
def PutR (k : List UInt8) (L : List KV) (cp dd cp' dd' : Nat) : Prop :=
  if hasL k L then cp' = cp ∧ dd' = dd else if 3 * cp < 4 * (L.length + dd + 1) then NewCap L.length cp' ∧ dd' = 0 else cp' = cp ∧ dd' = dd
/-- What Delete makes of them. -/
def DelR (k : List UInt8) (L : List KV) (cp dd cp' dd' : Nat) : Prop :=
  if hasL k L then (if 8 < cp ∧ 8 * (delL k L).length < cp then NewCap (delL k L).length cp' ∧ dd' = 0 else cp' = cp ∧ dd' = dd + 1) else cp' = cp ∧ dd' = dd
def Gd (L : List KV) (cp : Nat) : Prop := cp ≤ 8 ∨ cp ≤ 8 * L.length
theorem PutR.gd {k : List UInt8} {v : List Int} {L : List KV} {cp dd cp' dd' : Nat} (h : PutR k L cp dd cp' dd') (hr : Rise L) (g : Gd L cp) : Gd (insL k v L) cp' := by
  unfold PutR at h
  unfold Gd at *
  rw [insL_len hr]
  split at h
  · rename_i hk
    rw [hk, if_pos rfl, h.1]; exact g
  · rename_i hk
    have hk : hasL k L = false := by simpa using hk
    rw [hk]
    simp only [Bool.false_eq_true, if_false]
    split at h
    · have := h.1.bd; omega
    · omega
theorem DelR.gd {k : List UInt8} {L : List KV} {cp dd cp' dd' : Nat} (h : DelR k L cp dd cp' dd') (hr : Rise L) (g : Gd L cp) : Gd (delL k L) cp' := by
  unfold DelR at h
  unfold Gd at *
  split at h
  · split at h
    · have := h.1.bd; omega
    · omega
  · rename_i hk
    rw [delL_none (by simpa using hk)]
    omega
end Go.Proofs.Ytlebancjgjcfjaa
