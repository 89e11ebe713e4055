/- Contracts and facts, several texts in one. It proves no statement. -/
import Derived.Test.YtgbkpbmilaafgaaBkGc
import Derived.Lib.Bytealg
import Derived.Test.YtgbkpbmilaafgaaBkGa
import Derived.Deep.WholeRow
import Derived.Great.Walk
import Derived.Great.BuildSlice

/- Mathematics: keys in their order, lists of keys and values that rise, what a table holds. It proves no statement. -/


namespace Go.Proofs.Ytgbkpbmilaafgaa
open Go.Lib
set_option linter.unusedVariables false
set_option linter.unusedSimpArgs false

theorem cmp_self : ∀ a : List UInt8, compareBytes a a = 0
  | [] => rfl
  | x :: a => by simp [compareBytes, UInt8.lt_irrefl, cmp_self a]
theorem cmp_eq : ∀ {a b : List UInt8}, compareBytes a b = 0 → a = b
  | [], [], _ => rfl
  | [], _ :: _, h => by simp [compareBytes] at h
  | _ :: _, [], h => by simp [compareBytes] at h
  | x :: a, y :: b, h => by
    unfold compareBytes at h
    by_cases h1 : x < y
    · rw [if_pos h1] at h; simp at h
    · rw [if_neg h1] at h
      by_cases h2 : y < x
      · rw [if_pos h2] at h; simp at h
      · rw [if_neg h2] at h
        have e : x = y := UInt8.le_antisymm (UInt8.not_lt.1 h2) (UInt8.not_lt.1 h1)
        rw [e, cmp_eq h]
theorem cmp_flip : ∀ a b : List UInt8, compareBytes a b = - compareBytes b a
  | [], [] => rfl
  | [], _ :: _ => rfl
  | _ :: _, [] => rfl
  | x :: a, y :: b => by
    unfold compareBytes
    by_cases h1 : x < y
    · have h2 : ¬ y < x := fun h => UInt8.lt_irrefl x (UInt8.lt_trans h1 h)
      rw [if_pos h1, if_neg h2, if_pos h1]
    · by_cases h2 : y < x
      · rw [if_neg h1, if_pos h2, if_pos h2]; rfl
      · rw [if_neg h1, if_neg h2, if_neg h2, if_neg h1, cmp_flip a b]
theorem cmp_trans : ∀ {a b c : List UInt8}, compareBytes a b < 0 → compareBytes b c < 0 → compareBytes a c < 0
  | [], [], _, h, _ => by simp [compareBytes] at h
  | [], _ :: _, [], _, h => by simp [compareBytes] at h
  | [], _ :: _, _ :: _, _, _ => by simp [compareBytes]
  | _ :: _, [], _, h, _ => by simp [compareBytes] at h
  | _ :: _, _ :: _, [], _, h => by simp [compareBytes] at h
  | x :: a, y :: b, z :: c, h1, h2 => by
    unfold compareBytes at h1 h2 ⊢
    by_cases xy : x < y
    · by_cases yz : y < z
      · rw [if_pos (UInt8.lt_trans xy yz)]; omega
      · rw [if_neg yz] at h2
        by_cases zy : z < y
        · rw [if_pos zy] at h2; omega
        · have e : y = z := UInt8.le_antisymm (UInt8.not_lt.1 zy) (UInt8.not_lt.1 yz)
          rw [if_pos (by rw [← e]; exact xy)]; omega
    · rw [if_neg xy] at h1
      by_cases yx : y < x
      · rw [if_pos yx] at h1; omega
      · have e : x = y := UInt8.le_antisymm (UInt8.not_lt.1 yx) (UInt8.not_lt.1 xy)
        subst e
        rw [if_neg yx] at h1
        by_cases yz : x < z
        · rw [if_pos yz]; omega
        · rw [if_neg yz] at h2 ⊢
          by_cases zy : z < x
          · rw [if_pos zy] at h2; omega
          · rw [if_neg zy] at h2 ⊢
            exact cmp_trans h1 h2
/-- Ahead. -/
def ltK (a b : List UInt8) : Bool := decide (compareBytes a b < 0)
theorem ltK_irrefl (a : List UInt8) : ltK a a = false := by simp [ltK, cmp_self]
theorem ltK_trans {a b c : List UInt8} (h1 : ltK a b = true) (h2 : ltK b c = true) : ltK a c = true := by
  simp [ltK] at *
  exact cmp_trans h1 h2
theorem ltK_tri {a b : List UInt8} (h : a ≠ b) (h1 : ltK a b = false) : ltK b a = true := by
  simp [ltK] at *
  have := cmp_flip a b
  have h0 : compareBytes a b ≠ 0 := fun e => h (cmp_eq e)
  omega
theorem ltK_asym {a b : List UInt8} (h : ltK a b = true) : ltK b a = false := by
  cases hc : ltK b a with
  | false => rfl
  | true => have := ltK_trans h hc; rw [ltK_irrefl] at this; cases this
theorem ltK_ne {a b : List UInt8} (h : ltK a b = true) : a ≠ b := fun e => by rw [e, ltK_irrefl] at h; cases h

abbrev KV := List UInt8 × List Int
def Rise (L : List KV) : Prop := L.Pairwise (fun a b => ltK a.1 b.1 = true)
def insL (k : List UInt8) (v : List Int) : List KV → List KV
  | [] => [(k, v)]
  | z :: r => if z.1 = k then (k, v) :: r else if ltK k z.1 then (k, v) :: z :: r else z :: insL k v r
def delL (k : List UInt8) (L : List KV) : List KV := L.filter (fun z => !decide (z.1 = k))
def hasL (k : List UInt8) (L : List KV) : Bool := L.any (fun z => decide (z.1 = k))
theorem hasL_iff {k : List UInt8} {L : List KV} : hasL k L = true ↔ ∃ v, (k, v) ∈ L := by
  unfold hasL
  rw [List.any_eq_true]
  constructor
  · rintro ⟨z, hz, e⟩
    have e := of_decide_eq_true e
    exact ⟨z.2, by rw [← e]; exact hz⟩
  · rintro ⟨v, hv⟩; exact ⟨_, hv, by simp⟩
theorem hasL_no {k : List UInt8} {L : List KV} : hasL k L = false ↔ ∀ v, (k, v) ∉ L := by
  constructor
  · intro h v hv
    have := hasL_iff.2 ⟨v, hv⟩
    rw [h] at this; cases this
  · intro h
    cases hc : hasL k L with
    | false => rfl
    | true => obtain ⟨v, hv⟩ := hasL_iff.1 hc; exact absurd hv (h v)
theorem Rise.uniq {L : List KV} (h : Rise L) {k : List UInt8} {v v' : List Int} (h1 : (k, v) ∈ L) (h2 : (k, v') ∈ L) : v = v' := by
  induction L with
  | nil => cases h1
  | cons z r ih =>
    obtain ⟨hz, hr⟩ := List.pairwise_cons.1 h
    rcases List.mem_cons.1 h1 with e1 | h1 <;> rcases List.mem_cons.1 h2 with e2 | h2
    · rw [← e1] at e2; cases e2; rfl
    · have := hz _ h2; rw [← e1, ltK_irrefl] at this; cases this
    · have := hz _ h1; rw [← e2, ltK_irrefl] at this; cases this
    · exact ih hr h1 h2
theorem mem_insL {k : List UInt8} {v : List Int} {L : List KV} (h : Rise L) (z : KV) : z ∈ insL k v L ↔ z = (k, v) ∨ (z ∈ L ∧ z.1 ≠ k) := by
  induction L with
  | nil => simp [insL]
  | cons y r ih =>
    obtain ⟨hy, hr⟩ := List.pairwise_cons.1 h
    unfold insL
    by_cases e : y.1 = k
    · rw [if_pos e, List.mem_cons, List.mem_cons]
      constructor
      · rintro (rfl | hz)
        · exact .inl rfl
        · exact .inr ⟨.inr hz, fun e2 => by have := ltK_ne (hy z hz); rw [e, e2] at this; exact this rfl⟩
      · rintro (rfl | ⟨rfl | hz, hne⟩)
        · exact .inl rfl
        · exact absurd e hne
        · exact .inr hz
    · rw [if_neg e]
      by_cases l : ltK k y.1 = true
      · rw [if_pos l, List.mem_cons]
        constructor
        · rintro (rfl | hz)
          · exact .inl rfl
          · refine .inr ⟨hz, fun e2 => ?_⟩
            rcases List.mem_cons.1 hz with rfl | hz
            · exact e e2
            · have := ltK_trans l (hy z hz); rw [e2, ltK_irrefl] at this; cases this
        · rintro (rfl | ⟨hz, _⟩)
          · exact .inl rfl
          · exact .inr hz
      · rw [if_neg l, List.mem_cons, ih hr, List.mem_cons]
        constructor
        · rintro (rfl | rfl | ⟨hz, hne⟩)
          · exact .inr ⟨.inl rfl, e⟩
          · exact .inl rfl
          · exact .inr ⟨.inr hz, hne⟩
        · rintro (rfl | ⟨rfl | hz, hne⟩)
          · exact .inr (.inl rfl)
          · exact .inl rfl
          · exact .inr (.inr ⟨hz, hne⟩)
theorem Rise.ins {k : List UInt8} {v : List Int} {L : List KV} (h : Rise L) : Rise (insL k v L) := by
  induction L with
  | nil => simp [insL, Rise]
  | cons y r ih =>
    obtain ⟨hy, hr⟩ := List.pairwise_cons.1 h
    unfold insL
    by_cases e : y.1 = k
    · rw [if_pos e]
      exact List.pairwise_cons.2 ⟨fun z hz => by show ltK k z.1 = true; rw [← e]; exact hy z hz, hr⟩
    · rw [if_neg e]
      by_cases l : ltK k y.1 = true
      · rw [if_pos l]
        exact List.pairwise_cons.2 ⟨fun z hz => by
          rcases List.mem_cons.1 hz with rfl | hz
          · exact l
          · exact ltK_trans l (hy z hz), h⟩
      · rw [if_neg l]
        refine List.pairwise_cons.2 ⟨fun z hz => ?_, ih hr⟩
        rcases (mem_insL hr z).1 hz with rfl | ⟨hz, _⟩
        · exact ltK_tri (fun e2 => e e2.symm) (by simpa using l)
        · exact hy z hz
theorem insL_len {k : List UInt8} {v : List Int} {L : List KV} (h : Rise L) : (insL k v L).length = if hasL k L then L.length else L.length + 1 := by
  induction L with
  | nil => rfl
  | cons y r ih =>
    obtain ⟨hy, hr⟩ := List.pairwise_cons.1 h
    have hc : hasL k (y :: r) = (decide (y.1 = k) || hasL k r) := rfl
    unfold insL
    by_cases e : y.1 = k
    · rw [if_pos e, hc]; simp [e]
    · rw [if_neg e, hc]
      by_cases l : ltK k y.1 = true
      · have : hasL k r = false := hasL_no.2 fun v hv => by have := ltK_trans l (hy _ hv); rw [ltK_irrefl] at this; cases this
        rw [if_pos l]; simp [e, this]
      · rw [if_neg l, List.length_cons, ih hr]
        simp only [e, decide_false, Bool.false_or, List.length_cons]
        split <;> rfl
theorem mem_delL {k : List UInt8} {L : List KV} (z : KV) : z ∈ delL k L ↔ z ∈ L ∧ z.1 ≠ k := by
  unfold delL
  rw [List.mem_filter]
  simp
theorem Rise.del {k : List UInt8} {L : List KV} (h : Rise L) : Rise (delL k L) := h.filter _
theorem delL_none {k : List UInt8} {L : List KV} (h : hasL k L = false) : delL k L = L := by
  unfold delL
  rw [List.filter_eq_self]
  intro z hz
  have : z.1 ≠ k := fun e => hasL_no.1 h z.2 (by rw [← e]; exact hz)
  simp [this]
theorem delL_len {k : List UInt8} {L : List KV} (h : Rise L) (hk : hasL k L = true) : (delL k L).length + 1 = L.length := by
  induction L with
  | nil => cases hk
  | cons y r ih =>
    obtain ⟨hy, hr⟩ := List.pairwise_cons.1 h
    have hc : hasL k (y :: r) = (decide (y.1 = k) || hasL k r) := rfl
    by_cases e : y.1 = k
    · have hn : hasL k r = false := hasL_no.2 fun v hv => by have := hy _ hv; rw [e, ltK_irrefl] at this; cases this
      have : delL k (y :: r) = delL k r := by simp [delL, e]
      rw [this, delL_none hn]; rfl
    · have : delL k (y :: r) = y :: delL k r := by simp [delL, e]
      rw [hc] at hk
      simp [e] at hk
      rw [this, List.length_cons, List.length_cons, ih hr hk]
/-- What a table holds. -/
structure Abs (S : List Sl) (L : List KV) : Prop where
  rise : Rise L
  len : keysN S = L.length
  mem : ∀ z, z ∈ fulls S ↔ z ∈ L
theorem Abs.rep (n : Nat) : Abs (List.replicate n .empty) [] := ⟨List.Pairwise.nil, keysN_rep n, fun z => by rw [fulls_rep]⟩
section
variable {m : Nat} {S : List Sl} {L : List KV} {k : List UInt8} {v v' : List Int}
theorem Abs.at_ (a : Abs S L) {p : Nat} (hp : S[p]? = some (.full k v)) : (k, v) ∈ L := (a.mem _).1 (mem_fulls.2 ⟨p, hp⟩)
theorem Abs.find (a : Abs S L) (h : Inv m S) {j : Nat} (s : Stop S k j) : (hasL k L = true ∧ ∃ v, S[pos k S.length j]? = some (Sl.full k v) ∧ (k, v) ∈ L) ∨ (hasL k L = false ∧ S[pos k S.length j]? = some Sl.empty) := by
  rcases h.find s with ⟨v, e⟩ | ⟨e, hn⟩
  · have := a.at_ e
    exact .inl ⟨hasL_iff.2 ⟨v, this⟩, v, e, this⟩
  · exact .inr ⟨hasL_no.2 fun v hv => hn v ((a.mem _).2 hv), e⟩
theorem Abs.over (a : Abs S L) (h : Inv m S) {p : Nat} (hp : S[p]? = some (Sl.full k v)) (hv : v'.length = m) : Abs (S.set p (.full k v')) (insL k v' L) := by
  obtain ⟨_, K, _, M⟩ := h.over hp hv
  have hk : hasL k L = true := hasL_iff.2 ⟨v, a.at_ hp⟩
  exact ⟨a.rise.ins, by rw [K, insL_len a.rise, hk, if_pos rfl]; exact a.len, fun z => by rw [M, mem_insL a.rise, a.mem]⟩
theorem Abs.more (a : Abs S L) (h : Inv m S) {j : Nat} (s : Stop S k j) (hp : S[pos k S.length j]? = some Sl.empty) (hk32 : k.length = 32) (hv : v.length = m) (hl : 4 * (keysN S + 1 + deadN S) ≤ 3 * S.length) :
    Abs (S.set (pos k S.length j) (.full k v)) (insL k v L) := by
  obtain ⟨_, K, _, M⟩ := h.more s hp hk32 hv hl
  have hn : hasL k L = false := by
    rcases a.find h s with ⟨_, v, e, _⟩ | ⟨e, _⟩
    · rw [hp] at e; cases e
    · exact e
  refine ⟨a.rise.ins, by rw [K, insL_len a.rise, hn, a.len]; rfl, fun z => ?_⟩
  rw [M, mem_insL a.rise, a.mem]
  constructor
  · rintro (rfl | hz)
    · exact .inl rfl
    · exact .inr ⟨hz, fun e => hasL_no.1 hn z.2 (by rw [← e]; exact hz)⟩
  · rintro (rfl | ⟨hz, _⟩)
    · exact .inl rfl
    · exact .inr hz
theorem Abs.less (a : Abs S L) (h : Inv m S) {p : Nat} (hp : S[p]? = some (Sl.full k v)) : Abs (S.set p .dead) (delL k L) := by
  obtain ⟨_, K, _, M⟩ := h.less hp
  have hk : hasL k L = true := hasL_iff.2 ⟨v, a.at_ hp⟩
  have := delL_len a.rise hk
  exact ⟨a.rise.del, by have := a.len; omega, fun z => by rw [M, mem_delL, a.mem]⟩
theorem Abs.ren (a : Abs S L) {n : Nat} {S2 : List Sl} (r : Ren m n S S.length S2) : Abs S2 L := ⟨a.rise, r.all.1.trans a.len, fun z => (r.all.2 z).trans (a.mem z)⟩
end
/-- What Put makes of the slots and the dead ones. -/
def PutR (k : List UInt8) (L : List KV) (cp dd cp' dd' : Nat) : Prop :=
  if hasL k L then cp' = cp ∧ dd' = dd else if 3 * cp < 4 * (L.length + dd + 1) then NewCap L.length cp' ∧ dd' = 0 else cp' = cp ∧ dd' = dd
/-- What Delete makes of them. -/
def DelR (k : List UInt8) (L : List KV) (cp dd cp' dd' : Nat) : Prop :=
  if hasL k L then (if 8 < cp ∧ 8 * (delL k L).length < cp then NewCap (delL k L).length cp' ∧ dd' = 0 else cp' = cp ∧ dd' = dd + 1) else cp' = cp ∧ dd' = dd
def Gd (L : List KV) (cp : Nat) : Prop := cp ≤ 8 ∨ cp ≤ 8 * L.length
theorem PutR.gd {k : List UInt8} {v : List Int} {L : List KV} {cp dd cp' dd' : Nat} (h : PutR k L cp dd cp' dd') (hr : Rise L) (g : Gd L cp) : Gd (insL k v L) cp' := by
  unfold PutR at h
  unfold Gd at *
  rw [insL_len hr]
  split at h
  · rename_i hk
    rw [hk, if_pos rfl, h.1]; exact g
  · rename_i hk
    have hk : hasL k L = false := by simpa using hk
    rw [hk]
    simp only [Bool.false_eq_true, if_false]
    split at h
    · have := h.1.bd; omega
    · omega
theorem DelR.gd {k : List UInt8} {L : List KV} {cp dd cp' dd' : Nat} (h : DelR k L cp dd cp' dd') (hr : Rise L) (g : Gd L cp) : Gd (delL k L) cp' := by
  unfold DelR at h
  unfold Gd at *
  split at h
  · split at h
    · have := h.1.bd; omega
    · omega
  · rename_i hk
    rw [delL_none (by simpa using hk)]
    omega
end Go.Proofs.Ytgbkpbmilaafgaa

/- Books as functions on rows and bytes. It proves no statement. -/



namespace Go.Proofs.Ytgbkpbmilaafgaa
set_option linter.unusedVariables false
set_option linter.unusedSimpArgs false

/-- A row: its key's bytes, its numbers. -/
abbrev Rw := List UInt8 × List Int
abbrev rw0 : Rw := ([], [])
def okN (z : Int) : Bool := decide (0 ≤ z ∧ z ≤ 4294967295)
def numsB (l : List Int) : List UInt8 := l.flatMap fun z => leBytes z.toNat 4
def rowB (r : Rw) : List UInt8 := r.1 ++ numsB r.2
/-- A kind of books. -/
structure Kd where
  nm : List UInt8
  kl : Nat
  m : Nat
  lt : Rw → Rw → Bool
def Kd.wide (k : Kd) : Nat := k.kl + 4 * k.m
def Kd.Ok (k : Kd) (r : Rw) : Prop := r.1.length = k.kl ∧ r.2.length = k.m
def rowsB (L : List Rw) : List UInt8 := L.flatMap rowB
def Kd.head (k : Kd) (n : Nat) : List UInt8 := k.nm ++ leBytes n 4
def Kd.body (k : Kd) (L : List Rw) : List UInt8 := k.head L.length ++ rowsB L
def sumB (b : List UInt8) : List UInt8 := b ++ leBytes (xxSum b 0) 8
/-- The first i rows rise. -/
def Kd.up (k : Kd) (L : List Rw) : Nat → Bool
  | 0 => true
  | i + 1 => k.up L i && (decide (i = 0) || k.lt (L.getD (i - 1) rw0) (L.getD i rw0))
def okR (r : Rw) : Bool := r.2.all okN
/-- What is written. -/
def Kd.wr (k : Kd) (L : List Rw) : List UInt8 × Int :=
  if L.all okR = false then ([], 2) else if k.up L L.length = false then ([], 18) else (sumB (k.body L), 0)
def numsAt : Nat → List UInt8 → List Int
  | 0, _ => []
  | m + 1, b => (leNum (b.take 4) : Int) :: numsAt m (b.drop 4)
def Kd.rowAt (k : Kd) (b : List UInt8) : Rw := (b.take k.kl, numsAt k.m (b.drop k.kl))
def Kd.rows (k : Kd) (b : List UInt8) (n : Nat) : List Rw := (List.range n).map fun i => k.rowAt (b.drop (12 + k.wide * i))
def cntB (b : List UInt8) : Nat := leNum ((b.drop 8).take 4)
/-- How many rows, or why none. -/
def Kd.rd1 (k : Kd) (b : List UInt8) : Nat × Int :=
  if b.length < 12 then (0, 3) else
  if b.take 8 ≠ k.nm ∨ 65536 < cntB b then (0, 4) else
  if b.length < 20 + k.wide * cntB b then (0, 3) else
  if 20 + k.wide * cntB b < b.length then (0, 6) else (cntB b, 0)
def Kd.rdN (k : Kd) (b : List UInt8) : Nat × Int :=
  if (k.rd1 b).2 ≠ 0 then k.rd1 b else
  if leNum (b.drop (12 + k.wide * (k.rd1 b).1)) ≠ xxSum (b.take (12 + k.wide * (k.rd1 b).1)) 0 then (0, 13) else k.rd1 b
/-- What is read. -/
def Kd.rd (k : Kd) (b : List UInt8) : List Rw × Int :=
  if (k.rdN b).2 ≠ 0 then ([], (k.rdN b).2) else
  if k.up (k.rows b (k.rdN b).1) (k.rdN b).1 = false then ([], 18) else (k.rows b (k.rdN b).1, 0)

section
variable {k : Kd}
theorem okN_iff {z : Int} : okN z = true ↔ 0 ≤ z ∧ z ≤ 4294967295 := by simp [okN]
theorem numsB_length (l : List Int) : (numsB l).length = 4 * l.length := by
  induction l with
  | nil => rfl
  | cons z l ih => simp only [numsB, List.flatMap_cons, List.length_append, leBytes_length, List.length_cons] at *; omega
theorem numsB_snoc (l : List Int) (z : Int) : numsB (l ++ [z]) = numsB l ++ leBytes z.toNat 4 := by simp [numsB]
theorem rowB_length {r : Rw} (h : k.Ok r) : (rowB r).length = k.wide := by
  simp only [rowB, List.length_append, numsB_length, Kd.wide]
  rw [h.1, h.2]
theorem rowsB_length {L : List Rw} (h : ∀ r ∈ L, k.Ok r) : (rowsB L).length = k.wide * L.length := by
  induction L with
  | nil => rfl
  | cons r L ih =>
    have := ih (fun x hx => h x (by simp [hx]))
    simp only [rowsB, List.flatMap_cons, List.length_append, List.length_cons] at *
    rw [this, rowB_length (h r (by simp)), Nat.mul_add, Nat.mul_one, Nat.add_comm]
theorem rowsB_snoc (L : List Rw) (r : Rw) : rowsB (L ++ [r]) = rowsB L ++ rowB r := by simp [rowsB]
theorem numsAt_length : ∀ (m : Nat) (b : List UInt8), (numsAt m b).length = m
  | 0, _ => rfl
  | m + 1, b => by simp [numsAt, numsAt_length m]
theorem rowAt_ok {b : List UInt8} (h : k.kl ≤ b.length) : k.Ok (k.rowAt b) := ⟨by simp [Kd.rowAt, h], numsAt_length _ _⟩
theorem rows_len (b : List UInt8) (n : Nat) : (k.rows b n).length = n := by simp [Kd.rows]
theorem rows_succ (b : List UInt8) (n : Nat) : k.rows b (n + 1) = k.rows b n ++ [k.rowAt (b.drop (12 + k.wide * n))] := by simp [Kd.rows, List.range_succ]
theorem rows_get {b : List UInt8} {n i : Nat} (h : i < n) : (k.rows b n)[i]? = some (k.rowAt (b.drop (12 + k.wide * i))) := by simp [Kd.rows, h]
theorem up_take (L : List Rw) (n : Nat) : ∀ i, i ≤ n → k.up (L.take n) i = k.up L i
  | 0, _ => rfl
  | i + 1, h => by
    have e1 : (L.take n).getD (i - 1) rw0 = L.getD (i - 1) rw0 := by simp only [List.getD, List.getElem?_take, show i - 1 < n by omega, if_true]
    have e2 : (L.take n).getD i rw0 = L.getD i rw0 := by simp only [List.getD, List.getElem?_take, show i < n by omega, if_true]
    simp only [Kd.up, up_take L n i (by omega), e1, e2]
theorem up_no (L : List Rw) {i : Nat} (h : k.up L i = false) : ∀ n, i ≤ n → k.up L n = false := by
  intro n hn
  induction n with
  | zero => obtain rfl : i = 0 := by omega
            exact h
  | succ n ih =>
    by_cases e : i = n + 1
    · rw [← e]; exact h
    · simp [Kd.up, ih (by omega)]
/-- Numbers of four bytes, there and back. -/
theorem num_back {z : Int} (h : okN z = true) : ((leNum (leBytes z.toNat 4) : Nat) : Int) = z := by
  have := okN_iff.1 h
  rw [leNum_leB, Nat.mod_eq_of_lt (by omega)]; omega
theorem numsAt_back : ∀ (l : List Int) (t : List UInt8), l.all okN = true → numsAt l.length (numsB l ++ t) = l
  | [], _, _ => rfl
  | z :: l, t, h => by
    simp only [List.all_cons, Bool.and_eq_true] at h
    have e : numsB (z :: l) ++ t = leBytes z.toNat 4 ++ (numsB l ++ t) := by simp [numsB]
    have hl : (leBytes z.toNat 4).length = 4 := leBytes_length _ _
    rw [e]
    simp only [List.length_cons, numsAt]
    rw [List.take_append_of_le_length (by omega), List.take_of_length_le (by omega), num_back h.1, List.drop_append_of_le_length (by omega), List.drop_of_length_le (by omega), List.nil_append, numsAt_back l t h.2]
theorem row_back {r : Rw} (h : k.Ok r) (ho : okR r = true) (t : List UInt8) : k.rowAt (rowB r ++ t) = r := by
  obtain ⟨K, l⟩ := r
  obtain ⟨h1, h2⟩ := h
  simp only at h1 h2
  have e : rowB (K, l) ++ t = K ++ (numsB l ++ t) := by simp [rowB]
  unfold Kd.rowAt
  rw [e, List.take_append_of_le_length (by omega), List.take_of_length_le (by omega), List.drop_append_of_le_length (by omega), List.drop_of_length_le (by omega), List.nil_append, ← h2, numsAt_back l t ho]
theorem numsB_at : ∀ (m : Nat) (b : List UInt8), 4 * m ≤ b.length → numsB (numsAt m b) = b.take (4 * m)
  | 0, b, _ => rfl
  | m + 1, b, h => by
    have ih := numsB_at m (b.drop 4) (by rw [List.length_drop]; omega)
    have e : numsB (numsAt (m + 1) b) = leBytes (leNum (b.take 4)) 4 ++ numsB (numsAt m (b.drop 4)) := by simp [numsB, numsAt]
    have h4 : (b.take 4).length = 4 := by rw [List.length_take]; omega
    have e2 : leBytes (leNum (b.take 4)) 4 = b.take 4 := by
      have := leB_leNum (b.take 4)
      rwa [h4] at this
    rw [e, e2, ih, show 4 * (m + 1) = 4 + 4 * m by omega, List.take_add]
theorem rowB_at {b : List UInt8} (h : k.wide ≤ b.length) : rowB (k.rowAt b) = b.take k.wide := by
  unfold rowB Kd.rowAt Kd.wide at *
  simp only
  rw [numsB_at _ _ (by rw [List.length_drop]; omega), List.take_add]
theorem numsAt_ok : ∀ (m : Nat) (b : List UInt8), (numsAt m b).all okN = true
  | 0, _ => rfl
  | m + 1, b => by
    have h := leNum_lt (b.take 4)
    have h4 : (b.take 4).length ≤ 4 := by rw [List.length_take]; omega
    have : 2 ^ (8 * (b.take 4).length) ≤ 2 ^ 32 := Nat.pow_le_pow_right (by omega) (by omega)
    simp only [numsAt, List.all_cons, numsAt_ok m, Bool.and_true]
    rw [okN_iff]
    omega
theorem rowsB_rows {b : List UInt8} : ∀ n, 12 + k.wide * n ≤ b.length → rowsB (k.rows b n) = (b.drop 12).take (k.wide * n)
  | 0, _ => by simp [Kd.rows, rowsB]
  | n + 1, h => by
    rw [Nat.mul_add, Nat.mul_one] at h
    rw [rows_succ, rowsB_snoc, rowsB_rows n (by omega), rowB_at (by rw [List.length_drop]; omega), Nat.mul_add, Nat.mul_one, List.take_add, List.drop_drop]
theorem rows_back (hnm : k.nm.length = 8) : ∀ (L : List Rw) (t : List UInt8), (∀ r ∈ L, k.Ok r) → L.all okR = true → ∀ n, n ≤ L.length → ∀ c, k.rows (k.head c ++ (rowsB L ++ t)) n = L.take n := by
  intro L t hL ho n hn c
  have hh : (k.head c).length = 12 := by simp [Kd.head, leBytes_length, hnm]
  apply List.ext_getElem?
  intro i
  by_cases hi : i < n
  · rw [rows_get hi, List.getElem?_take, if_pos hi, List.getElem?_eq_getElem (show i < L.length by omega)]
    congr 1
    have e1 : rowsB L = rowsB (L.take i) ++ (rowB (L[i]'(by omega)) ++ rowsB (L.drop (i + 1))) := by
      have e0 : L = L.take i ++ (L[i]'(by omega) :: L.drop (i + 1)) := by rw [← List.drop_eq_getElem_cons (by omega), List.take_append_drop]
      have e3 : ∀ (A B : List Rw) (x : Rw), rowsB (A ++ x :: B) = rowsB A ++ (rowB x ++ rowsB B) := by intro A B x; simp [rowsB]
      exact (congrArg rowsB e0).trans (e3 _ _ _)
    have hl : (rowsB (L.take i)).length = k.wide * i := by
      rw [rowsB_length (fun r hr => hL r (List.mem_of_mem_take hr)), List.length_take, Nat.min_eq_left (by omega)]
    rw [← List.drop_drop, List.drop_append_of_le_length (l₁ := k.head c) (by omega), List.drop_of_length_le (l := k.head c) (by omega), List.nil_append, e1, List.append_assoc, List.drop_append_of_le_length (by omega), List.drop_of_length_le (l := rowsB (L.take i)) (by omega), List.nil_append, List.append_assoc]
    have hm : L[i]'(by omega) ∈ L := List.getElem_mem _
    exact row_back (hL _ hm) (List.all_eq_true.1 ho _ hm) _
  · have h1 : (k.rows (k.head c ++ (rowsB L ++ t)) n).length ≤ i := by rw [rows_len]; omega
    have h2 : (L.take n).length ≤ i := by rw [List.length_take]; omega
    rw [List.getElem?_eq_none h1, List.getElem?_eq_none h2]
theorem xFin_lt (h : Nat) : xFin h < m64 := by
  unfold xFin
  refine Nat.xor_lt_two_pow (n := 64) (Nat.mod_lt _ (by decide)) ?_
  exact Nat.lt_of_le_of_lt (Nat.div_le_self _ _) (Nat.mod_lt _ (by decide))
theorem xxSum_lt (l : List UInt8) (s : Nat) : xxSum l s < m64 := xFin_lt _
theorem sumB_length (b : List UInt8) : (sumB b).length = b.length + 8 := by simp [sumB, leBytes_length]
theorem head_length (hnm : k.nm.length = 8) (n : Nat) : (k.head n).length = 12 := by simp [Kd.head, leBytes_length, hnm]
theorem body_length (hnm : k.nm.length = 8) {L : List Rw} (hL : ∀ r ∈ L, k.Ok r) : (k.body L).length = 12 + k.wide * L.length := by
  rw [Kd.body, List.length_append, head_length hnm, rowsB_length hL]
theorem head_nm (hnm : k.nm.length = 8) (n : Nat) (t : List UInt8) : (k.head n ++ t).take 8 = k.nm := by
  rw [Kd.head, List.append_assoc, List.take_append_of_le_length (by omega), List.take_of_length_le (by omega)]
theorem head_cnt (hnm : k.nm.length = 8) (n : Nat) (hn : n < 4294967296) (t : List UInt8) : cntB (k.head n ++ t) = n := by
  have h4 : (leBytes n 4).length = 4 := leBytes_length _ _
  rw [cntB, Kd.head, List.append_assoc, List.drop_append_of_le_length (by omega), List.drop_of_length_le (by omega), List.nil_append, List.take_append_of_le_length (by omega), List.take_of_length_le (by omega), leNum_leB]
  omega
theorem sum_form (L : List Rw) (x : List UInt8) : sumB (k.body L) ++ x = k.head L.length ++ (rowsB L ++ (leBytes (xxSum (k.body L) 0) 8 ++ x)) := by simp [sumB, Kd.body]
theorem sum_form0 (L : List Rw) : sumB (k.body L) = k.head L.length ++ (rowsB L ++ leBytes (xxSum (k.body L) 0) 8) := by simp [sumB, Kd.body]
theorem rd_other (hnm : k.nm.length = 8) {L : List Rw} (hL : ∀ r ∈ L, k.Ok r) {k' : Kd} (hne : k.nm ≠ k'.nm) : k'.rd (sumB (k.body L)) = ([], 4) := by
  have hl : (sumB (k.body L)).length = 20 + k.wide * L.length := by rw [sumB_length, body_length hnm hL]; omega
  have hm : (sumB (k.body L)).take 8 = k.nm := by rw [sum_form0]; exact head_nm hnm _ _
  have e1 : k'.rd1 (sumB (k.body L)) = (0, 4) := by
    unfold Kd.rd1
    rw [hm, if_neg (by omega), if_pos (.inl hne)]
  unfold Kd.rd Kd.rdN
  simp [e1]
section
variable (hnm : k.nm.length = 8) {L : List Rw} (hL : ∀ r ∈ L, k.Ok r) (hn : L.length ≤ 65536)
include hnm hL hn
theorem rd1_book : k.rd1 (sumB (k.body L)) = (L.length, 0) := by
  have hl : (sumB (k.body L)).length = 20 + k.wide * L.length := by rw [sumB_length, body_length hnm hL]; omega
  have hc : cntB (sumB (k.body L)) = L.length := by rw [sum_form0]; exact head_cnt hnm _ (by omega) _
  have hm : (sumB (k.body L)).take 8 = k.nm := by rw [sum_form0]; exact head_nm hnm _ _
  unfold Kd.rd1
  rw [hc, hm, hl, if_neg (by omega), if_neg (by simp; omega), if_neg (by omega), if_neg (by omega)]
theorem rdN_book : k.rdN (sumB (k.body L)) = (L.length, 0) := by
  unfold Kd.rdN
  rw [rd1_book hnm hL hn]
  have hb := body_length hnm hL
  have e1 : (sumB (k.body L)).drop (12 + k.wide * L.length) = leBytes (xxSum (k.body L) 0) 8 := by
    rw [sumB, List.drop_append_of_le_length (by omega), List.drop_of_length_le (by omega), List.nil_append]
  have e2 : (sumB (k.body L)).take (12 + k.wide * L.length) = k.body L := by
    rw [sumB, List.take_append_of_le_length (by omega), List.take_of_length_le (by omega)]
  rw [if_neg (by simp)]
  simp only [e1, e2]
  rw [leNum_leB, show 2 ^ (8 * 8) = m64 from rfl, Nat.mod_eq_of_lt (xxSum_lt _ _), if_neg (by simp)]
theorem rd_book (ho : L.all okR = true) (hu : k.up L L.length = true) : k.rd (sumB (k.body L)) = (L, 0) := by
  have e : k.rows (sumB (k.body L)) L.length = L := by
    rw [sum_form0, rows_back hnm L _ hL ho _ (Nat.le_refl _), List.take_length]
  unfold Kd.rd
  rw [rdN_book hnm hL hn, if_neg (by simp)]
  simp only [e]
  rw [if_neg (by rw [hu]; simp)]
theorem rd_cut {n : Nat} (h : n < (sumB (k.body L)).length) : k.rd ((sumB (k.body L)).take n) = ([], 3) := by
  have hl : (sumB (k.body L)).length = 20 + k.wide * L.length := by rw [sumB_length, body_length hnm hL]; omega
  have e1 : k.rd1 ((sumB (k.body L)).take n) = (0, 3) := by
    unfold Kd.rd1
    have hl2 : ((sumB (k.body L)).take n).length = n := by rw [List.length_take]; omega
    by_cases h12 : n < 12
    · rw [if_pos (by omega)]
    · have hm : ((sumB (k.body L)).take n).take 8 = k.nm := by rw [List.take_take, Nat.min_eq_left (by omega), sum_form0]; exact head_nm hnm _ _
      have hc : cntB ((sumB (k.body L)).take n) = L.length := by
        have : cntB ((sumB (k.body L)).take n) = cntB (sumB (k.body L)) := by
          unfold cntB
          rw [List.drop_take, List.take_take, Nat.min_eq_left (by omega)]
        rw [this, sum_form0]; exact head_cnt hnm _ (by omega) _
      rw [hm, hc, hl2, if_neg (by omega), if_neg (by simp; omega), if_pos (by omega)]
  unfold Kd.rd Kd.rdN
  simp [e1]
theorem rd_more (x : UInt8) : k.rd (sumB (k.body L) ++ [x]) = ([], 6) := by
  have hl : (sumB (k.body L) ++ [x]).length = 21 + k.wide * L.length := by rw [List.length_append, sumB_length, body_length hnm hL, List.length_singleton]; omega
  have hc : cntB (sumB (k.body L) ++ [x]) = L.length := by rw [sum_form]; exact head_cnt hnm _ (by omega) _
  have hm : (sumB (k.body L) ++ [x]).take 8 = k.nm := by rw [sum_form]; exact head_nm hnm _ _
  have e1 : k.rd1 (sumB (k.body L) ++ [x]) = (0, 6) := by
    unfold Kd.rd1
    rw [hc, hm, hl, if_neg (by omega), if_neg (by simp; omega), if_neg (by omega), if_pos (by omega)]
  unfold Kd.rd Kd.rdN
  simp [e1]
end
/-- What a book that is read is made of. -/
theorem rd1_inv {b : List UInt8} (h : (k.rd1 b).2 = 0) : 12 ≤ b.length ∧ b.take 8 = k.nm ∧ cntB b ≤ 65536 ∧ b.length = 20 + k.wide * cntB b ∧ k.rd1 b = (cntB b, 0) := by
  unfold Kd.rd1 at h ⊢
  split at h
  · simp at h
  · split at h
    · simp at h
    · split at h
      · simp at h
      · split at h
        · simp at h
        · rename_i h1 h2 h3 h4
          rw [not_or] at h2
          exact ⟨by omega, Classical.not_not.1 h2.1, by omega, by omega, by rw [if_neg h1, if_neg (by simp [h2.1, h2.2]), if_neg h3, if_neg h4]⟩
theorem rd_inv {b : List UInt8} (h : (k.rd b).2 = 0) : (k.rd1 b).2 = 0 ∧ leNum (b.drop (12 + k.wide * cntB b)) = xxSum (b.take (12 + k.wide * cntB b)) 0 ∧ k.up (k.rows b (cntB b)) (cntB b) = true ∧ k.rd b = (k.rows b (cntB b), 0) := by
  by_cases h1 : (k.rd1 b).2 = 0
  · obtain ⟨_, _, _, _, e⟩ := rd1_inv h1
    have hN : k.rdN b = if leNum (b.drop (12 + k.wide * cntB b)) ≠ xxSum (b.take (12 + k.wide * cntB b)) 0 then (0, 13) else (cntB b, 0) := by
      unfold Kd.rdN
      rw [e, if_neg (by simp)]
    by_cases h2 : leNum (b.drop (12 + k.wide * cntB b)) = xxSum (b.take (12 + k.wide * cntB b)) 0
    · rw [if_neg (by simpa using h2)] at hN
      unfold Kd.rd at h ⊢
      rw [hN] at h ⊢
      simp only [ne_eq, not_true_eq_false, if_false] at h ⊢
      cases hu : k.up (k.rows b (cntB b)) (cntB b) with
      | false => rw [hu] at h; simp at h
      | true => exact ⟨h1, h2, rfl, by simp⟩
    · rw [if_pos h2] at hN
      unfold Kd.rd at h
      rw [hN] at h
      simp at h
  · unfold Kd.rd Kd.rdN at h
    rw [if_pos h1, if_pos h1] at h
    exact absurd h h1
theorem rows_all {b : List UInt8} {n : Nat} (h : 12 + k.wide * n ≤ b.length) : (∀ r ∈ k.rows b n, k.Ok r) ∧ (k.rows b n).all okR = true := by
  have each : ∀ r ∈ k.rows b n, k.Ok r ∧ okR r = true := by
    intro r hr
    obtain ⟨i, hi, rfl⟩ := List.mem_map.1 hr
    have hi : i < n := by simpa using hi
    have : k.wide * (i + 1) ≤ k.wide * n := Nat.mul_le_mul_left _ hi
    rw [Nat.mul_add, Nat.mul_one] at this
    exact ⟨rowAt_ok (by rw [List.length_drop]; unfold Kd.wide at *; omega), numsAt_ok _ _⟩
  exact ⟨fun r hr => (each r hr).1, List.all_eq_true.2 fun r hr => (each r hr).2⟩
theorem wr_rd (hnm : k.nm.length = 8) {b : List UInt8} (h : (k.rd b).2 = 0) : k.wr (k.rd b).1 = (b, 0) := by
  obtain ⟨h1, h2, h3, h4⟩ := rd_inv h
  obtain ⟨h5, h6, h7, h8, _⟩ := rd1_inv h1
  obtain ⟨_, ha⟩ := rows_all (k := k) (b := b) (n := cntB b) (by omega)
  have hbody : k.body (k.rows b (cntB b)) = b.take (12 + k.wide * cntB b) := by
    unfold Kd.body Kd.head
    rw [rows_len, rowsB_rows _ (by omega), ← h6]
    have e4 : leBytes (cntB b) 4 = (b.drop 8).take 4 := by
      have := leB_leNum ((b.drop 8).take 4)
      rwa [show ((b.drop 8).take 4).length = 4 by rw [List.length_take, List.length_drop]; omega] at this
    rw [e4, ← List.take_add, List.take_add (l := b) (i := 12)]
  have hsum : leBytes (xxSum (b.take (12 + k.wide * cntB b)) 0) 8 = b.drop (12 + k.wide * cntB b) := by
    rw [← h2]
    have := leB_leNum (b.drop (12 + k.wide * cntB b))
    rwa [show (b.drop (12 + k.wide * cntB b)).length = 8 by rw [List.length_drop]; omega] at this
  rw [h4]
  unfold Kd.wr
  rw [rows_len, ha, h3]
  simp only [Bool.true_eq_false, if_false]
  rw [sumB, hbody, hsum, List.take_append_drop]
theorem rd_uniq {k' : Kd} {b : List UInt8} (h : (k.rd b).2 = 0) (h' : (k'.rd b).2 = 0) : k.nm = k'.nm :=
  (rd1_inv (rd_inv h).1).2.1.symm.trans (rd1_inv (rd_inv h').1).2.1
theorem wr_cases (L : List Rw) : (k.wr L).2 = 2 ∧ (k.wr L).1 = [] ∨ (k.wr L).2 = 18 ∧ (k.wr L).1 = [] ∨ k.wr L = (sumB (k.body L), 0) ∧ L.all okR = true ∧ k.up L L.length = true := by
  unfold Kd.wr
  cases h1 : L.all okR with
  | false => left; simp
  | true =>
    cases h2 : k.up L L.length with
    | false => right; left; simp
    | true => right; right; simp
end
/-- The three kinds. -/
def kI : Kd := ⟨[72, 79, 65, 82, 68, 73, 68, 88], 32, 3, fun a b => ltK a.1 b.1⟩
def kC : Kd := ⟨[72, 79, 65, 82, 68, 82, 69, 70], 32, 2, fun a b => ltK a.1 b.1⟩
def kU : Kd := ⟨[72, 79, 65, 82, 68, 85, 83, 69], 0, 3, fun a b => decide (a.2.getD 0 0 < b.2.getD 0 0)⟩
end Go.Proofs.Ytgbkpbmilaafgaa

/- 'var a [n]T': a new block of noughts. It proves no statement. -/




namespace Go.Proofs.Ytgbkpbmilaafgaa
open Go.RowKit
set_option linter.unusedVariables false
set_option linter.unusedSimpArgs false

theorem run_alloc_arr {P : Program} (ρ : Operand → Value) (o : Oper) (t : TypeId) (ho : o.op = .alloc t) (cs : Array Value) (n : Nat) (h : (P.info? t).map (fun i => (i.zero, i.size)) = some (some (.agg cs), n)) (w : World) :
    (execOp ρ o).run P w = .ok (.value (.pointer (some ⟨w.heap.size, 0, none⟩))) (w.alloc (.cells cs t)) := by
  have hz := (zero_of_info h).1
  unfold execOp
  simp [ho, Instr.alloc, hz, Value.cells, newVar, newRow, Sem.run_bind]
theorem wpList_alloc_arr {P : Program} {ops : Array Oper} {rest : List Oper} {o : Oper} {a : Act} {w : World} {Q : Exit → Act → World → Prop} (hg : o.guard = none) (t : TypeId) (ho : o.op = .alloc t) (dst : Option Tmp) (hdst : o.dst = dst) (cs : Array Value) (n : Nat)
    (hi : (P.info? t).map (fun i => (i.zero, i.size)) = some (some (.agg cs), n)) (h : wpList P ops Q rest (a.put dst (.pointer (some ⟨w.heap.size, 0, none⟩))) (w.alloc (.cells cs t))) : wpList P ops Q (o :: rest) a w :=
  Go.Great.wpList_runTo hg dst hdst _ _ (run_alloc_arr _ o t ho cs n hi w) h
theorem wpList_box_arr {P : Program} {ops : Array Oper} {rest : List Oper} {o : Oper} {a : Act} {w : World} {Q : Exit → Act → World → Prop} (hg : o.guard = none) (t : TypeId) (x : Operand) (ho : o.op = .box t x) (dst : Option Tmp) (hdst : o.dst = dst) (cs : Array Value)
    (hx : a.eval x = .agg cs) (h : wpList P ops Q rest (a.put dst (.pointer (some ⟨w.heap.size, 0, none⟩))) (w.alloc (.cells cs t))) : wpList P ops Q (o :: rest) a w := by
  refine Go.Great.wpList_runTo hg dst hdst _ _ ?_ h
  unfold execOp
  simp [ho, hx, Instr.box, Value.cells, newVar, newRow, Sem.run_bind]
/-- An element of an array that is a value. -/
theorem run_index_arr {P : Program} (w : World) (t e : TypeId) (n : Nat) (k : IntKind) (ht : P.underlying t = some (.array n e)) (he : P.underlying e = some (.int k)) (hs : (P.info? e).map (·.size) = some 1)
    (cs : List Value) (hn : cs.length = n) (i : Nat) (hi : i < n) (v : Value) (hv : cs[i]? = some v) : (Instr.index t (.agg cs.toArray) (.int .i64 (i : Int))).run P w = .ok v w := by
  cases hq : P.info? e with
  | none => simp [hq] at hs
  | some ie =>
    have hz : ie.size = 1 := by simpa [hq] using hs
    simp [Instr.index, asIntOf, run_underlying ht, Sem.run_bind, sizeOf, typeInfo, hq, hz, part, isAgg, run_underlying he, hv, hi]
end Go.Proofs.Ytgbkpbmilaafgaa
