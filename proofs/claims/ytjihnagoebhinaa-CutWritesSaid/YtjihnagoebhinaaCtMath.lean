/- The mathematics of cutting: where chunks end, a stream in pieces, streams that meet. It names no program and proves no statement. -/
import Derived.Test.YtjihnagoebhinaaRlMath
namespace Go.Proofs.Ytjihnagoebhinaa
set_option linter.unusedVariables false
set_option linter.unusedSimpArgs false

/-- A shape. -/
structure Shp where
  lt : Nat
  mt : Nat
  k : Nat
  n : Nat
  seed : Nat
structure Shp.Ok (s : Shp) : Prop where
  n1 : 1 ≤ s.n
  n63 : s.n ≤ 63
  nlt : s.n ≤ s.lt
  ltmt : s.lt ≤ s.mt
  mt8 : s.mt ≤ 8192
  k20 : s.k ≤ 20
  seed : s.seed < 4294967296
/-- Whether a chunk of these bytes ends with them. -/
def endS (s : Shp) (l : List UInt8) : Bool := decide (l.length = s.mt) || (decide (s.lt ≤ l.length) && decide (sm s.seed (lastL s.n l) % 2 ^ s.k = 0))
/-- Of a chunk that goes on: how many bytes more it takes, and whether it ends. -/
def nx (s : Shp) : List UInt8 → List UInt8 → Nat × Bool
  | _, [] => (0, false)
  | l, c :: t => if endS s (l ++ [c]) then (1, true) else ((nx s (l ++ [c]) t).1 + 1, (nx s (l ++ [c]) t).2)
/-- The chunks that end, and what is left. -/
def run (s : Shp) : List UInt8 → List UInt8 → List (List UInt8) × List UInt8
  | l, [] => ([], l)
  | l, c :: t => if endS s (l ++ [c]) then ((l ++ [c]) :: (run s [] t).1, (run s [] t).2) else run s (l ++ [c]) t
def chunks (s : Shp) (b : List UInt8) : List (List UInt8) := (run s [] b).1 ++ (if (run s [] b).2 = [] then [] else [(run s [] b).2])

theorem nx_le (s : Shp) (b : List UInt8) : ∀ l, (nx s l b).1 ≤ b.length := by
  induction b with
  | nil => intro l; simp [nx]
  | cons c t ih =>
    intro l
    rw [nx]
    split
    · simp
    · have := ih (l ++ [c])
      simp only [List.length_cons]
      omega
theorem nx_pos (s : Shp) (b : List UInt8) (l : List UInt8) (h : b ≠ []) : 0 < (nx s l b).1 := by
  cases b with
  | nil => exact absurd rfl h
  | cons c t =>
    rw [nx]
    split
    · exact Nat.one_pos
    · exact Nat.succ_pos _
theorem nx_yes (s : Shp) (b : List UInt8) : ∀ l, (nx s l b).2 = true → run s l b = ((l ++ b.take (nx s l b).1) :: (run s [] (b.drop (nx s l b).1)).1, (run s [] (b.drop (nx s l b).1)).2) ∧ endS s (l ++ b.take (nx s l b).1) = true := by
  induction b with
  | nil => intro l h; simp [nx] at h
  | cons c t ih =>
    intro l h
    rw [nx] at h ⊢
    rw [run]
    by_cases e : endS s (l ++ [c]) = true
    · rw [if_pos e, if_pos e]
      exact ⟨rfl, by simpa using e⟩
    · rw [if_neg e] at h
      rw [if_neg e, if_neg e]
      obtain ⟨h1, h2⟩ := ih _ h
      rw [h1]
      simp only [List.take_succ_cons, List.drop_succ_cons]
      rw [List.append_assoc, List.singleton_append] at h2
      rw [List.append_assoc, List.singleton_append]
      exact ⟨rfl, h2⟩
theorem nx_no (s : Shp) (b : List UInt8) : ∀ l, (nx s l b).2 = false → (nx s l b).1 = b.length ∧ run s l b = ([], l ++ b) ∧ (b ≠ [] → endS s (l ++ b) = false) := by
  induction b with
  | nil => intro l h; simp [nx, run]
  | cons c t ih =>
    intro l h
    rw [nx] at h ⊢
    rw [run]
    by_cases e : endS s (l ++ [c]) = true
    · rw [if_pos e] at h
      cases h
    · rw [if_neg e] at h
      rw [if_neg e, if_neg e]
      obtain ⟨h1, h2, h3⟩ := ih _ h
      rw [h1, h2]
      refine ⟨by simp, by simp, fun _ => ?_⟩
      by_cases ht : t = []
      · subst ht
        simpa using e
      · have := h3 ht
        rwa [List.append_assoc, List.singleton_append] at this
/-- Behind k bytes that don't end it. -/
def At (s : Shp) (l b : List UInt8) (k : Nat) : Prop := nx s l b = ((nx s (l ++ b.take k) (b.drop k)).1 + k, (nx s (l ++ b.take k) (b.drop k)).2)
theorem at_zero (s : Shp) (l b : List UInt8) : At s l b 0 := by unfold At; simp
theorem at_step {s : Shp} {l b : List UInt8} {k : Nat} (h : At s l b k) (hk : k < b.length) :
    (endS s (l ++ b.take (k + 1)) = true → nx s l b = (k + 1, true)) ∧ (endS s (l ++ b.take (k + 1)) = false → At s l b (k + 1)) := by
  have e1 : b.take (k + 1) = b.take k ++ [b[k]] := by rw [List.take_add_one]; simp [hk]
  have e2 : b.drop k = b[k] :: b.drop (k + 1) := List.drop_eq_getElem_cons hk
  rw [e1, ← List.append_assoc]
  unfold At at h ⊢
  rw [e2, nx] at h
  constructor
  · intro e
    rw [if_pos e] at h
    rw [h, Nat.add_comm]
  · intro e
    rw [if_neg (by rw [e]; decide)] at h
    rw [h, e1, ← List.append_assoc]
    simp only [Prod.mk.injEq, and_true]
    omega
theorem at_over {s : Shp} {l b : List UInt8} (h : At s l b b.length) : nx s l b = (b.length, false) := by
  unfold At at h
  rw [List.drop_length, nx] at h
  rw [h, Nat.zero_add]

theorem chunks_nil (s : Shp) : chunks s [] = [] := rfl
theorem chunks_cons (s : Shp) (b : List UInt8) (h : b ≠ []) : chunks s b = b.take (nx s [] b).1 :: chunks s (b.drop (nx s [] b).1) := by
  cases e : (nx s [] b).2 with
  | true =>
    obtain ⟨h1, _⟩ := nx_yes s b [] e
    unfold chunks
    rw [h1]
    simp
  | false =>
    obtain ⟨h1, h2, _⟩ := nx_no s b [] e
    rw [h1, List.drop_length, List.take_length, chunks_nil]
    unfold chunks
    rw [h2]
    simp [h]
/-- Whether the last chunk ended by itself. -/
theorem run_rest (s : Shp) (b : List UInt8) (h : b ≠ []) (hd : b.drop (nx s [] b).1 = []) : ((run s [] b).2 = []) ↔ endS s (b.take (nx s [] b).1) = true := by
  cases e : (nx s [] b).2 with
  | true =>
    obtain ⟨h1, h2⟩ := nx_yes s b [] e
    rw [h1, hd]
    simp only [run, List.nil_append] at h2 ⊢
    simp [h2]
  | false =>
    obtain ⟨h1, h2, h3⟩ := nx_no s b [] e
    rw [h2, h1, List.take_length]
    have := h3 h
    simp only [List.nil_append] at this ⊢
    simp [h, this]
theorem run_next (s : Shp) (b : List UInt8) (h : (nx s [] b).2 = true) : (run s [] b).2 = (run s [] (b.drop (nx s [] b).1)).2 := by
  rw [(nx_yes s b [] h).1]
theorem run_over (s : Shp) (b : List UInt8) (h : b ≠ []) (hd : b.drop (nx s [] b).1 ≠ []) : (nx s [] b).2 = true := by
  cases e : (nx s [] b).2 with
  | true => rfl
  | false =>
    obtain ⟨h1, _⟩ := nx_no s b [] e
    rw [h1, List.drop_length] at hd
    exact absurd rfl hd
theorem run_append (s : Shp) (a : List UInt8) : ∀ l b, run s l (a ++ b) = ((run s l a).1 ++ (run s (run s l a).2 b).1, (run s (run s l a).2 b).2) := by
  induction a with
  | nil => intro l b; simp [run]
  | cons c t ih =>
    intro l b
    rw [List.cons_append, run, run]
    by_cases e : endS s (l ++ [c]) = true
    · rw [if_pos e, if_pos e, ih]
      simp
    · rw [if_neg e, if_neg e, ih]
theorem run_join (s : Shp) (b : List UInt8) : ∀ l, (run s l b).1.flatten ++ (run s l b).2 = l ++ b := by
  induction b with
  | nil => intro l; simp [run]
  | cons c t ih =>
    intro l
    rw [run]
    by_cases e : endS s (l ++ [c]) = true
    · rw [if_pos e]
      simp only [List.flatten_cons, List.append_assoc]
      rw [ih]
      simp
    · rw [if_neg e, ih]
      simp
theorem chunks_join (s : Shp) (b : List UInt8) : (chunks s b).flatten = b := by
  have h := run_join s b []
  unfold chunks
  split
  · rename_i e
    rw [e] at h
    simpa using h
  · rw [List.flatten_append]
    simpa using h
theorem endS_len {s : Shp} (hs : s.Ok) {l : List UInt8} (h : endS s l = true) : s.lt ≤ l.length := by
  have := hs.ltmt
  unfold endS at h
  simp only [Bool.or_eq_true, Bool.and_eq_true, decide_eq_true_eq] at h
  omega
theorem run_sizes (s : Shp) (hs : s.Ok) (b : List UInt8) : ∀ l, l.length < s.mt → (∀ x ∈ (run s l b).1, s.lt ≤ x.length ∧ x.length ≤ s.mt ∧ endS s x = true) ∧ (run s l b).2.length < s.mt := by
  have hm := hs.ltmt
  have h1 := hs.nlt
  have h2 := hs.n1
  induction b with
  | nil => intro l hl; exact ⟨fun x hx => by simp [run] at hx, hl⟩
  | cons c t ih =>
    intro l hl
    rw [run]
    by_cases e : endS s (l ++ [c]) = true
    · rw [if_pos e]
      obtain ⟨i1, i2⟩ := ih [] (by simp; omega)
      refine ⟨fun x hx => ?_, i2⟩
      rcases List.mem_cons.1 hx with rfl | hx
      · exact ⟨endS_len hs e, by simp; omega, e⟩
      · exact i1 x hx
    · rw [if_neg e]
      refine ih _ ?_
      have hne : (l ++ [c]).length ≠ s.mt := by
        intro x
        apply e
        unfold endS
        simp [x]
      simp only [List.length_append, List.length_singleton] at hne ⊢
      omega
theorem chunk_size (s : Shp) (hs : s.Ok) (b : List UInt8) (i : Nat) (hi : i < (chunks s b).length) : 1 ≤ ((chunks s b).getD i []).length ∧ ((chunks s b).getD i []).length ≤ s.mt ∧ (i + 1 < (chunks s b).length → s.lt ≤ ((chunks s b).getD i []).length) := by
  have hm := hs.ltmt
  have h1 := hs.nlt
  have h2 := hs.n1
  obtain ⟨h3, h4⟩ := run_sizes s hs b [] (by simp; omega)
  by_cases h5 : i < (run s [] b).1.length
  · have e : (chunks s b).getD i [] = (run s [] b).1[i] := by unfold chunks; simp [List.getD, List.getElem?_append_left h5, h5]
    rw [e]
    have := h3 _ (List.getElem_mem h5)
    omega
  · unfold chunks at hi ⊢
    split at hi
    · simp at hi; omega
    · rename_i e
      rw [if_neg e]
      simp only [List.length_append, List.length_singleton] at hi ⊢
      have e2 : i = (run s [] b).1.length := by omega
      have : ((run s [] b).1 ++ [(run s [] b).2]).getD i [] = (run s [] b).2 := by simp [List.getD, e2]
      rw [this]
      have : (run s [] b).2.length ≠ 0 := fun x => e (List.eq_nil_of_length_eq_zero x)
      omega
/-- From an end of a chunk on. -/
theorem chunks_from (s : Shp) : ∀ (p : Nat) (b : List UInt8), (chunks s b).drop p = chunks s (b.drop ((chunks s b).take p).flatten.length) := by
  intro p
  induction p with
  | zero => intro b; simp
  | succ p ih =>
    intro b
    by_cases h : b = []
    · subst h
      simp [chunks_nil]
    · rw [chunks_cons s b h, List.drop_succ_cons, ih, List.take_succ_cons, List.flatten_cons, List.length_append, List.drop_drop]
      congr 2
      have := nx_le s b []
      rw [List.length_take]
      omega
/-- Without bits, or with Least and Most the same. -/
theorem run_often (s t : Shp) (d : Nat) (hd : 0 < d) (h1 : ∀ l, l.length ≤ d → endS s l = decide (l.length = d)) (h2 : ∀ l, l.length ≤ d → endS t l = decide (l.length = d)) (b : List UInt8) : ∀ l, l.length < d → run s l b = run t l b ∧ ∀ x ∈ (run s l b).1, x.length = d := by
  induction b with
  | nil => intro l hl; exact ⟨rfl, fun x hx => by simp [run] at hx⟩
  | cons c r ih =>
    intro l hl
    have hl2 : (l ++ [c]).length ≤ d := by simp; omega
    rw [run, run, h1 _ hl2, h2 _ hl2]
    by_cases e : (l ++ [c]).length = d
    · obtain ⟨i1, i2⟩ := ih [] (by simpa using hd)
      rw [if_pos (by simpa using e), if_pos (by simpa using e), i1]
      refine ⟨rfl, fun x hx => ?_⟩
      rcases List.mem_cons.1 hx with rfl | hx
      · exact e
      · rw [← i1] at hx
        exact i2 x hx
    · rw [if_neg (by simpa using e), if_neg (by simpa using e)]
      exact ih _ (by omega)
theorem chunks_often (s t : Shp) (d : Nat) (hd : 0 < d) (h1 : ∀ l, l.length ≤ d → endS s l = decide (l.length = d)) (h2 : ∀ l, l.length ≤ d → endS t l = decide (l.length = d)) (b : List UInt8) : chunks s b = chunks t b ∧ ∀ i, i + 1 < (chunks s b).length → ((chunks s b).getD i []).length = d := by
  obtain ⟨e1, e2⟩ := run_often s t d hd h1 h2 b [] (by simpa using hd)
  refine ⟨by unfold chunks; rw [e1], fun i hi => ?_⟩
  have h5 : i < (run s [] b).1.length := by
    unfold chunks at hi
    split at hi
    · simp at hi; omega
    · simp at hi; omega
  have e : (chunks s b).getD i [] = (run s [] b).1[i] := by unfold chunks; simp [List.getD, List.getElem?_append_left h5, h5]
  rw [e]
  exact e2 _ (List.getElem_mem h5)
theorem chunks_pos (s : Shp) (b : List UInt8) : ∀ x ∈ chunks s b, x ≠ [] := by
  induction hn : b.length using Nat.strongRecOn generalizing b with
  | _ n ih =>
    by_cases h : b = []
    · subst h
      intro x hx
      cases hx
    · rw [chunks_cons s b h]
      have h1 := nx_pos s b [] h
      have h2 := nx_le s b []
      intro x hx
      rcases List.mem_cons.1 hx with rfl | hx
      · intro e
        rcases List.take_eq_nil_iff.1 e with h3 | h3
        · omega
        · exact h h3
      · exact ih _ (by rw [List.length_drop]; omega) _ rfl x hx
end Go.Proofs.Ytjihnagoebhinaa
