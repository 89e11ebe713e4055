/- What a medium is, apart from memory: names in their order, files, what waits. It proves no statement. -/
import Derived.Test.YtlkkkifilgnhmaaMdCrashF
import Derived.Sort.KeysCollected
namespace Go.Proofs.Ytlkkkifilgnhmaa
open Go.RowKit Go.Maps Go.WideMaps Go.Sort
set_option linter.unusedVariables false
set_option linter.unusedSimpArgs false

/-- Names, rising, and each one's file. -/
abbrev NT := List (List UInt8 × Nat)
def nmD (N : NT) : DataW Unit := .map (N.map fun p => (Lit.string p.1, fd (p.2 : Int)))
def nIns (x : List UInt8 × Nat) : NT → NT
  | [] => [x]
  | y :: r => if bytesBefore x.1 y.1 then x :: y :: r else y :: nIns x r
def nDel (N : NT) (s : List UInt8) : NT := N.filter fun p => !(p.1 == s)
def nPut (N : NT) (s : List UInt8) (f : Nat) : NT := nIns (s, f) (nDel N s)
def nFind (N : NT) (s : List UInt8) : Option Nat := (N.find? fun p => p.1 == s).map (·.2)
theorem nmD_del (N : NT) (s : List UInt8) : (nmD N).del (.string s) = nmD (nDel N s) := by
  show DataW.map ((N.map fun p => (Lit.string p.1, fd (p.2 : Int))).filter fun p => !p.1.sameKey (.string s)) = DataW.map _
  congr 1
  rw [List.filter_map]
  rfl
theorem insert_map (x : List UInt8 × Nat) (N : NT) : DataW.insert (Lit.string x.1, fd (x.2 : Int)) (N.map fun p => (Lit.string p.1, fd (p.2 : Int))) = (nIns x N).map fun p => (Lit.string p.1, fd (p.2 : Int)) := by
  induction N with
  | nil => rfl
  | cons y r ih =>
    rw [List.map_cons]
    unfold DataW.insert nIns
    have e : Lit.before (Lit.string x.1) (Lit.string y.1) = bytesBefore x.1 y.1 := rfl
    simp only [e]
    split
    · rfl
    · rw [ih]; rfl
theorem nmD_put (N : NT) (s : List UInt8) (f : Nat) : (nmD N).put (.string s) (fd (f : Int)) = nmD (nPut N s f) := by
  show DataW.map (DataW.insert (Lit.string s, fd (f : Int)) ((N.map fun p => (Lit.string p.1, fd (p.2 : Int))).filter fun p => !p.1.sameKey (.string s))) = DataW.map _
  congr 1
  rw [List.filter_map]
  exact insert_map (s, f) (nDel N s)
theorem look_nm (N : NT) (s : ByteArray) : look (nmD N) s = match nFind N s.data.toList with | some f => (f : Int) | none => -1 := by
  unfold look nFind nmD DataW.atKey kl
  simp only [List.find?_map]
  have e : ((fun p : Lit × DataW Unit => p.1.sameKey (Lit.string s.data.toList)) ∘ fun p : List UInt8 × Nat => (Lit.string p.1, fd (p.2 : Int))) = fun p => p.1 == s.data.toList := rfl
  rw [e]
  cases N.find? fun p => p.1 == s.data.toList <;> rfl
theorem size_nm (N : NT) : Maps.size (nmD N) = N.length := by simp [Maps.size, nmD]
theorem keys_nm (N : NT) : strKeys (nmD N) = N.map (·.1) := by
  show (N.map fun p => (Lit.string p.1, fd (p.2 : Int))).map (fun p => strOf p.1) = _
  rw [List.map_map]
  rfl
/-! ### Their order -/
def Rising (N : NT) : Prop := N.Pairwise fun p q => bytesBefore p.1 q.1 = true
theorem before_lt : ∀ a b : List UInt8, bytesBefore a b = true → a < b
  | [], [], h => by simp [bytesBefore] at h
  | [], _ :: _, _ => List.nil_lt_cons _ _
  | _ :: _, [], h => by simp [bytesBefore] at h
  | a :: r, b :: s, h => by
    simp only [bytesBefore, Bool.or_eq_true, Bool.and_eq_true, decide_eq_true_eq, beq_iff_eq] at h
    rw [List.cons_lt_cons_iff]
    rcases h with h | ⟨h1, h2⟩
    · exact .inl h
    · exact .inr ⟨h1, before_lt r s h2⟩
theorem Rising.nil : Rising [] := List.Pairwise.nil
theorem Rising.del {N : NT} (h : Rising N) (s : List UInt8) : Rising (nDel N s) := List.Pairwise.filter _ h
theorem mem_ins {x y : List UInt8 × Nat} {N : NT} : y ∈ nIns x N ↔ y = x ∨ y ∈ N := by
  induction N with
  | nil => simp [nIns]
  | cons z r ih =>
    unfold nIns
    split
    · simp
    · simp only [List.mem_cons, ih]
      constructor
      · rintro (h | h | h)
        · exact .inr (.inl h)
        · exact .inl h
        · exact .inr (.inr h)
      · rintro (h | h | h)
        · exact .inr (.inl h)
        · exact .inl h
        · exact .inr (.inr h)
theorem Rising.ins {N : NT} (h : Rising N) (x : List UInt8 × Nat) (hx : ∀ p ∈ N, p.1 ≠ x.1) : Rising (nIns x N) := by
  induction N with
  | nil => exact List.pairwise_singleton _ _
  | cons y r ih =>
    have h1 := List.pairwise_cons.1 h
    unfold nIns
    split
    · rename_i hb
      refine List.pairwise_cons.2 ⟨fun p hp => ?_, h⟩
      rcases List.mem_cons.1 hp with rfl | hp
      · exact hb
      · exact WideShapes.bytes_trans _ _ _ hb (h1.1 p hp)
    · rename_i hb
      refine List.pairwise_cons.2 ⟨fun p hp => ?_, ih h1.2 (fun p hp => hx p (List.mem_cons_of_mem _ hp))⟩
      rcases mem_ins.1 hp with rfl | hp
      · rcases WideAt.bytes_total p.1 y.1 (fun e => hx y (List.mem_cons_self) e.symm) with h2 | h2
        · exact absurd h2 hb
        · exact h2
      · exact h1.1 p hp
theorem Rising.put {N : NT} (h : Rising N) (s : List UInt8) (f : Nat) : Rising (nPut N s f) :=
  (h.del s).ins (s, f) (fun p hp => by have := (List.mem_filter.1 hp).2; simpa using this)
theorem Rising.sorted {N : NT} (h : Rising N) {ss : List (List UInt8)} (hp : ss.Perm (N.map (·.1))) : ss.mergeSort (fun x y => decide (x ≤ y)) = N.map (·.1) := by
  rw [mergeSort_of_perm hp]
  refine List.mergeSort_of_pairwise ?_
  rw [List.pairwise_map]
  exact h.imp fun {p q} hb => by simpa using List.le_of_lt (before_lt _ _ hb)
theorem Rising.nodup {N : NT} (h : Rising N) : (N.map (·.1)).Nodup := by
  rw [List.Nodup, List.pairwise_map]
  exact h.imp fun {p q} hb e => by rw [e, WideAt.bytes_irrefl] at hb; cases hb
theorem nFind_mem {N : NT} {s : List UInt8} {f : Nat} (h : nFind N s = some f) : (s, f) ∈ N := by
  unfold nFind at h
  cases hc : N.find? fun p => p.1 == s with
  | none => rw [hc] at h; cases h
  | some p =>
    rw [hc] at h
    have h1 := List.find?_some hc
    have h2 := List.mem_of_find?_eq_some hc
    have e1 : p.1 = s := by simpa using h1
    have e2 : p.2 = f := by simpa using h
    rw [← e1, ← e2]
    exact h2
theorem nFind_of_mem {N : NT} (h : Rising N) {s : List UInt8} {f : Nat} (hm : (s, f) ∈ N) : nFind N s = some f := by
  induction N with
  | nil => cases hm
  | cons y r ih =>
    have h1 := List.pairwise_cons.1 h
    unfold nFind
    rcases List.mem_cons.1 hm with e | hm
    · subst e
      simp
    · have hne : (y.1 == s) = false := by
        rw [beq_eq_false_iff_ne]
        intro e
        have := h1.1 _ hm
        rw [e] at this
        simp only [WideAt.bytes_irrefl] at this
        cases this
      rw [List.find?_cons, hne]
      exact ih h1.2 hm
/-- A change of names. -/
def nmStep (N : NT) (x : ByteArray × ByteArray × Int) : NT := if x.2.2 < 0 then nDel N x.1.data.toList else nPut (nDel N x.1.data.toList) x.2.1.data.toList x.2.2.toNat
def nmSteps (N : NT) (X : List (ByteArray × ByteArray × Int)) : NT := X.foldl nmStep N
theorem nmDo_nm (N : NT) (x : ByteArray × ByteArray × Int) : nmDo (nmD N) x.1 x.2.1 x.2.2 = nmD (nmStep N x) := by
  unfold nmDo nmStep kl
  split
  · exact nmD_del N _
  · rename_i h
    rw [nmD_del]
    obtain ⟨m, hm⟩ := Int.eq_ofNat_of_zero_le (show 0 ≤ x.2.2 by omega)
    rw [hm]
    exact nmD_put (nDel N _) _ m
theorem nmAll_nm (N : NT) (X : List (ByteArray × ByteArray × Int)) : nmAll (nmD N) X = nmD (nmSteps N X) := by
  unfold nmAll nmSteps
  induction X generalizing N with
  | nil => rfl
  | cons x r ih => rw [List.foldl_cons, List.foldl_cons, nmDo_nm, ih]
theorem Rising.step {N : NT} (h : Rising N) (x : ByteArray × ByteArray × Int) : Rising (nmStep N x) := by
  unfold nmStep
  split
  · exact h.del _
  · exact (h.del _).put _ _
theorem Rising.steps {N : NT} (h : Rising N) (X : List (ByteArray × ByteArray × Int)) : Rising (nmSteps N X) := by
  unfold nmSteps
  induction X generalizing N with
  | nil => exact h
  | cons x r ih => exact ih (h.step x)
/-- Which files there are among names. -/
theorem step_files {N : NT} {x : ByteArray × ByteArray × Int} {p : List UInt8 × Nat} (hp : p ∈ nmStep N x) : p ∈ N ∨ (0 ≤ x.2.2 ∧ p = (x.2.1.data.toList, x.2.2.toNat)) := by
  unfold nmStep at hp
  split at hp
  · exact .inl (List.mem_filter.1 hp).1
  · rename_i h
    rcases mem_ins.1 hp with e | hp
    · exact .inr ⟨by omega, e⟩
    · exact .inl (List.mem_filter.1 (List.mem_filter.1 hp).1).1
end Go.Proofs.Ytlkkkifilgnhmaa
