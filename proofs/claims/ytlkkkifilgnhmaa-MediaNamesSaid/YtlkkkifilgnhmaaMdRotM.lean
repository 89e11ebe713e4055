/- What a spoilt byte does to a file: the mathematics. It proves no statement. -/
import Derived.Test.YtlkkkifilgnhmaaMdState
namespace Go.Proofs.Ytlkkkifilgnhmaa
open Go.RowKit Go.Maps Go.WideMaps Go.Sort
set_option linter.unusedVariables false
set_option linter.unusedSimpArgs false

section
variable {f : UInt8 → UInt8}
theorem modify_left {l m : List UInt8} {i : Nat} (h : i < l.length) : (l ++ m).modify i f = l.modify i f ++ m := by
  apply List.ext_getElem?
  intro j
  rw [List.getElem?_modify]
  by_cases hj : j < l.length
  · rw [List.getElem?_append_left hj, List.getElem?_append_left (by rw [List.length_modify]; exact hj), List.getElem?_modify]
  · rw [List.getElem?_append_right (by omega), List.getElem?_append_right (by rw [List.length_modify]; omega), List.length_modify]
    have : i ≠ j := by omega
    simp [this]
theorem modify_right {l m : List UInt8} {i : Nat} (h : l.length ≤ i) : (l ++ m).modify i f = l ++ m.modify (i - l.length) f := by
  apply List.ext_getElem?
  intro j
  rw [List.getElem?_modify]
  by_cases hj : j < l.length
  · rw [List.getElem?_append_left hj, List.getElem?_append_left hj]
    have : i ≠ j := by omega
    simp [this]
  · rw [List.getElem?_append_right (by omega), List.getElem?_append_right (by omega), List.getElem?_modify]
    by_cases e : i = j
    · simp [e]
    · have : i - l.length ≠ j - l.length := by omega
      simp [e, this]
theorem modify_far {α : Type} {g : α → α} {l : List α} {i : Nat} (h : l.length ≤ i) : l.modify i g = l := by
  apply List.ext_getElem?
  intro j
  rw [List.getElem?_modify]
  by_cases e : i = j
  · rw [List.getElem?_eq_none (by omega)]; rfl
  · simp [e]
/-- The byte's bytes behind it. -/
theorem app_over {b : List UInt8} {c : Ch} {at_ : Nat} (h : at_ < c.fin) (hf : c.fin ≤ b.length) : (b.modify at_ f).take c.fin ++ c.more = (b.take c.fin ++ c.more).modify at_ f := by
  rw [List.take_modify, modify_left (by rw [List.length_take]; omega)]
end
/-- Which change's byte it is: the last one that ends ahead of it; none: what was fast. -/
def Rots (F : Fi) (at_ : Nat) : Option Nat → Prop
  | none => ∀ (j : Nat) (c : Ch), F.wait[j]? = some c → at_ < c.fin
  | some i => (∃ c : Ch, F.wait[i]? = some c ∧ c.fin ≤ at_) ∧ ∀ (j : Nat) (c : Ch), i < j → F.wait[j]? = some c → at_ < c.fin
def Ch.rot (c : Ch) (at_ : Nat) (f : UInt8 → UInt8) : Ch := ⟨c.fin, c.more.modify (at_ - c.fin) f⟩
def Fi.rotAt (F : Fi) (at_ : Nat) (f : UInt8 → UInt8) : Option Nat → Fi
  | none => ⟨F.now.modify at_ f, F.fast.modify at_ f, F.wait⟩
  | some i => ⟨F.now.modify at_ f, F.fast, F.wait.modify i (fun c => c.rot at_ f)⟩
theorem Fi.rot_none {F : Fi} (h : F.ok) {at_ : Nat} (hr : Rots F at_ none) (f : UInt8 → UInt8) (k : Nat) (hk : k ≤ F.wait.length) : appAll (F.fast.modify at_ f) (F.wait.take k) = (appAll F.fast (F.wait.take k)).modify at_ f := by
  induction k with
  | zero => rfl
  | succ k ih =>
    have hc := List.getElem?_eq_getElem (show k < F.wait.length by omega)
    rw [appAll_step _ _ k _ hc, appAll_step _ _ k _ hc, ih (by omega)]
    exact app_over (hr k _ hc) (h.2.2 k _ hc).1
theorem Fi.rot_low {F : Fi} {at_ i : Nat} (f : UInt8 → UInt8) (k : Nat) (hk : k ≤ i) : (F.wait.modify i (fun c => c.rot at_ f)).take k = F.wait.take k := by
  rw [List.take_modify]
  exact modify_far (by rw [List.length_take]; omega)
theorem Fi.rot_some {F : Fi} (h : F.ok) {at_ i : Nat} (hr : Rots F at_ (some i)) (f : UInt8 → UInt8) (k : Nat) (hk : i + 1 + k ≤ F.wait.length) : appAll F.fast ((F.wait.modify i (fun c => c.rot at_ f)).take (i + 1 + k)) = (appAll F.fast (F.wait.take (i + 1 + k))).modify at_ f := by
  induction k with
  | zero =>
    obtain ⟨⟨c, hc, hle⟩, _⟩ := hr
    have hc2 : (F.wait.modify i (fun c => c.rot at_ f))[i]? = some (c.rot at_ f) := by rw [List.getElem?_modify, hc]; simp
    rw [Nat.add_zero, appAll_step _ _ i _ hc2, appAll_step _ _ i _ hc, Fi.rot_low f i (Nat.le_refl _)]
    have hl : ((appAll F.fast (F.wait.take i)).take c.fin).length = c.fin := by rw [List.length_take]; have := (h.2.2 i c hc).1; omega
    rw [modify_right (by omega), hl]
    rfl
  | succ k ih =>
    have hc := List.getElem?_eq_getElem (show i + 1 + k < F.wait.length by omega)
    have hc2 : (F.wait.modify i (fun c => c.rot at_ f))[i + 1 + k]? = some F.wait[i + 1 + k] := by
      rw [List.getElem?_modify, hc]
      have : i ≠ i + 1 + k := by omega
      simp [this]
    rw [← Nat.add_assoc, appAll_step _ _ (i + 1 + k) _ hc2, appAll_step _ _ (i + 1 + k) _ hc, ih (by omega)]
    exact app_over (hr.2 _ _ (by omega) hc) (h.2.2 _ _ hc).1
theorem Fi.rot_in {F : Fi} (h : F.ok) {at_ i : Nat} (hat : at_ < F.now.length) (hr : Rots F at_ (some i)) : ∃ c, F.wait[i]? = some c ∧ c.fin ≤ at_ ∧ at_ - c.fin < c.more.length := by
  obtain ⟨⟨c, hc, hle⟩, hj⟩ := hr
  refine ⟨c, hc, hle, ?_⟩
  have hl : (appAll F.fast (F.wait.take (i + 1))).length ≤ c.fin + c.more.length := by rw [appAll_step _ _ i _ hc, List.length_append, List.length_take]; omega
  have : at_ < (appAll F.fast (F.wait.take (i + 1))).length := by
    by_cases hi : i + 1 < F.wait.length
    · have hd := List.getElem?_eq_getElem hi
      have h1 := hj (i + 1) _ (by omega) hd
      have h2 := (h.2.2 _ _ hd).1
      omega
    · rw [List.take_of_length_le (by omega), ← h.1]
      exact hat
  omega
theorem Fi.rot_fast {F : Fi} (h : F.ok) {at_ : Nat} (hat : at_ < F.now.length) (hr : Rots F at_ none) : at_ < F.fast.length := by
  by_cases hi : 0 < F.wait.length
  · have hd := List.getElem?_eq_getElem hi
    have h1 := hr 0 _ hd
    have h2 := (h.2.2 _ _ hd).1
    rw [List.take_zero, appAll_nil] at h2
    omega
  · have : F.wait = [] := List.eq_nil_of_length_eq_zero (by omega)
    have h1 := h.1
    rw [this, appAll_nil] at h1
    rw [← h1]
    exact hat
theorem Fi.rot_ok {F : Fi} (h : F.ok) {at_ : Nat} (hat : at_ < F.now.length) (f : UInt8 → UInt8) {o : Option Nat} (hr : Rots F at_ o) : (F.rotAt at_ f o).ok := by
  cases o with
  | none =>
    have key := Fi.rot_none h hr f
    refine ⟨?_, ?_, ?_⟩
    · have := key F.wait.length (Nat.le_refl _)
      rw [List.take_length] at this
      show F.now.modify at_ f = appAll (F.fast.modify at_ f) F.wait
      rw [this, ← h.1]
    · show (F.fast.modify at_ f).length ≤ _
      rw [List.length_modify]; exact h.2.1
    · intro j c hc
      have hjl : j < F.wait.length := (List.getElem?_eq_some_iff.1 hc).1
      have := h.2.2 j c hc
      show c.fin ≤ (appAll (F.fast.modify at_ f) (F.wait.take j)).length ∧ (c.more = [] ∨ c.fin = (appAll (F.fast.modify at_ f) (F.wait.take j)).length) ∧ c.fin + c.more.length ≤ 16777216
      rw [key j (by omega), List.length_modify]
      exact this
  | some i =>
    obtain ⟨c, hc, hle, hin⟩ := Fi.rot_in h hat hr
    have hil : i < F.wait.length := (List.getElem?_eq_some_iff.1 hc).1
    have key := Fi.rot_some h hr f
    have hlen : ∀ j, j ≤ F.wait.length → (appAll F.fast ((F.wait.modify i (fun c => c.rot at_ f)).take j)).length = (appAll F.fast (F.wait.take j)).length := by
      intro j hj
      by_cases hji : j ≤ i
      · rw [Fi.rot_low f j hji]
      · obtain ⟨k, rfl⟩ : ∃ k, j = i + 1 + k := ⟨j - (i + 1), by omega⟩
        rw [key k hj, List.length_modify]
    refine ⟨?_, h.2.1, ?_⟩
    · have := key (F.wait.length - (i + 1)) (by omega)
      rw [show i + 1 + (F.wait.length - (i + 1)) = F.wait.length by omega, List.take_length, List.take_of_length_le (by rw [List.length_modify]; omega)] at this
      show F.now.modify at_ f = appAll F.fast (F.wait.modify i (fun c => c.rot at_ f))
      rw [this, ← h.1]
    · intro j d hd
      have hd1 : (F.wait.modify i (fun c => c.rot at_ f))[j]? = some d := hd
      have hjl : j < F.wait.length := by
        have := (List.getElem?_eq_some_iff.1 hd1).1
        rwa [List.length_modify] at this
      show d.fin ≤ (appAll F.fast ((F.wait.modify i (fun c => c.rot at_ f)).take j)).length ∧ (d.more = [] ∨ d.fin = (appAll F.fast ((F.wait.modify i (fun c => c.rot at_ f)).take j)).length) ∧ d.fin + d.more.length ≤ 16777216
      rw [hlen j (by omega)]
      have hd0 := List.getElem?_eq_getElem hjl
      have h3 := h.2.2 j _ hd0
      rw [List.getElem?_modify, hd0] at hd1
      by_cases e : i = j
      · have e2 : d = F.wait[j].rot at_ f := by simpa [e] using hd1.symm
        rw [e2]
        refine ⟨h3.1, ?_, ?_⟩
        · rcases h3.2.1 with q | q
          · left
            show F.wait[j].more.modify _ f = []
            rw [q]; exact modify_far (by simp)
          · exact .inr q
        · show F.wait[j].fin + (F.wait[j].more.modify _ f).length ≤ _
          rw [List.length_modify]; exact h3.2.2
      · have e2 : d = F.wait[j] := by simpa [e] using hd1.symm
        rw [e2]
        exact h3
end Go.Proofs.Ytlkkkifilgnhmaa
