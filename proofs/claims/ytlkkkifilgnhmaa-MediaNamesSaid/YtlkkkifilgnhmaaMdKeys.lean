/- Contracts: slices.Sorted(maps.Keys(m)) and maps.Clone of a map of names. It proves no statement. -/
import Derived.Test.YtlkkkifilgnhmaaMdState
import Derived.Test.YtlkkkifilgnhmaaIter
namespace Go.Proofs.Ytlkkkifilgnhmaa
open Go.RowKit Go.Maps Go.WideMaps Go.Sort Go.Shelf
set_option linter.unusedVariables false
set_option linter.unusedSimpArgs false

theorem keys_any (b : Nat) (W : World) : Calls Try.prog 18 #[.map (some b)] W fun e w' => e = .returned (.func (.func 40) #[] #[.pointer (some ⟨W.heap.size, 0, none⟩)]) ∧ w' = W.alloc (.cells #[.map (some b)] 45) :=
  callsIn_wide.1 (Try.maps_keys (some b) W)
/-- Names, as the model's values. -/
def namesV (N : NT) : List Value := (N.map (·.1)).map encStr
theorem namesV_length (N : NT) : (namesV N).length = N.length := by simp [namesV]
theorem namesV_get (N : NT) (i : Nat) (p : List UInt8 × Nat) (h : N[i]? = some p) : (namesV N)[i]? = some (.string ⟨p.1.toArray⟩) := by
  simp [namesV, h]
theorem sortedkeys_any (N : NT) (hN : Rising N) (b n : Nat) (W : World) (hown : NM W b n (nmD N)) (hlen : N.length ≤ 1000000) :
    Calls Try.prog 17 #[.func (.func 40) #[] #[.pointer (some ⟨W.heap.size, 0, none⟩)]] (W.alloc (.cells #[.map (some b)] 45)) fun e w' => (∃ v, e = .returned v ∧ w'.ownsRow W.heap.size 9 1 v N.length (namesV N)) ∧ Still W w' := by
  refine (callsIn_wide.1 (Try.sorted_keys b n (nmD N) ptrElem W hown (by rw [size_nm]; unfold maxLen; omega) (by rw [size_nm]; omega))).mono ?_
  rintro e w' ⟨v, ss, he, hp, hrow, _, hb⟩
  rw [keys_nm] at hp
  have hl : ss.length = N.length := by rw [hp.length_eq, List.length_map]
  rw [hN.sorted hp, hl] at hrow
  have s1 : Still W (W.alloc (.cells #[.map (some b)] 45)) := (Still.refl W).alloc (Nat.le_refl _) _
  exact ⟨⟨v, he, own_low hrow s1.size⟩, Below.trans s1 (hb.mono s1.size)⟩
theorem mclone_any (N : NT) (b n : Nat) (W : World) (hown : NM W b n (nmD N)) :
    Calls Try.prog 34 #[.map (some b)] W fun e w' => e = .returned (.map (some W.heap.size)) ∧ NM w' W.heap.size n (nmD N) ∧ Still W w' := by
  have h := AnyW.maps_Clone_owns Try.clonem 9 ptrElem b n (nmD N) W hown
  exact h.mono fun e w' ⟨h1, h2, _, h3⟩ => ⟨h1, h2, h3⟩
end Go.Proofs.Ytlkkkifilgnhmaa
