/- A region that draws nothing, walked as one that does: reads, and calls that turn nothing that was there. It proves no statement. -/
import Derived.Test.YthkgnkcedoigiaaQuiet
namespace Go.Proofs.Ythkgnkcedoigiaa
open Go Go.RowKit
set_option linter.unusedVariables false
set_option linter.unusedSimpArgs false

section
variable {P : Program} {ops : Array Oper} {C : World → Prop} {a : Act}
theorem wpList_of_quiet {Q : Exit → Act → World → Prop} {Q' : Act → Prop} (hQ : ∀ a w, C w → Q' a → Q .normal a w) : ∀ (l : List Oper) (a : Act) (w : World), C w → wpQuiet P ops C Q' l a → wpList P ops Q l a w
  | [], a, w, hC, h => hQ a w hC h
  | o :: rest, a, w, hC, h => by
    unfold wpQuiet at h
    unfold wpList
    split at h
    · rename_i hw
      rw [if_pos hw]
      exact .inl (Oper.wp_of_quiet hC (fun a' w' hC' h' => wpList_of_quiet hQ rest a' w' hC' h') h)
    · rename_i hw
      rw [if_neg hw]
      exact wpList_of_quiet hQ rest _ w hC h
/-- The same for a region that draws nothing. -/
theorem wp_plain_quiet_still {id : Nat} {Q : Exit → Act → World → Prop} {w : World} {l : List Oper} (w0 : World) (h0 : Still w0 w)
    (h : wpQuiet P l.toArray (fun w' => ∃ p : StillBy w0, w' = p.W) (fun a' => ∀ w', (∃ p : StillBy w0, w' = p.W) → Q .normal a' w') l a) : (Code.region id l.toArray false).wp P Q a w :=
  wp_region_lit (wpList_of_quiet (Q' := fun a' => ∀ w', (∃ p : StillBy w0, w' = p.W) → Q .normal a' w') (fun a w hC h => h w hC) l a w ⟨⟨w, h0⟩, rfl⟩ h)
end
end Go.Proofs.Ythkgnkcedoigiaa
