/- Contracts: rows of bytes copied, cut. It proves no statement. -/
import Derived.Test.YtjihnagoebhinaaBase
import Derived.Outline
import Derived.Deep.DeepMust
import Derived.Deep.QuietTactic
import Derived.BigQuiet
import Derived.RegionTactic
import Derived.ChangeAlike
import Derived.BigRegion
namespace Go.Proofs.Ytjihnagoebhinaa
open Go.RowKit
set_option linter.unusedVariables false
set_option linter.unusedSimpArgs false

theorem still_drewN {a w : World} (h : Still a w) (n : Nat) : Still a (w.drewN n) := ⟨h.os, h.tape, h.output, h.size, h.block⟩

/-- At most k bytes of a slice, k at least one. -/
theorem cut_any (A : Option Addr) (n c k : Nat) (l : List UInt8) (w : World) (B : Nat) (h : Reads w B A n l) (hc : n ≤ c) (hm : c ≤ 9223372036854775807) (hk : 1 ≤ k) :
    Calls Try.prog 10 #[.slice A n c, .int .i64 k] w fun e w' => e = .returned (.slice A (min n k) c) ∧ w = w' := by
  by_cases hlt : k < n
  · obtain ⟨b, o, rfl, hb, hcc⟩ := h.at_ (by omega)
    have hmin : min n k = k := by omega
    rw [hmin]
    go_enter Try.func10, Try.ntmps10
    go_wp2
    go_ret
    exact ⟨rfl, rfl⟩
  · have hmin : min n k = n := by omega
    rw [hmin]
    go_enter Try.func10, Try.ntmps10
    go_wp2
    go_ret
    exact ⟨rfl, rfl⟩

/-- A copy in memory of the call's own. -/
theorem copy_any (A : Option Addr) (n c : Nat) (l : List UInt8) (w : World) (B : Nat) (h : Reads w B A n l) (hn : n ≤ 140737488355328) (hA : A = none → n = 0 ∧ c = 0) :
    Calls Try.prog 11 #[.slice A n c] w fun e w' => (∃ v, e = .returned v ∧ w'.ownsRow w.heap.size 5 1 v n (bytesV l)) ∧ Still w w' := by
  go_enter Try.func11, Try.ntmps11
  go_wp2_with (at_builtin; go_must (refine wpList_adds _ rfl _ _ rfl w.heap.size _ 0 [] rfl (World.ownsRow_nil _ _ _ _) _ n c B l rfl h (fun e => (hA e).2) ?c1 ?c2 ?_))
  case c1 => omega
  case c2 => exact Nat.le_refl _
  intro v' w' hown hg _
  have hst : Still w w' := (Below.refl _ _).grown hg (Nat.le_refl _) (fun k hk => by simp [Value.ownBlock] at hk)
  have hown' : w'.ownsRow w.heap.size 5 1 v' n (bytesV l) := by simpa using hown
  clear hg hown
  go_wp2_with fail
  go_ret
  exact ⟨⟨_, rfl, hown'⟩, hst⟩

/-- Integers that came in. -/
theorem ints_of_row {w : World} {a : Option Addr} {len cap : Nat} {zs : List Int} (h : RowIn .i64 w a len cap zs) :
    len ≤ 9223372036854775807 ∧ (∀ i, i < len → ∃ b o y, a = some ⟨b, o, none⟩ ∧ b < w.heap.size ∧ w.cell? ⟨b, o + i, none⟩ = some (.int .i64 y)) := by
  rcases h with ⟨rfl, rfl, rfl, rfl⟩ | ⟨x, rfl, hl, hm, hz, hc, hw⟩
  · exact ⟨by omega, fun i hi => by omega⟩
  · unfold maxLen at hm
    refine ⟨by omega, fun i hi => ?_⟩
    obtain ⟨b, o, sp⟩ := x
    have h00 := hc 0 (by omega)
    have hsp : sp = none := by simpa [Addr.add] using World.cell?_spot h00
    subst hsp
    have h0 := hc i (by omega)
    rw [Addr.add_lit] at h0
    exact ⟨b, o, zs.getD i 0, rfl, by simpa using World.block_lt_of_cell? w _ h0, h0⟩

theorem Reads.dropk {w : World} {B n k : Nat} {A : Option Addr} {l : List UInt8} (h : Reads w B A n l) (hk : k ≤ n) : Reads w B (A.map (·.add k)) (n - k) (l.drop k) := by
  refine ⟨by rw [List.length_drop, h.1], fun hn => ?_⟩
  obtain ⟨b, o, rfl, hb, hc⟩ := h.2 (by omega)
  refine ⟨b, o + k, by simp [Addr.add_lit], hb, fun i hi => ?_⟩
  have := hc (k + i) (by omega)
  rw [Nat.add_assoc, this]
  simp [List.getD]
theorem Reads.takek {w : World} {B n k : Nat} {A : Option Addr} {l : List UInt8} (h : Reads w B A n l) (hk : k ≤ n) : Reads w B A k (l.take k) := by
  have := h.take k
  rwa [show min n k = k by omega] at this
end Go.Proofs.Ytjihnagoebhinaa
