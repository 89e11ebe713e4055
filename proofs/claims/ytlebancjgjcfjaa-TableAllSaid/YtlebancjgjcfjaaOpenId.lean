/- A key that came in: 32 bytes. It proves no statement. -/
import Derived.Test.YtlebancjgjcfjaaTbMem
import Derived.ChangeSlices
import Derived.ChangeSame
import Derived.ChangeArms
namespace Go.Proofs.Ytlebancjgjcfjaa
open Go.RowKit
set_option linter.unusedVariables false
set_option linter.unusedSimpArgs false

theorem Try.cells_id : Try.prog.cellsOf 43 = 32 := by kernel_rfl
theorem Try.cells_int0 : Try.prog.cellsOf 3 = 1 := by kernel_rfl
theorem Try.cells_byte0 : Try.prog.cellsOf 5 = 1 := by kernel_rfl
theorem trod_id {H : Type} {enc : TypeId × Value → H} {w : World} {base : Nat} {spare : Nat → Bool} {held : Bool} {fuel : Nat} {cs : List Value} {y : DataW H × List MemPlace} (hcl : cs.length = 32)
    (hf : DataW.trod enc Try.prog w base spare held fuel 43 cs = some y) : ∃ l : List UInt8, cs = bytesV l ∧ l.length = 32 := by
  obtain ⟨xs, m, _, _, hl, hxl, hat⟩ := DataW.trod_array under32 hf
  have hone : ∀ i (h : i < cs.length), ∃ b : UInt8, cs[i] = .int .u8 (b.toNat : Int) := fun i h => by
    have h1 := hat i (by omega)
    rw [Try.cells_byte0] at h1
    have hd : ((cs.drop (i * 1)).take 1) = [cs[i]] := by
      rw [Nat.mul_one, List.drop_eq_getElem_cons h]; rfl
    rw [hd, List.getElem?_eq_getElem (by omega)] at h1
    obtain ⟨a, ha, _, hw⟩ := DataW.trod_int Try.underlying5 h1
    have hb := bounds_u8 hw
    simp only [List.cons.injEq, and_true] at ha
    exact ⟨UInt8.ofNat a.toNat, by rw [ha, UInt8.toNat_ofNat']; congr 1; omega⟩
  refine ⟨cs.map fun v => match v with | .int _ a => UInt8.ofNat a.toNat | _ => 0, ?_, by simp [hcl]⟩
  unfold bytesV
  rw [List.map_map]
  apply List.ext_getElem (by simp)
  intro i h1 h2
  obtain ⟨b, hb⟩ := hone i h1
  rw [List.getElem_map]
  simp [hb]

set_option maxRecDepth 100000 in
theorem open_id {H : Type} {enc : TypeId × Value → H} {w w' : World} {base b0 : Nat} {spare : Nat → Bool} {held : Bool} {r : Reach} {v : Value} {d : DataW H} {p : List MemPlace}
    (hv : Value.okWide Try.prog w' r b0 43 v) (h : DataW.Trod enc Try.prog w base spare held 43 v d p) : ∃ l : List UInt8, v = .agg (bytesV l).toArray ∧ l.length = 32 := by
  simp only [Value.okWide, under32] at hv
  obtain ⟨cs, rfl, hs, _⟩ := hv
  obtain ⟨fuel, hf⟩ := h
  obtain ⟨xs, m, _, _, hl, hxl, hat⟩ := DataW.trod_array under32 hf
  obtain ⟨cs⟩ := cs
  have hcl : cs.length = 32 := by rw [Try.cells_id] at hl; simpa [Value.cells] using hl
  obtain ⟨l, e, h32⟩ := trod_id (cs := cs) hcl hf
  exact ⟨l, by rw [e], h32⟩
end Go.Proofs.Ytlebancjgjcfjaa
