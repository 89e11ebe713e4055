/- Contract: a byte looked up among the digits, by the program's way. It proves no statement. -/
import Derived.Test.YtambpgfmnbkhdaaDoorShaShort
namespace Go.Proofs.YtambpgfmnbkhdaaDoor
open Go.RowKit
set_option linter.unusedVariables false
set_option linter.unusedSimpArgs false

/-- What strings.IndexByte answers of the digits. -/
def ixb (c : Nat) : Int := if nb c = 16 then -1 else (nb c : Int)
theorem ixb_eq : ∀ c < 256, Lib.indexByte (⟨#[48, 49, 50, 51, 52, 53, 54, 55, 56, 57, 97, 98, 99, 100, 101, 102]⟩ : ByteArray).data.toList (UInt8.ofNat c) = ixb c := by decide +kernel

set_option maxHeartbeats 800000 in
theorem liteIndex_any (c : Nat) (hc : c < 256) (w : World) :
    Calls Tryd.prog 43 #[.string ⟨#[48, 49, 50, 51, 52, 53, 54, 55, 56, 57, 97, 98, 99, 100, 101, 102]⟩, .int .u8 (c : Int)] w fun e w' => e = .returned (.int .i64 (ixb c)) ∧ w' = w := by
  have r := Lib.run_indexByteString (P := Tryd.prog) ⟨#[48, 49, 50, 51, 52, 53, 54, 55, 56, 57, 97, 98, 99, 100, 101, 102]⟩ (c : Int) w
  rw [show ((c : Int).toNat.toUInt8) = UInt8.ofNat c from rfl, ixb_eq c hc] at r
  go_enter Tryd.func43, Tryd.ntmps43
  go_wp2_with fail
  rw [run_callFunc_extern Tryd.func48 (by kernel_rfl) (by kernel_rfl) (by kernel_rfl) (e := Extern.BytealgIndexByte.indexByte) (by kernel_rfl), r]
  simp only [Result.andThen]
  rw [Oper.upon_value]
  go_wp2_with fail
  go_ret
  exact ⟨rfl, rfl⟩
set_option maxHeartbeats 800000 in
theorem index_any (c : Nat) (hc : c < 256) (w : World) :
    Calls Tryd.prog 35 #[.string ⟨#[48, 49, 50, 51, 52, 53, 54, 55, 56, 57, 97, 98, 99, 100, 101, 102]⟩, .int .u8 (c : Int)] w fun e w' => e = .returned (.int .i64 (ixb c)) ∧ w' = w := by
  have L := fun w => liteIndex_any c hc w
  go_enter Tryd.func35, Tryd.ntmps35
  go_wp2_with fail
  refine (L _).mono ?_
  rintro e w1 ⟨rfl, rfl⟩
  go_wp2_with fail
  go_ret
  exact ⟨rfl, rfl⟩
end Go.Proofs.YtambpgfmnbkhdaaDoor
