/- Maps of names to files (pointers), as the media's functions use them. It proves no statement. -/
import Derived.Test.YtlddmgofjeibaaaBlk
import Derived.Maps.OwnSet
import Derived.Maps.OwnOps
import Derived.Maps.RangeWalk
import Derived.Maps.Ext
namespace Go.Proofs.Ytlddmgofjeibaaa
open Go.RowKit Go.Maps Go.WideMaps
set_option linter.unusedVariables false
set_option linter.unusedSimpArgs false

/-- A file's number as a datum. -/
def fd (f : Int) : DataW Unit := .lit (.int .i64 f)
/-- How a pointer to a file reads. -/
def ptrElem (v : Value) : Option (DataW Unit × List MemPlace) :=
  match v with
  | .pointer none => some (fd (-1), [])
  | .pointer (some ⟨b, 0, none⟩) => some (fd (b : Int), [])
  | _ => none
/-- The pointer of a number. -/
def pa (f : Int) : Option Addr := if f < 0 then none else some ⟨f.toNat, 0, none⟩
def pv (f : Int) : Value := .pointer (pa f)
theorem pv_nil : pv (-1) = .pointer none := rfl
theorem pv_at (b : Nat) : pv (b : Int) = .pointer (some ⟨b, 0, none⟩) := by
  unfold pv pa
  rw [if_neg (by omega)]
  simp
theorem ptrElem_nil : ptrElem (.pointer none) = some (fd (-1), []) := rfl
theorem ptrElem_at (b : Nat) : ptrElem (.pointer (some ⟨b, 0, none⟩)) = some (fd (b : Int), []) := rfl
theorem ptrElem_inv {v : Value} {z : DataW Unit × List MemPlace} (h : ptrElem v = some z) : ∃ f : Int, (f = -1 ∨ 0 ≤ f) ∧ v = pv f ∧ z = (fd f, []) := by
  unfold ptrElem at h
  split at h
  · injection h with h
    exact ⟨-1, .inl rfl, rfl, h.symm⟩
  · rename_i b
    injection h with h
    exact ⟨(b : Int), .inr (by omega), (pv_at b).symm, h.symm⟩
  · cases h
theorem mapLaw : Keyed Try.prog 9 := string_keyed Try.underlying9
theorem zeroPtr (w : World) : (zeroValue 68).run Try.prog w = .ok (.pointer none) w := by kernel_rfl
theorem underNames : Try.prog.underlying 61 = some (.map 9 68) := Try.underlying61
/-- Block b is a map of names that reads as D. -/
abbrev NM (w : World) (b n : Nat) (D : DataW Unit) : Prop := w.ownsMap Try.prog 9 ptrElem b n D
/-- A name as a key. -/
def kl (s : ByteArray) : Lit := .string s.data.toList
theorem key_of (s : ByteArray) (hs : s.size ≤ maxLen) : keyOf Try.prog 9 (.string s) = some (kl s) := keyOf_string_mk Try.underlying9 hs
/-- The file under a name, or -1. -/
def look (D : DataW Unit) (s : ByteArray) : Int := match D.atKey (kl s) (fd (-1)) with | .lit (.int .i64 f) => f | _ => -1

section
variable {w : World} {ops : Array Oper} {rest : List Oper} {o : Oper} {a : Act} {Q : Exit → Act → World → Prop}
theorem wpList_look (hg : o.guard = none) (m x : Operand) (hop : o.op = Op.lookup 61 m x false)
    (b n : Nat) (D : DataW Unit) (hm : a.eval m = .map (some b)) (hown : NM w b n D) (s : ByteArray) (hx : a.eval x = .string s) (hs : s.size ≤ maxLen)
    (hK : ∀ f : Int, (f = -1 ∨ 0 ≤ f) → look D s = f → wpList Try.prog ops Q rest (a.put o.dst (pv f)) w) :
    wpList Try.prog ops Q (o :: rest) a w := by
  refine wpList_plain hg fun K' hK' => ?_
  obtain ⟨v, ps, hrun, hv⟩ := hown.lookup mapLaw underNames (zeroPtr w) ptrElem_nil (key_of s hs)
  obtain ⟨f, hf, rfl, hz⟩ := ptrElem_inv hv
  have hl : look D s = f := by
    unfold look
    have := congrArg Prod.fst hz
    simp only at this
    rw [this]
    rfl
  unfold Oper.wp
  simp [execOp, hop, hm, hx, hrun, Result.andThen]
  exact hK' _ _ (hK f hf hl)
end
end Go.Proofs.Ytlddmgofjeibaaa
