/- Structs of numbers are equal to themselves. It proves no statement. -/
import Derived.Test.YtlebancjgjcfjaaBase
import Derived.Deep.DeepMust
import Derived.Laws.StructEq
import Derived.ChangeKeysEq
namespace Go.Proofs.Ytlebancjgjcfjaa
open Go.RowKit
set_option linter.unusedVariables false
set_option linter.unusedSimpArgs false
set_option maxRecDepth 100000

theorem run_part_agg {P : Program} (w : World) {e : TypeId} {d : TypeDesc} {i : TypeInfo} {k : Nat} (hu : P.underlying e = some d) (ha : (match d with | .struct _ | .array _ _ => true | _ => false) = true) (hi : P.info? e = some i) (hk : P.cellsOf e = k) (xs : Array Value) (off : Nat) :
    (part e xs off).run P w = .ok (.agg (xs.extract off (off + k))) w := by
  have h1 : (isAgg e).run P w = .ok true w := by
    cases d <;> simp at ha <;> simp [isAgg, run_underlying hu]
  simp [part, h1, run_sizeOf w hi, hk]
theorem eqFields_agg {P : Program} (w : World) (d : Nat) (xs ys : Array Value) (f : Field) (fs : List Field) (hn : (f.name ≠ "_") = True) {a b : Value} (ha : (part f.type xs f.offset).run P w = .ok a w) (hb : (part f.type ys f.offset).run P w = .ok b w) (he : (Op.equalIn d f.type a b).run P w = .ok true w) :
    (Op.eqFields d xs ys (f :: fs)).run P w = (Op.eqFields d xs ys fs).run P w := by
  have hn' : f.name ≠ "_" := of_eq_true hn
  simp [Op.eqFields, hn', ha, hb, he]
theorem eq_ints {w : World} {d : Nat} (x : List Int) (fs : List Field) (hf : ∀ f ∈ fs, f.type = 3 ∧ f.offset < x.length ∧ f.name ≠ "_") :
    (Op.eqFields (d + 1) (x.map (Value.int .i64)).toArray (x.map (Value.int .i64)).toArray fs).run Try.prog w = .ok true w := by
  induction fs with
  | nil => simp [Op.eqFields]
  | cons f fs ih =>
    obtain ⟨ht, ho, hn⟩ := hf f (by simp)
    have hv : ((x.map (Value.int .i64)).toArray)[f.offset]? = some (.int .i64 x[f.offset]) := by simp [ho]
    have hp := run_part_plain (P := Try.prog) w (e := f.type) (by rw [ht]; kernel_rfl) hv
    rw [eqFields_agg w (d + 1) _ _ f fs (by simp [hn]) hp hp ?_]
    · exact ih (fun g hg => hf g (by simp [hg]))
    · rw [run_equalIn_int w d f.type .i64 .i64 _ _ (by rw [ht]; exact Try.underlying3)]
      simp
theorem eq_place {w : World} {D : Nat} (d : Nat) (hD : D = d + 2) {x : List Int} (hx : x.length = 3) :
    (Op.equalIn D 36 (.agg (x.map (Value.int .i64)).toArray) (.agg (x.map (Value.int .i64)).toArray)).run Try.prog w = .ok true w := by
  subst hD
  have hs : Try.prog.underlying 36 = some (.struct (Try.prog.fieldsOf 36)) := by unfold Program.fieldsOf; rw [Try.underlying36]
  rw [run_equalIn_struct w (d + 1) _ _ _ hs (by kernel_rfl)]
  refine eq_ints x _ (fun f hf => ?_)
  unfold Program.fieldsOf at hf
  rw [Try.underlying36] at hf
  simp only [List.mem_cons, List.not_mem_nil, or_false] at hf
  rcases hf with rfl | rfl | rfl <;> simp [hx]
theorem eq_count {w : World} {D : Nat} (d : Nat) (hD : D = d + 2) {x : List Int} (hx : x.length = 2) :
    (Op.equalIn D 40 (.agg (x.map (Value.int .i64)).toArray) (.agg (x.map (Value.int .i64)).toArray)).run Try.prog w = .ok true w := by
  subst hD
  have hs : Try.prog.underlying 40 = some (.struct (Try.prog.fieldsOf 40)) := by unfold Program.fieldsOf; rw [Try.underlying40]
  rw [run_equalIn_struct w (d + 1) _ _ _ hs (by kernel_rfl)]
  refine eq_ints x _ (fun f hf => ?_)
  unfold Program.fieldsOf at hf
  rw [Try.underlying40] at hf
  simp only [List.mem_cons, List.not_mem_nil, or_false] at hf
  rcases hf with rfl | rfl <;> simp [hx]
theorem neq_place (w : World) {x : List Int} (hx : x.length = 3) : (binOp .neq 36 (.agg (x.map (Value.int .i64)).toArray) (.agg (x.map (Value.int .i64)).toArray)).run Try.prog w = .ok (.bool false) w := by
  rw [run_neq_struct, eq_place (D := 10000) 9998 rfl hx]; rfl
theorem neq_count (w : World) {x : List Int} (hx : x.length = 2) : (binOp .neq 40 (.agg (x.map (Value.int .i64)).toArray) (.agg (x.map (Value.int .i64)).toArray)).run Try.prog w = .ok (.bool false) w := by
  rw [run_neq_struct, eq_count (D := 10000) 9998 rfl hx]; rfl
end Go.Proofs.Ytlebancjgjcfjaa
