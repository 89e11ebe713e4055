/- Lists within one another. It proves no statement. -/
import Derived.Test.YtoinkioobandfaaDoorPackGe
import Derived.Test.YtoinkioobandfaaDoorPackGd
namespace Go.Proofs.YtoinkioobandfaaDoor
open Go.RowKit
set_option linter.unusedVariables false
set_option linter.unusedSimpArgs false

/-- A number, so many lists around it. -/
def nest (x : Int) : Nat → Tr
  | 0 => .mk 3 x [] ByteArray.empty [] []
  | k + 1 => .mk 6 0 [] ByteArray.empty [] [nest x k]
theorem nest_can (x : Int) : ∀ (k d : Nat), canT d (nest x k) = decide (d + k ≤ 16)
  | 0, d => by
    unfold nest canT
    simp [Nat.add_zero]
  | k + 1, d => by
    unfold nest canT
    unfold canL
    rw [nest_can x k (d + 1)]
    unfold canL
    by_cases h : d + (k + 1) ≤ 16
    · have h1 : d ≤ 16 := by omega
      have h2 : d + 1 + k ≤ 16 := by omega
      simp [h, h1, h2]
    · have h2 : ¬ d + 1 + k ≤ 16 := by omega
      simp [h, h2]
theorem nest_in (x : Int) (hx : -9223372036854775808 ≤ x ∧ x ≤ 9223372036854775807) : ∀ (k : Nat), inT (nest x k)
  | 0 => by unfold nest inT; exact ⟨hx, by unfold inL; trivial⟩
  | k + 1 => by unfold nest inT inL; exact ⟨by omega, nest_in x hx k, by unfold inL; trivial⟩
theorem nest_len (x : Int) : ∀ (k : Nat), (encT (nest x k)).length = k + (encI x).length
  | 0 => by unfold nest encT; simp
  | k + 1 => by
    unfold nest encT
    have h1 : (szB (6 : Int).toNat [nest x k].length).length = 1 := by
      have : szB 6 1 = [145] := by decide +kernel
      simp [this]
    rw [if_neg (by omega), if_neg (by omega), if_neg (by omega), if_neg (by omega), if_neg (by omega), if_neg (by omega), List.length_append, h1]
    unfold encL
    rw [if_neg (by omega)]
    unfold encL
    simp [nest_len x k]
    omega
theorem nest_dec (x : Int) (hx : -9223372036854775808 ≤ x ∧ x ≤ 9223372036854775807) (n : Nat) (hn : n ≤ 15) : (decB (encT (nest x n))).1 = 0 ∧ (decB (encT (nest x n))).2 = clT (nest x n) := by
  have hl := nest_len x n
  have hb := encI_length x
  have h8 := bh_le (nt x)
  have D := decV_enc (nest x n) 1 [] (by rw [nest_can]; simp; omega) (nest_in x hx n) (by omega)
  rw [List.append_nil] at D
  unfold decB
  rw [if_neg (by omega), D]
  simp
theorem clT_cl : ∀ (x : Int) (k : Nat), clT (nest x k) = nest x k
  | x, 0 => by unfold nest clT; simp
  | x, k + 1 => by
    unfold nest clT
    rw [if_neg (by omega), if_neg (by omega), if_neg (by omega), if_pos rfl, clL_cons, clT_cl x k]
    unfold clL
    rfl
theorem nest_same (x : Int) (n : Nat) (hn : n ≤ 15) : sameT (nest x n) (nest x n) = true :=
  sameT_cl _ _ 1 1 (by rw [nest_can]; simp; omega) (by rw [nest_can]; simp; omega) rfl
theorem nest_enc (x : Int) (n : Nat) : encR (nest x n) = if n ≤ 15 then (encT (nest x n), 0) else ([], 4) := by
  rw [encR_eq, nest_can]
  have hl := nest_len x n
  have hb := encI_length x
  have h8 := bh_le (nt x)
  by_cases h : n ≤ 15
  · rw [if_pos h, if_neg (by simp; omega), if_neg (by omega)]
  · rw [if_neg h, if_pos (by simp; omega)]

theorem wpList_boxV {ops : Array Oper} {rest : List Oper} {Q : Exit → Act → World → Prop} (w : World) {o : Oper} {a : Act} (hgd : o.guard = none) (x : Operand)
    (ho : o.op = .buildSlice 24 1 #[(0, x)]) (cs : List Value) (h6 : cs.length = 6) (hx : a.eval x = .agg cs.toArray)
    (h : wpList Tryd.prog ops Q rest (a.put o.dst (.slice (some ⟨w.heap.size, 0, none⟩) 1 1)) (w.alloc (.cells cs.toArray 26))) : wpList Tryd.prog ops Q (o :: rest) a w :=
  wpList_plain hgd fun _ hK => step_boxV w x ho cs h6 hx (hK _ _ h)
/-- One more list around. -/
theorem nest_more {w w' : World} {P Q : Nat → Prop} {x : Int} {k : Nat} {cs : List Value} (h : HasP w P (nest x k) cs.toArray) (h6 : cs.length = 6) (hb : ∀ b, P b → b < w.heap.size → w'.heap[b]? = w.heap[b]?) (hz : w.heap.size ≤ w'.heap.size) (hq : ∀ b, P b → b < w.heap.size → Q b) (g : Nat) (hg : Q g) (bx : Blk w' g 26 cs.toArray) :
    HasP w' Q (nest x (k + 1)) #[.int .i64 6, .int .i64 0, .slice none 0 0, .string ⟨#[]⟩, .slice none 0 0, .slice (some ⟨g, 0, none⟩) 1 1] := by
  unfold nest HasP
  refine ⟨none, 0, 0, none, 0, some ⟨g, 0, none⟩, 1, rfl, by omega, by omega, ⟨⟨rfl, fun h => absurd h (by omega)⟩, by omega, fun _ => rfl⟩, by decide, ⟨⟨fun s h => by simp at h, fun h => absurd h (by simp)⟩, by simp⟩, by simp, fun _ => ⟨g, 0, rfl, hg, bx.lt, ?_⟩⟩
  unfold HasLP
  refine ⟨⟨cs.toArray, HasP.keep hb hz hq _ _ h, by simpa using h6, fun j v hj => ?_⟩, by unfold HasLP; trivial⟩
  rw [Nat.zero_add]
  exact (bx.cell j).trans hj
end Go.Proofs.YtoinkioobandfaaDoor
