/- Contracts and facts, several texts in one. It proves no statement. -/
import Derived.Test.YtljacdbdjacbkaaGreatDoorSnh
import Derived.Outline
import Derived.Deep.DeepMust
import Derived.Deep.QuietTactic
import Derived.BigQuiet
import Derived.RegionTactic
import Derived.ChangeAlike
import Derived.BigRegion
import Derived.Test.YtljacdbdjacbkaaGreatDoorSna
import Derived.Deep.WholeRow
import Derived.Great.Walk
import Derived.Great.BuildSlice
import Derived.Test.YtljacdbdjacbkaaGreatDoorSnb
import Derived.StillTailTactics
import Derived.Deep.DeepCutAuto
import Derived.Deep.CutBlock
import Derived.Laws.CopyOwn

/- Contracts: rows of bytes compared. It proves no statement. -/








namespace Go.Proofs.YtljacdbdjacbkaaGreatDoor
open Go.RowKit
set_option linter.unusedVariables false
set_option linter.unusedSimpArgs false

set_option maxHeartbeats 400000 in
theorem same_yes (A A' : Option Addr) (n c c' : Nat) (l : List UInt8) (w : World) (B B' : Nat) (h : Reads w B A n l) (h' : Reads w B' A' n l) (hn : n ≤ 9223372036854775807) :
    Calls Tryz.prog 47 #[.slice A n c, .slice A' n c'] w fun e w' => e = .returned (.bool true) ∧ Still w w' := by
  go_enter Tryz.func47, Tryz.ntmps47
  go_wp2_with fail
  go_loopw [5] (fun i wr => ∃ k : Nat, k ≤ n ∧ i = .int .i64 k ∧ Reads wr B A n l ∧ Reads wr B' A' n l ∧ Still w wr) (fun i _ => n - (intOf i).toNat)
  case atStart => exact ⟨0, Nat.zero_le _, rfl, h, h', Below.refl _ _⟩
  case round =>
    obtain ⟨k, hk, rfl, hr, hr', hst⟩ := hrel
    by_cases hlt : k < n
    · obtain ⟨b, o, rfl, hb, hc⟩ := hr.at_ (by omega)
      obtain ⟨b', o', rfl, hb', hc'⟩ := hr'.at_ (by omega)
      have c1 := hc k hlt
      have c2 := hc' k hlt
      clear hc hc'
      generalize (l.getD k 0).toNat = y at c1 c2
      have z1 : (0 : Int) ≤ (k : Int) := by omega
      have z2 : (k : Int) < (n : Int) := by omega
      go_wp2_with fail
      go_quiet (fail)
      go_wp2_with fail
      go_roundw
      case rel => exact ⟨k + 1, by omega, by go_num, hr, hr', still_drewN hst _⟩
      case measure => simp [intOf]; omega
    · obtain rfl : k = n := by omega
      go_wp2_with fail
      go_ret
      exact ⟨rfl, hst⟩
end Go.Proofs.YtljacdbdjacbkaaGreatDoor

/- 'var a [n]T': a new block of noughts. It proves no statement. -/




namespace Go.Proofs.YtljacdbdjacbkaaGreatDoor
open Go.RowKit
set_option linter.unusedVariables false
set_option linter.unusedSimpArgs false

theorem run_alloc_arr {P : Program} (ρ : Operand → Value) (o : Oper) (t : TypeId) (ho : o.op = .alloc t) (cs : Array Value) (n : Nat) (h : (P.info? t).map (fun i => (i.zero, i.size)) = some (some (.agg cs), n)) (w : World) :
    (execOp ρ o).run P w = .ok (.value (.pointer (some ⟨w.heap.size, 0, none⟩))) (w.alloc (.cells cs t)) := by
  have hz := (zero_of_info h).1
  unfold execOp
  simp [ho, Instr.alloc, hz, Value.cells, newVar, newRow, Sem.run_bind]
theorem wpList_alloc_arr {P : Program} {ops : Array Oper} {rest : List Oper} {o : Oper} {a : Act} {w : World} {Q : Exit → Act → World → Prop} (hg : o.guard = none) (t : TypeId) (ho : o.op = .alloc t) (dst : Option Tmp) (hdst : o.dst = dst) (cs : Array Value) (n : Nat)
    (hi : (P.info? t).map (fun i => (i.zero, i.size)) = some (some (.agg cs), n)) (h : wpList P ops Q rest (a.put dst (.pointer (some ⟨w.heap.size, 0, none⟩))) (w.alloc (.cells cs t))) : wpList P ops Q (o :: rest) a w :=
  Go.Great.wpList_runTo hg dst hdst _ _ (run_alloc_arr _ o t ho cs n hi w) h
theorem wpList_box_arr {P : Program} {ops : Array Oper} {rest : List Oper} {o : Oper} {a : Act} {w : World} {Q : Exit → Act → World → Prop} (hg : o.guard = none) (t : TypeId) (x : Operand) (ho : o.op = .box t x) (dst : Option Tmp) (hdst : o.dst = dst) (cs : Array Value)
    (hx : a.eval x = .agg cs) (h : wpList P ops Q rest (a.put dst (.pointer (some ⟨w.heap.size, 0, none⟩))) (w.alloc (.cells cs t))) : wpList P ops Q (o :: rest) a w := by
  refine Go.Great.wpList_runTo hg dst hdst _ _ ?_ h
  unfold execOp
  simp [ho, hx, Instr.box, Value.cells, newVar, newRow, Sem.run_bind]
/-- An element of an array that is a value. -/
theorem run_index_arr {P : Program} (w : World) (t e : TypeId) (n : Nat) (k : IntKind) (ht : P.underlying t = some (.array n e)) (he : P.underlying e = some (.int k)) (hs : (P.info? e).map (·.size) = some 1)
    (cs : List Value) (hn : cs.length = n) (i : Nat) (hi : i < n) (v : Value) (hv : cs[i]? = some v) : (Instr.index t (.agg cs.toArray) (.int .i64 (i : Int))).run P w = .ok v w := by
  cases hq : P.info? e with
  | none => simp [hq] at hs
  | some ie =>
    have hz : ie.size = 1 := by simpa [hq] using hs
    simp [Instr.index, asIntOf, run_underlying ht, Sem.run_bind, sizeOf, typeInfo, hq, hz, part, isAgg, run_underlying he, hv, hi]
end Go.Proofs.YtljacdbdjacbkaaGreatDoor

/- Texts and numbers that are cut; rows that lie apart. It proves no statement. -/










namespace Go.Proofs.YtljacdbdjacbkaaGreatDoor
open Go.RowKit Go.Maps Go.WideMaps
set_option linter.unusedVariables false
set_option linter.unusedSimpArgs false

/-- A text cut to k bytes. -/
def shB (k : Nat) (s : ByteArray) : ByteArray := if s.size ≤ k then s else s.extract 0 k
theorem shB_size (k : Nat) (s : ByteArray) : (shB k s).size ≤ k := by
  unfold shB
  split
  · assumption
  · simp; omega
set_option maxHeartbeats 800000 in
theorem short_k (s : ByteArray) (k : Nat) (w : World) (hs : s.size ≤ 9223372036854775807) :
    Calls Tryz.prog 50 #[.string s, .int .i64 (k : Int)] w fun e w' => e = .returned (.string (shB k s)) ∧ w = w' := by
  unfold shB
  obtain ⟨n, hn⟩ : ∃ n, n = s.size := ⟨_, rfl⟩
  by_cases h : k < n
  · have h1 : (k : Int) < (s.size : Int) := by omega
    have h2 : (k : Int) ≤ (s.size : Int) := by omega
    have h3 : (0 : Int) ≤ (k : Int) := by omega
    rw [if_neg (by omega)]
    go_enter Tryz.func50, Tryz.ntmps50
    go_wp2_with fail
    go_ret
    exact ⟨rfl, rfl⟩
  · have h1 : ¬ (k : Int) < (s.size : Int) := by omega
    rw [if_pos (by omega)]
    go_enter Tryz.func50, Tryz.ntmps50
    go_wp2_with fail
    go_ret
    exact ⟨rfl, rfl⟩
/-- A row of numbers, cut to 60. -/
theorem numbers_any (A : Option Addr) (n c : Nat) (w : World) (hc : n ≤ c) (hm : c ≤ 9223372036854775807) (hA : 0 < n → ∃ b o, A = some ⟨b, o, none⟩) :
    Calls Tryz.prog 56 #[.slice A n c, .int .i64 60] w fun e w' => e = .returned (.slice A (min n 60) c) ∧ w = w' := by
  by_cases hlt : 60 < n
  · obtain ⟨b, o, rfl⟩ := hA (by omega)
    have hmin : min n 60 = 60 := by omega
    have hc60 : (60 : Nat) ≤ c := by omega
    rw [hmin]
    go_enter Tryz.func56, Tryz.ntmps56
    go_wp2
    go_ret
    exact ⟨rfl, rfl⟩
  · have hmin : min n 60 = n := by omega
    rw [hmin]
    go_enter Tryz.func56, Tryz.ntmps56
    go_wp2
    go_ret
    exact ⟨rfl, rfl⟩
theorem own_low {w : World} {b b' n z : Nat} {e : TypeId} {v : Value} {xs : List Value} (h : w.ownsRow b e z v n xs) (hb : b' ≤ b) : w.ownsRow b' e z v n xs := by
  refine ⟨h.1, ?_⟩
  rcases h.2 with q | ⟨k, cap, cur, e1, e2, e3⟩
  · exact .inl q
  · exact .inr ⟨k, cap, cur, e1, Nat.le_trans hb e2, e3⟩
theorem own_apart {W W' : World} {B B' n n' z z' : Nat} {e e' : TypeId} {v v' : Value} {xs xs' : List Value} (h : W.ownsRow B e z v n xs) (h' : W.ownsRow B' e' z' v' n' xs') (ne : e ≠ e') (gr : W.grownBy W' v'.ownBlock) : W'.ownsRow B e z v n xs := by
  refine h.kept (row := v'.ownBlock) gr ?_
  rcases h.2 with ⟨rfl, _⟩ | ⟨g, cap, cur, rfl, _, hg, _⟩
  · exact .inl rfl
  · refine .inr (fun q => ?_)
    rcases h'.2 with ⟨rfl, _⟩ | ⟨g', cap', cur', rfl, _, hg', _⟩
    · cases q
    · have q' : g = g' := by simpa [Value.ownBlock] using q
      subst q'
      rw [hg] at hg'
      simp only [Option.some.injEq, Obj.cells.injEq] at hg'
      exact ne hg'.2.1
end Go.Proofs.YtljacdbdjacbkaaGreatDoor
