/- Contracts and facts, several texts in one. It proves no statement. -/
import Derived.Test.YtfneloobfidckaaGreatDoorSf20
import Derived.Test.YtfneloobfidckaaGreatDoorSf22
import Derived.Deep.QuietTactic
import Derived.Test.YtfneloobfidckaaGreatDoorSf00
import Derived.Deep.MidRow
import Derived.Deep.RegionHeld
import Derived.Maps.AppendAt
import Derived.Great.BuildSlice

/- A log in memory beside its medium: whose block is whose; what stays when something turns. It proves no statement. -/




namespace Go.Proofs.YtfneloobfidckaaGreatDoor
open Go.RowKit Go.Maps Go.WideMaps Go.Sort
set_option linter.unusedVariables false
set_option linter.unusedSimpArgs false

/-- A log: its limit, its segments (number, size), how many are fresh, whether the last one is open. -/
structure Lg where
  limit : Int
  segs : List (Nat × Nat)
  fresh : Nat
  isOpen : Bool
def segV (X : List (Nat × Nat)) : List Value := X.flatMap fun p => [.int .i64 (p.1 : Int), .int .i64 (p.2 : Int)]
theorem segV_append (X Y : List (Nat × Nat)) : segV (X ++ Y) = segV X ++ segV Y := by simp [segV]
theorem segV_one (p : Nat × Nat) : segV [p] = [.int .i64 (p.1 : Int), .int .i64 (p.2 : Int)] := by simp [segV]
theorem segV_length (X : List (Nat × Nat)) : (segV X).length = X.length * 2 := by
  induction X with
  | nil => rfl
  | cons x r ih =>
    have : (segV (x :: r)).length = 2 + (segV r).length := by simp [segV]; omega
    rw [this, ih, List.length_cons]
    omega
theorem segV_get : ∀ (X : List (Nat × Nat)) (i : Nat) (p : Nat × Nat), X[i]? = some p → (segV X)[i * 2]? = some (.int .i64 (p.1 : Int)) ∧ (segV X)[i * 2 + 1]? = some (.int .i64 (p.2 : Int))
  | [], i, p, h => by simp at h
  | y :: r, 0, p, h => by
    simp only [List.getElem?_cons_zero, Option.some.injEq] at h
    subst h
    exact ⟨rfl, rfl⟩
  | y :: r, i + 1, p, h => by
    have ih := segV_get r i p (by simpa using h)
    have e : segV (y :: r) = .int .i64 (y.1 : Int) :: .int .i64 (y.2 : Int) :: segV r := by simp [segV]
    rw [e, show (i + 1) * 2 = i * 2 + 1 + 1 by omega, List.getElem?_cons_succ, List.getElem?_cons_succ, List.getElem?_cons_succ, List.getElem?_cons_succ]
    exact ih
/-- What holds of a log's own numbers. -/
structure Lg.ok (S : Lg) : Prop where
  lim : 128 ≤ S.limit ∧ S.limit ≤ 1048576
  num : ∀ p ∈ S.segs, p.1 < 1048576 ∧ p.2 ≤ 16777216
  rise : S.segs.Pairwise fun p q => p.1 < q.1
  few : S.segs.length ≤ 1048576
  fresh : S.fresh ≤ S.segs.length
  opn : S.isOpen = true → 0 < S.fresh
def logC (g : Nat) (S : Lg) (sv : Value) : Array Value := #[.pointer (some ⟨g, 0, none⟩), .int .i64 S.limit, sv, .int .i64 (S.fresh : Int), .bool S.isOpen]
/-- A log's blocks: 1: the log; 2: its row. -/
abbrev LOwn := Nat → Option Nat
structure LogI (w : World) (base : Nat) (lo : LOwn) (g gl : Nat) (S : Lg) (sv : Value) : Prop where
  blk : Blk w gl 156 (logC g S sv)
  row : w.ownsRow base 160 2 sv S.segs.length (segV S.segs)
  ol : lo gl = some 1
  os : ∀ b, sv.ownBlock = some b → lo b = some 2
  dom : ∀ b, lo b ≠ none → base ≤ b ∧ b < w.heap.size
theorem LogI.keep {w w' : World} {base g gl : Nat} {lo : LOwn} {S : Lg} {sv : Value} {T : Nat → Prop} (h : LogI w base lo g gl S sv) (c : Chg w w' T) (hT : ∀ b, T b → lo b = none) : LogI w' base lo g gl S sv where
  blk := c.blk h.blk (fun ht => by have := hT _ ht; rw [h.ol] at this; cases this)
  row := c.own h.row (fun b hb ht => by have := hT _ ht; rw [h.os b hb] at this; cases this)
  ol := h.ol
  os := h.os
  dom := fun b hb => ⟨(h.dom b hb).1, Nat.lt_of_lt_of_le (h.dom b hb).2 c.size⟩
/-- A log and its medium. -/
structure LM (w : World) (base g gl : Nat) (own : Own) (lo : LOwn) (M : Me) (S : Lg) : Prop where
  med : MedI w base own g M
  log : ∃ sv, LogI w base lo g gl S sv
  ap : ∀ b, own b ≠ none → lo b = none
theorem LM.ap2 {w : World} {base g gl : Nat} {own : Own} {lo : LOwn} {M : Me} {S : Lg} (h : LM w base g gl own lo M S) : ∀ b, lo b ≠ none → own b = none := by
  intro b hb
  cases hq : own b with
  | none => rfl
  | some q => exact absurd (h.ap b (by rw [hq]; simp)) hb
theorem LM.keep {w w' : World} {base g gl : Nat} {own : Own} {lo : LOwn} {M : Me} {S : Lg} {T : Nat → Prop} (h : LM w base g gl own lo M S) (c : Chg w w' T) (hT : ∀ b, T b → own b = none ∧ lo b = none) : LM w' base g gl own lo M S := by
  obtain ⟨sv, hl⟩ := h.log
  exact ⟨h.med.keep c (fun b hb => (hT b hb).1), ⟨sv, hl.keep c (fun b hb => (hT b hb).2)⟩, h.ap⟩
theorem LM.still {w w' : World} {base g gl : Nat} {own : Own} {lo : LOwn} {M : Me} {S : Lg} (h : LM w base g gl own lo M S) (s : Still w w') : LM w' base g gl own lo M S := h.keep (Chg.of_still s (fun _ => False)) (fun _ h => h.elim)
/-- What a log's call leaves. -/
def LLeft (w w' : World) (base g gl : Nat) (own : Own) (lo : LOwn) (M' : Me) (S' : Lg) : Prop :=
  Chg w w' (fun b => own b ≠ none ∨ lo b ≠ none) ∧ ∃ (own' : Own) (lo' : LOwn), (∀ b, b < w.heap.size → own' b = own b ∧ lo' b = lo b) ∧ LM w' base g gl own' lo' M' S'
theorem LLeft.still {w w' : World} {base g gl : Nat} {own : Own} {lo : LOwn} {M : Me} {S : Lg} (h : LM w base g gl own lo M S) (s : Still w w') : LLeft w w' base g gl own lo M S := ⟨Chg.of_still s _, own, lo, fun _ _ => ⟨rfl, rfl⟩, h.still s⟩
theorem LLeft.same {w : World} {base g gl : Nat} {own : Own} {lo : LOwn} {M : Me} {S : Lg} (h : LM w base g gl own lo M S) : LLeft w w base g gl own lo M S := LLeft.still h (Still.refl w)
/-- A medium's call. -/
theorem LLeft.med {w w' : World} {base g gl : Nat} {own : Own} {lo : LOwn} {M M' : Me} {S : Lg} (h : LM w base g gl own lo M S) (hl : Left w w' base g own M') : LLeft w w' base g gl own lo M' S := by
  obtain ⟨c, own', ho, m⟩ := hl
  obtain ⟨sv, l⟩ := h.log
  refine ⟨c.mono (fun b _ hb => .inl hb), own', lo, fun b hb => ⟨ho b hb, rfl⟩, m, ⟨sv, l.keep c (fun b hb => h.ap b hb)⟩, fun b hb => ?_⟩
  by_cases hlt : b < w.heap.size
  · rw [ho b hlt] at hb
    exact h.ap b hb
  · cases hq : lo b with
    | none => rfl
    | some q => exact absurd (l.dom b (by rw [hq]; simp)).2 hlt
theorem LLeft.trans {w w1 w2 : World} {base g gl : Nat} {own : Own} {lo : LOwn} {M1 M2 : Me} {S1 S2 : Lg} (h : LLeft w w1 base g gl own lo M1 S1) (k : ∀ own1 lo1, (∀ b, b < w.heap.size → own1 b = own b ∧ lo1 b = lo b) → LM w1 base g gl own1 lo1 M1 S1 → LLeft w1 w2 base g gl own1 lo1 M2 S2) : LLeft w w2 base g gl own lo M2 S2 := by
  obtain ⟨c, own1, lo1, ho, m⟩ := h
  obtain ⟨c2, own2, lo2, ho2, m2⟩ := k own1 lo1 ho m
  exact ⟨c.trans c2 (fun b hb hs => by rw [← (ho b hb).1, ← (ho b hb).2]; exact hs), own2, lo2, fun b hb => ⟨(ho2 b (Nat.lt_of_lt_of_le hb c.size)).1.trans (ho b hb).1, (ho2 b (Nat.lt_of_lt_of_le hb c.size)).2.trans (ho b hb).2⟩, m2⟩
/-- A log's cells. -/
theorem LogI.cells {w : World} {base g gl : Nat} {lo : LOwn} {S : Lg} {sv : Value} (h : LogI w base lo g gl S sv) : w.cell? ⟨gl, 0, none⟩ = some (.pointer (some ⟨g, 0, none⟩)) ∧ w.cell? ⟨gl, 1, none⟩ = some (.int .i64 S.limit) ∧ w.cell? ⟨gl, 2, none⟩ = some sv ∧ w.cell? ⟨gl, 3, none⟩ = some (.int .i64 (S.fresh : Int)) ∧ w.cell? ⟨gl, 4, none⟩ = some (.bool S.isOpen) :=
  ⟨h.blk.cell 0, h.blk.cell 1, h.blk.cell 2, h.blk.cell 3, h.blk.cell 4⟩
theorem LogI.frozen {w : World} {base g gl : Nat} {lo : LOwn} {S : Lg} {sv : Value} (h : LogI w base lo g gl S sv) (i : Nat) : w.frozen? ⟨gl, i, none⟩ = false := h.blk.frozen i
/-- The row's form, its cells. -/
theorem LogI.form {w : World} {base g gl : Nat} {lo : LOwn} {S : Lg} {sv : Value} (h : LogI w base lo g gl S sv) : ∃ A c, sv = .slice A S.segs.length c ∧ S.segs.length ≤ c ∧ c ≤ 9223372036854775807 ∧ (∀ (i : Nat) (p : Nat × Nat), S.segs[i]? = some p → ∃ b, A = some ⟨b, 0, none⟩ ∧ lo b = some 2 ∧ w.cell? ⟨b, i * 2, none⟩ = some (.int .i64 (p.1 : Int)) ∧ w.cell? ⟨b, i * 2 + 1, none⟩ = some (.int .i64 (p.2 : Int))) := by
  rcases h.row.2 with ⟨h1, h0⟩ | ⟨q, cap, cur, h1, h2, h3, h4, h5, _⟩
  · refine ⟨none, 0, by rw [h1, h0], by omega, by omega, fun i p hp => ?_⟩
    have := (List.getElem?_eq_some_iff.1 hp).1
    omega
  · subst h1
    refine ⟨_, cap, rfl, h4, by unfold maxLen at h5; omega, fun i p hp => ⟨q, rfl, h.os q rfl, ?_, ?_⟩⟩
    · have hi := (List.getElem?_eq_some_iff.1 hp).1
      rw [h.row.cellAt (i * 2) (by omega)]
      exact (segV_get _ _ _ hp).1
    · have hi := (List.getElem?_eq_some_iff.1 hp).1
      rw [h.row.cellAt (i * 2 + 1) (by omega)]
      exact (segV_get _ _ _ hp).2
end Go.Proofs.YtfneloobfidckaaGreatDoor

/- Contracts: a log's small calls: works, last, Next, Fresh. It proves no statement. -/


namespace Go.Proofs.YtfneloobfidckaaGreatDoor
open Go.RowKit Go.Maps Go.WideMaps Go.Sort
set_option linter.unusedVariables false
set_option linter.unusedSimpArgs false

section
variable {w : World} {base g gl : Nat} {lo : LOwn} {S : Lg} {sv : Value}
theorem lworks_any (h : LogI w base lo g gl S sv) : Calls Tryz.prog 80 #[.pointer (some ⟨gl, 0, none⟩)] w fun e w' => e = .returned (.bool true) ∧ w' = w := by
  have c0 := h.cells.1
  clear h
  go_enter Tryz.func80, Tryz.ntmps80
  go_wp2_with fail
  go_ret
  exact ⟨rfl, rfl⟩
theorem llast_any (h : LogI w base lo g gl S sv) {m : Nat} (hm : S.segs.length = m + 1) (hok : S.segs.length ≤ 1048576) : Calls Tryz.prog 83 #[.pointer (some ⟨gl, 0, none⟩)] w fun e w' => e = .returned (.int .i64 (m : Int)) ∧ w' = w := by
  obtain ⟨A, c, rfl, _, _, _⟩ := h.form
  have c2 := h.cells.2.2.1
  rw [hm] at c2 hok
  have e1 : ((m + 1 : Nat) : Int) - 1 = (m : Int) := by omega
  have e2 : wrap64 (m : Int) = (m : Int) := by unfold wrap64; omega
  clear h hm hok
  go_enter Tryz.func83, Tryz.ntmps83
  go_wp2_with fail
  go_ret
  exact ⟨by simp [e2], rfl⟩
/-- The number behind the last segment's. -/
def nextL (S : Lg) : Nat := match S.segs.getLast? with | none => 0 | some p => p.1 + 1
theorem nextL_nil (h : S.segs.length = 0) : nextL S = 0 := by
  unfold nextL
  rw [List.length_eq_zero_iff.1 h]
  rfl
theorem nextL_last {m : Nat} {p : Nat × Nat} (hm : S.segs.length = m + 1) (hp : S.segs[m]? = some p) : nextL S = p.1 + 1 := by
  unfold nextL
  rw [List.getLast?_eq_getElem?, hm, show m + 1 - 1 = m by omega, hp]
theorem next_any (h : LogI w base lo g gl S sv) (hok : S.ok) : Calls Tryz.prog 113 #[.pointer (some ⟨gl, 0, none⟩)] w fun e w' => e = .returned (.int .i64 (nextL S : Int)) ∧ ∃ m, w' = w.drewN m := by
  have WK := Lib.hid (lworks_any h)
  obtain ⟨A, c, hsv, hc1, hc2, hcl⟩ := h.form
  have c2 := h.cells.2.2.1
  rw [hsv] at c2
  rcases Nat.eq_zero_or_pos S.segs.length with h0 | h0
  · rw [nextL_nil h0]
    rw [h0] at c2
    clear h hok hcl h0 hsv
    go_enter Tryz.func113, Tryz.ntmps113
    go_wp2_with fail
    refine WK.out.mono ?_
    rintro e w1 ⟨rfl, rfl⟩
    go_wp2_with fail
    go_ret
    exact ⟨rfl, 0, rfl⟩
  · obtain ⟨m, hm⟩ : ∃ m, S.segs.length = m + 1 := ⟨S.segs.length - 1, by omega⟩
    obtain ⟨p, hp⟩ : ∃ p, S.segs[m]? = some p := ⟨_, List.getElem?_eq_getElem (by omega)⟩
    have LA := Lib.hid (fun i => (show Calls Tryz.prog 83 #[.pointer (some ⟨gl, 0, none⟩)] (w.drewN i) fun e w' => e = .returned (.int .i64 (m : Int)) ∧ ∃ j, w' = (w.drewN i).drewN j from (llast_any (h.keep (Chg.of_still (still_drewN (Still.refl w) i) (fun _ => False)) (fun _ h => h.elim)) hm hok.few).mono fun e w' ⟨he, hw⟩ => ⟨he, 0, hw⟩))
    obtain ⟨b, hA, _, d1, d2⟩ := hcl m p hp
    rw [nextL_last hm hp]
    have hp1 := (hok.num p (List.mem_of_getElem? hp)).1
    rw [hm] at c2 hc1
    subst hA
    obtain ⟨q, hq⟩ : ∃ q, q = p.1 := ⟨_, rfl⟩
    obtain ⟨q1, hq1⟩ : ∃ q1, q1 = p.1 + 1 := ⟨_, rfl⟩
    rw [← hq1]
    rw [← hq] at d1
    have e1 : (q : Int) + 1 = (q1 : Int) := by omega
    have e2 : wrap64 (q1 : Int) = (q1 : Int) := by unfold wrap64; omega
    have e3 : (((m + 1 : Nat) : Int) == 0) = false := by rw [beq_eq_false_iff_ne]; omega
    have z1 : (0 : Int) ≤ (m : Int) := by omega
    have z2 : (m : Int) < ((m + 1 : Nat) : Int) := by omega
    clear h hok hcl h0 hsv hp hm hq hq1 hp1 d2 hc1 hc2
    go_enter Tryz.func113, Tryz.ntmps113
    go_wp2_with fail
    refine WK.out.mono ?_
    rintro e w1 ⟨rfl, rfl⟩
    go_wp2_with fail
    go_quiet ((go_at_call 83; exact Calls.quiet_of (LA.out _)))
    go_wp2_with fail
    go_ret
    exact ⟨by simp [e2], nq, rfl⟩
end
end Go.Proofs.YtfneloobfidckaaGreatDoor

/- Rows of segments, the program's and the document's: '[]T{x}', 'append(row, x)'. It proves no statement. -/





namespace Go.Proofs.YtfneloobfidckaaGreatDoor
open Go.RowKit
set_option linter.unusedVariables false
set_option linter.unusedSimpArgs false

theorem Tryz.infoSg : (Tryz.prog.info? 160).map (fun i => (i.zero, i.size, i.bytes)) = some (some (.agg #[.int .i64 0, .int .i64 0]), 2, 16) := by kernel_rfl
set_option maxRecDepth 100000 in
theorem fill_Sg (p : Int) (q : Int) : Instr.fill (fun i => some (i * 2, 2)) ((Array.range (1 * 2)).map ((Value.agg #[.int .i64 0, .int .i64 0]).cells[· % (Value.agg #[.int .i64 0, .int .i64 0]).cells.size]!)) [(0, .agg #[.int .i64 p, .int .i64 q])] = some #[.int .i64 p, .int .i64 q] := by kernel_rfl
theorem step_boxSg (w : World) {o : Oper} {a : Act} {K' : Act → World → Prop} {Q : Exit → Act → World → Prop} (x : Operand)
    (ho : o.op = .buildSlice 154 1 #[(0, x)]) (p : Int) (q : Int) (hx : a.eval x = .agg #[.int .i64 p, .int .i64 q])
    (h : K' (a.put o.dst (.slice (some ⟨w.heap.size, 0, none⟩) 1 1)) (w.alloc (.cells #[.int .i64 p, .int .i64 q] 160))) : o.wp Tryz.prog a w K' Q := by
  obtain ⟨i0, hi, hz0, hz1, hz2⟩ := info_parts Tryz.infoSg
  refine wp_buildSlice 154 160 1 #[(0, x)] ho #[.int .i64 p, .int .i64 q] i0 _ Tryz.underlying154 hi hz0 (by rw [hz1]; decide) (by rw [hz1]; decide) ?_ h
  rw [hz1]
  simp only [List.map_toArray, List.map_cons, List.map_nil, hx]
  exact fill_Sg p q
theorem wpList_boxSg (w : World) {ops : Array Oper} {rest : List Oper} {o : Oper} {a : Act} {Q : Exit → Act → World → Prop} (hgd : o.guard = none) (x : Operand)
    (ho : o.op = .buildSlice 154 1 #[(0, x)]) (p : Int) (q : Int) (hx : a.eval x = .agg #[.int .i64 p, .int .i64 q])
    (h : wpList Tryz.prog ops Q rest (a.put o.dst (.slice (some ⟨w.heap.size, 0, none⟩) 1 1)) (w.alloc (.cells #[.int .i64 p, .int .i64 q] 160))) : wpList Tryz.prog ops Q (o :: rest) a w :=
  wpList_plain hgd fun _ hQ => step_boxSg w x ho p q hx (hQ _ _ h)
theorem step_pushSg (w : World) {o : Oper} {a : Act} {K : Act → World → Prop} {Q : Exit → Act → World → Prop} (s x : Operand)
    (ho : o.op = .call { callee := .builtin .append, args := #[s, x], argTypes := #[154, 154] })
    (base : Nat) (v : Value) (n : Nat) (xs : List Value) (hs : a.eval s = v) (hown : w.ownsRow base 160 2 v n xs) (gb : Nat) (cs : List Value)
    (hx : a.eval x = .slice (some ⟨gb, 0, none⟩) 1 1) (hc : ∀ q u, cs[q]? = some u → w.cell? ⟨gb, q, none⟩ = some u) (hc6 : cs.length = 2) (h1 : ∀ u ∈ cs, u.oneCell' = true) (hn : n ≤ 1048576) (hbase : base ≤ w.heap.size)
    (h : ∀ v' w', w'.ownsRow base 160 2 v' (n + 1) (xs ++ cs) → w.grownBy w' v.ownBlock → (v'.ownBlock = v.ownBlock ∨ v'.ownBlock = some w.heap.size) → K (a.put o.dst v') w') :
    o.wp Tryz.prog a w K Q := by
  obtain ⟨i0, hi, hz0, hz1, hz2⟩ := info_parts Tryz.infoSg
  obtain ⟨v', w', hrun, h2, h3, _, h5⟩ := run_append_own_at (P := Tryz.prog) w base 154 o.type 160 i0 _ 2 16 Tryz.underlying154 hi hz0 hz1 hz2 rfl (by decide) v n xs hown ⟨gb, 0, none⟩ 1 1 cs (by rw [hc6]) (fun j u hu => by
    rw [Addr.add_mid, Nat.zero_add]; exact hc j u hu) h1 (by unfold maxLen; omega) (by omega) hbase
  unfold Oper.wp execOp
  simp only [ho, resolve, invoke, builtin, Sem.run_bind, Sem.run_pure, Result.andThen_ok, List.map_toArray, List.map_cons, List.map_nil, hs, hx, hrun]
  exact h v' w' h2 h3 h5
theorem wpList_pushSg (w : World) {ops : Array Oper} {rest : List Oper} {o : Oper} {a : Act} {Q : Exit → Act → World → Prop} (hgd : o.guard = none) (s x : Operand)
    (ho : o.op = .call { callee := .builtin .append, args := #[s, x], argTypes := #[154, 154] })
    (base : Nat) (v : Value) (n : Nat) (xs : List Value) (hs : a.eval s = v) (hown : w.ownsRow base 160 2 v n xs) (gb : Nat) (cs : List Value)
    (hx : a.eval x = .slice (some ⟨gb, 0, none⟩) 1 1) (hc : ∀ q u, cs[q]? = some u → w.cell? ⟨gb, q, none⟩ = some u) (hc6 : cs.length = 2) (h1 : ∀ u ∈ cs, u.oneCell' = true) (hn : n ≤ 1048576) (hbase : base ≤ w.heap.size)
    (h : ∀ v' w', w'.ownsRow base 160 2 v' (n + 1) (xs ++ cs) → w.grownBy w' v.ownBlock → (v'.ownBlock = v.ownBlock ∨ v'.ownBlock = some w.heap.size) → wpList Tryz.prog ops Q rest (a.put o.dst v') w') :
    wpList Tryz.prog ops Q (o :: rest) a w :=
  wpList_plain hgd fun _ hQ => step_pushSg w s x ho base v n xs hs hown gb cs hx hc hc6 h1 hn hbase fun v' w' h2 h3 h5 => hQ _ _ (h v' w' h2 h3 h5)

theorem Tryz.infoRs : (Tryz.prog.info? 108).map (fun i => (i.zero, i.size, i.bytes)) = some (some (.agg #[.int .i64 0, .int .i64 0]), 2, 16) := by kernel_rfl
set_option maxRecDepth 100000 in
theorem fill_Rs (p : Int) (q : Int) : Instr.fill (fun i => some (i * 2, 2)) ((Array.range (1 * 2)).map ((Value.agg #[.int .i64 0, .int .i64 0]).cells[· % (Value.agg #[.int .i64 0, .int .i64 0]).cells.size]!)) [(0, .agg #[.int .i64 p, .int .i64 q])] = some #[.int .i64 p, .int .i64 q] := by kernel_rfl
theorem step_boxRs (w : World) {o : Oper} {a : Act} {K' : Act → World → Prop} {Q : Exit → Act → World → Prop} (x : Operand)
    (ho : o.op = .buildSlice 109 1 #[(0, x)]) (p : Int) (q : Int) (hx : a.eval x = .agg #[.int .i64 p, .int .i64 q])
    (h : K' (a.put o.dst (.slice (some ⟨w.heap.size, 0, none⟩) 1 1)) (w.alloc (.cells #[.int .i64 p, .int .i64 q] 108))) : o.wp Tryz.prog a w K' Q := by
  obtain ⟨i0, hi, hz0, hz1, hz2⟩ := info_parts Tryz.infoRs
  refine wp_buildSlice 109 108 1 #[(0, x)] ho #[.int .i64 p, .int .i64 q] i0 _ Tryz.underlying109 hi hz0 (by rw [hz1]; decide) (by rw [hz1]; decide) ?_ h
  rw [hz1]
  simp only [List.map_toArray, List.map_cons, List.map_nil, hx]
  exact fill_Rs p q
theorem wpList_boxRs (w : World) {ops : Array Oper} {rest : List Oper} {o : Oper} {a : Act} {Q : Exit → Act → World → Prop} (hgd : o.guard = none) (x : Operand)
    (ho : o.op = .buildSlice 109 1 #[(0, x)]) (p : Int) (q : Int) (hx : a.eval x = .agg #[.int .i64 p, .int .i64 q])
    (h : wpList Tryz.prog ops Q rest (a.put o.dst (.slice (some ⟨w.heap.size, 0, none⟩) 1 1)) (w.alloc (.cells #[.int .i64 p, .int .i64 q] 108))) : wpList Tryz.prog ops Q (o :: rest) a w :=
  wpList_plain hgd fun _ hQ => step_boxRs w x ho p q hx (hQ _ _ h)
theorem step_pushRs (w : World) {o : Oper} {a : Act} {K : Act → World → Prop} {Q : Exit → Act → World → Prop} (s x : Operand)
    (ho : o.op = .call { callee := .builtin .append, args := #[s, x], argTypes := #[109, 109] })
    (base : Nat) (v : Value) (n : Nat) (xs : List Value) (hs : a.eval s = v) (hown : w.ownsRow base 108 2 v n xs) (gb : Nat) (cs : List Value)
    (hx : a.eval x = .slice (some ⟨gb, 0, none⟩) 1 1) (hc : ∀ q u, cs[q]? = some u → w.cell? ⟨gb, q, none⟩ = some u) (hc6 : cs.length = 2) (h1 : ∀ u ∈ cs, u.oneCell' = true) (hn : n ≤ 1048576) (hbase : base ≤ w.heap.size)
    (h : ∀ v' w', w'.ownsRow base 108 2 v' (n + 1) (xs ++ cs) → w.grownBy w' v.ownBlock → (v'.ownBlock = v.ownBlock ∨ v'.ownBlock = some w.heap.size) → K (a.put o.dst v') w') :
    o.wp Tryz.prog a w K Q := by
  obtain ⟨i0, hi, hz0, hz1, hz2⟩ := info_parts Tryz.infoRs
  obtain ⟨v', w', hrun, h2, h3, _, h5⟩ := run_append_own_at (P := Tryz.prog) w base 109 o.type 108 i0 _ 2 16 Tryz.underlying109 hi hz0 hz1 hz2 rfl (by decide) v n xs hown ⟨gb, 0, none⟩ 1 1 cs (by rw [hc6]) (fun j u hu => by
    rw [Addr.add_mid, Nat.zero_add]; exact hc j u hu) h1 (by unfold maxLen; omega) (by omega) hbase
  unfold Oper.wp execOp
  simp only [ho, resolve, invoke, builtin, Sem.run_bind, Sem.run_pure, Result.andThen_ok, List.map_toArray, List.map_cons, List.map_nil, hs, hx, hrun]
  exact h v' w' h2 h3 h5
theorem wpList_pushRs (w : World) {ops : Array Oper} {rest : List Oper} {o : Oper} {a : Act} {Q : Exit → Act → World → Prop} (hgd : o.guard = none) (s x : Operand)
    (ho : o.op = .call { callee := .builtin .append, args := #[s, x], argTypes := #[109, 109] })
    (base : Nat) (v : Value) (n : Nat) (xs : List Value) (hs : a.eval s = v) (hown : w.ownsRow base 108 2 v n xs) (gb : Nat) (cs : List Value)
    (hx : a.eval x = .slice (some ⟨gb, 0, none⟩) 1 1) (hc : ∀ q u, cs[q]? = some u → w.cell? ⟨gb, q, none⟩ = some u) (hc6 : cs.length = 2) (h1 : ∀ u ∈ cs, u.oneCell' = true) (hn : n ≤ 1048576) (hbase : base ≤ w.heap.size)
    (h : ∀ v' w', w'.ownsRow base 108 2 v' (n + 1) (xs ++ cs) → w.grownBy w' v.ownBlock → (v'.ownBlock = v.ownBlock ∨ v'.ownBlock = some w.heap.size) → wpList Tryz.prog ops Q rest (a.put o.dst v') w') :
    wpList Tryz.prog ops Q (o :: rest) a w :=
  wpList_plain hgd fun _ hQ => step_pushRs w s x ho base v n xs hs hown gb cs hx hc hc6 h1 hn hbase fun v' w' h2 h3 h5 => hQ _ _ (h v' w' h2 h3 h5)
end Go.Proofs.YtfneloobfidckaaGreatDoor

/- A log whose own cells have turned. It proves no statement. -/


namespace Go.Proofs.YtfneloobfidckaaGreatDoor
open Go.RowKit Go.Maps Go.WideMaps Go.Sort
set_option linter.unusedVariables false
set_option linter.unusedSimpArgs false

section
variable {w w' : World} {base g gl : Nat} {own : Own} {lo : LOwn} {M : Me} {S S' : Lg} {sv sv' : Value}
theorem LM.turn2 (h : LM w base g gl own lo M S) (hl : LogI w base lo g gl S sv) (c : Chg w w' (fun b => b = gl ∨ sv.ownBlock = some b)) (hb : Blk w' gl 156 (logC g S' sv')) (hr : w'.ownsRow base 160 2 sv' S'.segs.length (segV S'.segs)) (hv : sv'.ownBlock = sv.ownBlock ∨ ∃ j, sv'.ownBlock = some j ∧ w.heap.size ≤ j) :
    ∃ lo' : LOwn, (∀ b, b < w.heap.size → lo' b = lo b) ∧ LM w' base g gl own lo' M S' := by
  have hS : ∀ b, (b = gl ∨ sv.ownBlock = some b) → lo b ≠ none := by
    rintro b (rfl | hb)
    · rw [hl.ol]; simp
    · rw [hl.os b hb]; simp
  have hv2 : ∀ b, sv'.ownBlock = some b → lo b = some 2 ∨ w.heap.size ≤ b := fun b e => by
    rcases hv with hv | ⟨j, hv, hj⟩
    · rw [hv] at e; exact .inl (hl.os b e)
    · rw [hv] at e; injection e with e; exact .inr (by omega)
  refine ⟨fun b => if sv'.ownBlock = some b then some 2 else lo b, fun b hb => ?_, h.med.keep c (fun b hb => h.ap2 b (hS b hb)), ⟨sv', hb, hr, ?_, fun b e => if_pos e, fun b hb => ?_⟩, fun b hb => ?_⟩
  · show (if sv'.ownBlock = some b then some 2 else lo b) = lo b
    split
    · rename_i e
      rcases hv2 b e with h1 | h1
      · exact h1.symm
      · omega
    · rfl
  · show (if sv'.ownBlock = some gl then some 2 else lo gl) = some 1
    rw [if_neg (own_neM hb hr (by decide)), hl.ol]
  · change (if sv'.ownBlock = some b then some 2 else lo b) ≠ none at hb
    split at hb
    · rename_i e; exact hr.lt b e
    · exact ⟨(hl.dom b hb).1, Nat.lt_of_lt_of_le (hl.dom b hb).2 c.size⟩
  · show (if sv'.ownBlock = some b then some 2 else lo b) = none
    have hlb := h.ap b hb
    rw [if_neg, hlb]
    intro e
    rcases hv2 b e with h1 | h1
    · rw [hlb] at h1; cases h1
    · have := (h.med.dom b hb).2; omega
theorem LM.turn (h : LM w base g gl own lo M S) (hl : LogI w base lo g gl S sv) (c : Chg w w' (fun b => b = gl ∨ sv.ownBlock = some b)) (hb : Blk w' gl 156 (logC g S' sv')) (hr : w'.ownsRow base 160 2 sv' S'.segs.length (segV S'.segs)) (hv : sv'.ownBlock = sv.ownBlock ∨ ∃ j, sv'.ownBlock = some j ∧ w.heap.size ≤ j) : LLeft w w' base g gl own lo M S' := by
  obtain ⟨lo', h1, h2⟩ := h.turn2 hl c hb hr hv
  refine ⟨c.mono (fun b _ hb => .inr ?_), own, lo', fun b hb => ⟨rfl, h1 b hb⟩, h2⟩
  rcases hb with rfl | hb
  · rw [hl.ol]; simp
  · rw [hl.os b hb]; simp
end
/-- A new segment. -/
def Lg.grown (S : Lg) (p : Nat × Nat) : Lg := { S with segs := S.segs ++ [p], fresh := S.fresh + 1, isOpen := true }
theorem LM.pushed {w w4 : World} {base g gl : Nat} {own : Own} {lo : LOwn} {M : Me} {S : Lg} {sv v' : Value} {p : Nat × Nat} {o : Obj} (h : LM w base g gl own lo M S) (hl : LogI w base lo g gl S sv) (o4 : w4.ownsRow base 160 2 v' (S.segs.length + 1) (segV S.segs ++ [.int .i64 (p.1 : Int), .int .i64 (p.2 : Int)])) (g4 : (w.alloc o).grownBy w4 sv.ownBlock) (hv : v'.ownBlock = sv.ownBlock ∨ v'.ownBlock = some (w.alloc o).heap.size) :
    LLeft w (((w4.setCell ⟨gl, 2, none⟩ v').setCell ⟨gl, 4, none⟩ (.bool true)).setCell ⟨gl, 3, none⟩ (.int .i64 ((S.fresh + 1 : Nat) : Int))) base g gl own lo M (S.grown p) := by
  have c4 : Chg w w4 (fun b => b = gl ∨ sv.ownBlock = some b) := (Chg.of_still ((Still.refl w).alloc (Nat.le_refl _) o) (fun b => b = gl ∨ sv.ownBlock = some b)).trans (Chg.of_grown g4 (S := fun b => b = gl ∨ sv.ownBlock = some b) (fun k hk _ => .inr hk)) (fun b _ hb => hb)
  have hne : sv.ownBlock ≠ some gl := own_neM hl.blk hl.row (by decide)
  have b4 : Blk w4 gl 156 (logC g S sv) := by
    have ba : Blk (w.alloc o) gl 156 (logC g S sv) := hl.blk.alloc o
    exact (Chg.of_grown g4 (S := fun b => sv.ownBlock = some b) (fun k hk _ => hk)).blk ba hne
  have hn4 : v'.ownBlock ≠ some gl := own_neM b4 o4 (by decide)
  have cs : ∀ (W : World) (i : Nat) (u : Value), Chg W (W.setCell ⟨gl, i, none⟩ u) (fun b => b = gl ∨ sv.ownBlock = some b) := fun W i u => (chg_set W gl i u).mono (fun b _ hb => .inl hb)
  refine h.turn hl (((c4.trans (cs _ 2 v') (fun b _ hb => hb)).trans (cs _ 4 _) (fun b _ hb => hb)).trans (cs _ 3 _) (fun b _ hb => hb)) (sv' := v') ?_ ?_ ?_
  · have := ((b4.setc 2 v').setc 4 (.bool true)).setc 3 (.int .i64 ((S.fresh + 1 : Nat) : Int))
    exact this
  · have e : segV (S.grown p).segs = segV S.segs ++ [.int .i64 (p.1 : Int), .int .i64 (p.2 : Int)] := by
      show segV (S.segs ++ [p]) = _
      rw [segV_append, segV_one]
    have el : (S.grown p).segs.length = S.segs.length + 1 := by
      show (S.segs ++ [p]).length = _
      rw [List.length_append]
      rfl
    rw [e, el]
    have hk : ∀ W i u, Chg W (W.setCell ⟨gl, i, none⟩ u) (fun b => b = gl) := fun W i u => chg_set W gl i u
    exact (hk _ 3 _).own ((hk _ 4 _).own ((hk _ 2 _).own o4 (fun b hb e => hn4 (e ▸ hb))) (fun b hb e => hn4 (e ▸ hb))) (fun b hb e => hn4 (e ▸ hb))
  · rcases hv with hv | hv
    · exact .inl hv
    · exact .inr ⟨_, hv, by simp⟩
end Go.Proofs.YtfneloobfidckaaGreatDoor
