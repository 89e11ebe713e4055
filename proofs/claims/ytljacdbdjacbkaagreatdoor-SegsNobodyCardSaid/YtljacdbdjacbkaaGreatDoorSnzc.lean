/- Contracts and facts, several texts in one. It proves no statement. -/
import Derived.Test.YtljacdbdjacbkaaGreatDoorSnp
import Derived.Test.YtljacdbdjacbkaaGreatDoorSnq
import Derived.Test.YtljacdbdjacbkaaGreatDoorSnx
import Derived.Test.YtljacdbdjacbkaaGreatDoorSny
import Derived.Test.YtljacdbdjacbkaaGreatDoorSnzb

/- Contract: Size of a file that is there, and the way with an error. It proves no statement. -/


namespace Go.Proofs.YtljacdbdjacbkaaGreatDoor
open Go.RowKit Go.Maps Go.WideMaps
set_option linter.unusedVariables false
set_option linter.unusedSimpArgs false

theorem size_ok {w : World} {g : Nat} {room : Int} {bn bf : Nat} {wv : Value} {left : Int} (h : MedB w g room bn bf wv left false) (s : ByteArray) (hs : s.size ≤ maxLen) (n : Nat) (D : DataW Unit) (hown : NM w bn n D) (gf nf c : Nat) (A : Option Addr) (fv wtv : Value) (hlk : look D s = (gf : Int)) (hf : FileB w gf (.slice A nf c) fv wtv) :
    Calls Tryz.prog 58 #[.pointer (some ⟨g, 0, none⟩), .string s] w fun e w' => e = .returned (.tuple #[.int .i64 nf, .int .i64 0]) ∧ w = w' := by
  have FD := Lib.hid (find_yes h s n D hown hs)
  rw [hlk, show findV false (gf : Int) = pv (gf : Int) from rfl, pv_at, show findE false (gf : Int) = if (gf : Int) < 0 then 9 else 0 from rfl, if_neg (by omega)] at FD
  have c0 : w.cell? ⟨gf, 0, none⟩ = some (.slice A nf c) := Blk.cell hf 0
  clear h hown hs hlk hf
  go_enter Tryz.func58, Tryz.ntmps58
  go_wp2_with fail
  refine FD.out.mono ?_
  rintro e w2 ⟨rfl, rfl⟩
  go_wp2_with fail
  go_ret2
  exact ⟨rfl, rfl⟩

theorem size_err (P : Value) (s : ByteArray) (w : World) (E : Int) (b1 : (E != 0) = true) (h : Calls Tryz.prog 103 #[P, .string s] w fun e w' => e = .returned (.tuple #[.pointer none, .int .i64 E]) ∧ w = w') : Calls Tryz.prog 58 #[P, .string s] w fun e w' => e = .returned (.tuple #[.int .i64 0, .int .i64 E]) ∧ w = w' := by
  have HW := Lib.hid h
  clear h
  go_enter Tryz.func58, Tryz.ntmps58
  go_wp2_with fail
  refine HW.out.mono ?_
  rintro e w1 ⟨rfl, rfl⟩
  go_wp2_with fail
  go_ret2
  exact ⟨rfl, rfl⟩
end Go.Proofs.YtljacdbdjacbkaaGreatDoor

/- Contract: Size, whatever stands against it. It proves no statement. -/


namespace Go.Proofs.YtljacdbdjacbkaaGreatDoor
open Go.RowKit Go.Maps Go.WideMaps Go.Sort
set_option linter.unusedVariables false
set_option linter.unusedSimpArgs false

theorem size_M {w : World} {base g : Nat} {own : Own} {M : Me} (s : ByteArray) (h : MedI w base own g M) (hok : M.ok) (hs : s.size ≤ maxLen) :
    Calls Tryz.prog 58 #[.pointer (some ⟨g, 0, none⟩), .string s] w fun e w' => e = .returned (.tuple #[.int .i64 ((M.bytes s).1.length : Nat), .int .i64 (M.bytes s).2]) ∧ w = w' := by
  rcases find_M s h hok hs with ⟨E, hE, hEE, hf⟩ | ⟨gf, F, hE, hoff, hlk, hF, hf⟩
  · have e : M.bytes s = ([], E) := by unfold Me.bytes; rw [hE]
    rw [e]
    exact size_err _ s w E (err_ne hEE) hf
  · have e : M.bytes s = (F.now, 0) := by unfold Me.bytes; rw [hE]
    rw [e]
    obtain ⟨bn, bf, wv, ns, nn, nf, d1, d2, _⟩ := h.dir
    obtain ⟨q1, q2, q3, nv, fv, wtv, cs, f1, f2, _⟩ := h.files gf F hF
    obtain ⟨Anv, cnv, rfl, _, _, _⟩ := own_form f2
    rw [hoff] at d1
    exact size_ok d1 s hs nn _ d2 gf F.now.length cnv Anv fv wtv (look_found hlk) f1
end Go.Proofs.YtljacdbdjacbkaaGreatDoor

/- A log in memory beside its medium: whose block is whose; what stays when something turns. It proves no statement. -/




namespace Go.Proofs.YtljacdbdjacbkaaGreatDoor
open Go.RowKit Go.Maps Go.WideMaps Go.Sort
set_option linter.unusedVariables false
set_option linter.unusedSimpArgs false

/-- A log: its limit, its segments (number, size), how many are fresh, whether the last one is open. -/
structure Lg where
  limit : Int
  segs : List (Nat × Nat)
  fresh : Nat
  isOpen : Bool
def segV (X : List (Nat × Nat)) : List Value := X.flatMap fun p => [.int .i64 (p.1 : Int), .int .i64 (p.2 : Int)]
theorem segV_append (X Y : List (Nat × Nat)) : segV (X ++ Y) = segV X ++ segV Y := by simp [segV]
theorem segV_one (p : Nat × Nat) : segV [p] = [.int .i64 (p.1 : Int), .int .i64 (p.2 : Int)] := by simp [segV]
theorem segV_length (X : List (Nat × Nat)) : (segV X).length = X.length * 2 := by
  induction X with
  | nil => rfl
  | cons x r ih =>
    have : (segV (x :: r)).length = 2 + (segV r).length := by simp [segV]; omega
    rw [this, ih, List.length_cons]
    omega
theorem segV_get : ∀ (X : List (Nat × Nat)) (i : Nat) (p : Nat × Nat), X[i]? = some p → (segV X)[i * 2]? = some (.int .i64 (p.1 : Int)) ∧ (segV X)[i * 2 + 1]? = some (.int .i64 (p.2 : Int))
  | [], i, p, h => by simp at h
  | y :: r, 0, p, h => by
    simp only [List.getElem?_cons_zero, Option.some.injEq] at h
    subst h
    exact ⟨rfl, rfl⟩
  | y :: r, i + 1, p, h => by
    have ih := segV_get r i p (by simpa using h)
    have e : segV (y :: r) = .int .i64 (y.1 : Int) :: .int .i64 (y.2 : Int) :: segV r := by simp [segV]
    rw [e, show (i + 1) * 2 = i * 2 + 1 + 1 by omega, List.getElem?_cons_succ, List.getElem?_cons_succ, List.getElem?_cons_succ, List.getElem?_cons_succ]
    exact ih
/-- What holds of a log's own numbers. -/
structure Lg.ok (S : Lg) : Prop where
  lim : 128 ≤ S.limit ∧ S.limit ≤ 1048576
  num : ∀ p ∈ S.segs, p.1 < 1048576 ∧ p.2 ≤ 16777216
  rise : S.segs.Pairwise fun p q => p.1 < q.1
  few : S.segs.length ≤ 1048576
  fresh : S.fresh ≤ S.segs.length
  opn : S.isOpen = true → 0 < S.fresh
def logC (g : Nat) (S : Lg) (sv : Value) : Array Value := #[.pointer (some ⟨g, 0, none⟩), .int .i64 S.limit, sv, .int .i64 (S.fresh : Int), .bool S.isOpen]
/-- A log's blocks: 1: the log; 2: its row. -/
abbrev LOwn := Nat → Option Nat
structure LogI (w : World) (base : Nat) (lo : LOwn) (g gl : Nat) (S : Lg) (sv : Value) : Prop where
  blk : Blk w gl 101 (logC g S sv)
  row : w.ownsRow base 116 2 sv S.segs.length (segV S.segs)
  ol : lo gl = some 1
  os : ∀ b, sv.ownBlock = some b → lo b = some 2
  dom : ∀ b, lo b ≠ none → base ≤ b ∧ b < w.heap.size
theorem LogI.keep {w w' : World} {base g gl : Nat} {lo : LOwn} {S : Lg} {sv : Value} {T : Nat → Prop} (h : LogI w base lo g gl S sv) (c : Chg w w' T) (hT : ∀ b, T b → lo b = none) : LogI w' base lo g gl S sv where
  blk := c.blk h.blk (fun ht => by have := hT _ ht; rw [h.ol] at this; cases this)
  row := c.own h.row (fun b hb ht => by have := hT _ ht; rw [h.os b hb] at this; cases this)
  ol := h.ol
  os := h.os
  dom := fun b hb => ⟨(h.dom b hb).1, Nat.lt_of_lt_of_le (h.dom b hb).2 c.size⟩
/-- A log and its medium. -/
structure LM (w : World) (base g gl : Nat) (own : Own) (lo : LOwn) (M : Me) (S : Lg) : Prop where
  med : MedI w base own g M
  log : ∃ sv, LogI w base lo g gl S sv
  ap : ∀ b, own b ≠ none → lo b = none
theorem LM.ap2 {w : World} {base g gl : Nat} {own : Own} {lo : LOwn} {M : Me} {S : Lg} (h : LM w base g gl own lo M S) : ∀ b, lo b ≠ none → own b = none := by
  intro b hb
  cases hq : own b with
  | none => rfl
  | some q => exact absurd (h.ap b (by rw [hq]; simp)) hb
theorem LM.keep {w w' : World} {base g gl : Nat} {own : Own} {lo : LOwn} {M : Me} {S : Lg} {T : Nat → Prop} (h : LM w base g gl own lo M S) (c : Chg w w' T) (hT : ∀ b, T b → own b = none ∧ lo b = none) : LM w' base g gl own lo M S := by
  obtain ⟨sv, hl⟩ := h.log
  exact ⟨h.med.keep c (fun b hb => (hT b hb).1), ⟨sv, hl.keep c (fun b hb => (hT b hb).2)⟩, h.ap⟩
theorem LM.still {w w' : World} {base g gl : Nat} {own : Own} {lo : LOwn} {M : Me} {S : Lg} (h : LM w base g gl own lo M S) (s : Still w w') : LM w' base g gl own lo M S := h.keep (Chg.of_still s (fun _ => False)) (fun _ h => h.elim)
/-- What a log's call leaves. -/
def LLeft (w w' : World) (base g gl : Nat) (own : Own) (lo : LOwn) (M' : Me) (S' : Lg) : Prop :=
  Chg w w' (fun b => own b ≠ none ∨ lo b ≠ none) ∧ ∃ (own' : Own) (lo' : LOwn), (∀ b, b < w.heap.size → own' b = own b ∧ lo' b = lo b) ∧ LM w' base g gl own' lo' M' S'
theorem LLeft.still {w w' : World} {base g gl : Nat} {own : Own} {lo : LOwn} {M : Me} {S : Lg} (h : LM w base g gl own lo M S) (s : Still w w') : LLeft w w' base g gl own lo M S := ⟨Chg.of_still s _, own, lo, fun _ _ => ⟨rfl, rfl⟩, h.still s⟩
theorem LLeft.same {w : World} {base g gl : Nat} {own : Own} {lo : LOwn} {M : Me} {S : Lg} (h : LM w base g gl own lo M S) : LLeft w w base g gl own lo M S := LLeft.still h (Still.refl w)
/-- A medium's call. -/
theorem LLeft.med {w w' : World} {base g gl : Nat} {own : Own} {lo : LOwn} {M M' : Me} {S : Lg} (h : LM w base g gl own lo M S) (hl : Left w w' base g own M') : LLeft w w' base g gl own lo M' S := by
  obtain ⟨c, own', ho, m⟩ := hl
  obtain ⟨sv, l⟩ := h.log
  refine ⟨c.mono (fun b _ hb => .inl hb), own', lo, fun b hb => ⟨ho b hb, rfl⟩, m, ⟨sv, l.keep c (fun b hb => h.ap b hb)⟩, fun b hb => ?_⟩
  by_cases hlt : b < w.heap.size
  · rw [ho b hlt] at hb
    exact h.ap b hb
  · cases hq : lo b with
    | none => rfl
    | some q => exact absurd (l.dom b (by rw [hq]; simp)).2 hlt
theorem LLeft.trans {w w1 w2 : World} {base g gl : Nat} {own : Own} {lo : LOwn} {M1 M2 : Me} {S1 S2 : Lg} (h : LLeft w w1 base g gl own lo M1 S1) (k : ∀ own1 lo1, (∀ b, b < w.heap.size → own1 b = own b ∧ lo1 b = lo b) → LM w1 base g gl own1 lo1 M1 S1 → LLeft w1 w2 base g gl own1 lo1 M2 S2) : LLeft w w2 base g gl own lo M2 S2 := by
  obtain ⟨c, own1, lo1, ho, m⟩ := h
  obtain ⟨c2, own2, lo2, ho2, m2⟩ := k own1 lo1 ho m
  exact ⟨c.trans c2 (fun b hb hs => by rw [← (ho b hb).1, ← (ho b hb).2]; exact hs), own2, lo2, fun b hb => ⟨(ho2 b (Nat.lt_of_lt_of_le hb c.size)).1.trans (ho b hb).1, (ho2 b (Nat.lt_of_lt_of_le hb c.size)).2.trans (ho b hb).2⟩, m2⟩
/-- A log's cells. -/
theorem LogI.cells {w : World} {base g gl : Nat} {lo : LOwn} {S : Lg} {sv : Value} (h : LogI w base lo g gl S sv) : w.cell? ⟨gl, 0, none⟩ = some (.pointer (some ⟨g, 0, none⟩)) ∧ w.cell? ⟨gl, 1, none⟩ = some (.int .i64 S.limit) ∧ w.cell? ⟨gl, 2, none⟩ = some sv ∧ w.cell? ⟨gl, 3, none⟩ = some (.int .i64 (S.fresh : Int)) ∧ w.cell? ⟨gl, 4, none⟩ = some (.bool S.isOpen) :=
  ⟨h.blk.cell 0, h.blk.cell 1, h.blk.cell 2, h.blk.cell 3, h.blk.cell 4⟩
theorem LogI.frozen {w : World} {base g gl : Nat} {lo : LOwn} {S : Lg} {sv : Value} (h : LogI w base lo g gl S sv) (i : Nat) : w.frozen? ⟨gl, i, none⟩ = false := h.blk.frozen i
/-- The row's form, its cells. -/
theorem LogI.form {w : World} {base g gl : Nat} {lo : LOwn} {S : Lg} {sv : Value} (h : LogI w base lo g gl S sv) : ∃ A c, sv = .slice A S.segs.length c ∧ S.segs.length ≤ c ∧ c ≤ 9223372036854775807 ∧ (∀ (i : Nat) (p : Nat × Nat), S.segs[i]? = some p → ∃ b, A = some ⟨b, 0, none⟩ ∧ lo b = some 2 ∧ w.cell? ⟨b, i * 2, none⟩ = some (.int .i64 (p.1 : Int)) ∧ w.cell? ⟨b, i * 2 + 1, none⟩ = some (.int .i64 (p.2 : Int))) := by
  rcases h.row.2 with ⟨h1, h0⟩ | ⟨q, cap, cur, h1, h2, h3, h4, h5, _⟩
  · refine ⟨none, 0, by rw [h1, h0], by omega, by omega, fun i p hp => ?_⟩
    have := (List.getElem?_eq_some_iff.1 hp).1
    omega
  · subst h1
    refine ⟨_, cap, rfl, h4, by unfold maxLen at h5; omega, fun i p hp => ⟨q, rfl, h.os q rfl, ?_, ?_⟩⟩
    · have hi := (List.getElem?_eq_some_iff.1 hp).1
      rw [h.row.cellAt (i * 2) (by omega)]
      exact (segV_get _ _ _ hp).1
    · have hi := (List.getElem?_eq_some_iff.1 hp).1
      rw [h.row.cellAt (i * 2 + 1) (by omega)]
      exact (segV_get _ _ _ hp).2
end Go.Proofs.YtljacdbdjacbkaaGreatDoor
