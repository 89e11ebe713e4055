/- The law's own 'does' on a medium's state, whatever the call. It proves no statement. -/
import Derived.Test.YtlkkkifilgnhmaaMdOps8
import Derived.Test.YtlkkkifilgnhmaaMdDoesM
namespace Go.Proofs.Ytlkkkifilgnhmaa
open Go.RowKit Go.Maps Go.WideMaps Go.Sort
set_option linter.unusedVariables false
set_option linter.unusedSimpArgs false

/-- A call. -/
structure Call where
  k : Int
  s : ByteArray
  t : ByteArray
  nn : Int
  mm : Int
  b : List UInt8
  l : List Int
/-- A call in memory, its rows in blocks of B. -/
def DoAt (w : World) (B : Nat → Prop) (v : Value) (x : Call) : Prop := ∃ A m c A2 n2 c2, v = .agg #[.int .i64 x.k, .string x.s, .string x.t, .int .i64 x.nn, .int .i64 x.mm, .slice A m c, .slice A2 n2 c2] ∧ Reads w w.heap.size A m x.b ∧ (∀ ad, A = some ad → 0 < m → B ad.block) ∧ m ≤ 100 ∧ (A = none → m = 0 ∧ c = 0) ∧ ReadsI w B A2 n2 x.l ∧ n2 ≤ c2 ∧ c2 ≤ 9223372036854775807 ∧ x.s.size ≤ maxLen ∧ x.t.size ≤ maxLen ∧ x.nn ≤ 9223372036854775807
theorem DoAt.keep {w w' : World} {B : Nat → Prop} {v : Value} {x : Call} {S : Nat → Prop} (h : DoAt w B v x) (c : Chg w w' S) (hS : ∀ b, B b → ¬ S b) : DoAt w' B v x := by
  obtain ⟨A, m, cc, A2, n2, c2, h1, h2, h3, h4, h5, h6, h7, h8, h9, h10, h11⟩ := h
  refine ⟨A, m, cc, A2, n2, c2, h1, ⟨h2.1, fun hn => ?_⟩, h3, h4, h5, h6.chg c hS, h7, h8, h9, h10, h11⟩
  obtain ⟨bb, o, e, hlt, hc⟩ := h2.2 hn
  exact ⟨bb, o, e, Nat.lt_of_lt_of_le hlt c.size, fun i hi => (World.cell?_of_block (w := w) (c.block bb hlt (hS bb (h3 _ e hn)))).trans (hc i hi)⟩
theorem Left.of_still {w W w' : World} {base g : Nat} {own : Own} {M' : Me} (s : Still w W) (h : Left W w' base g own M') : Left w w' base g own M' := by
  obtain ⟨c, own', ho, m⟩ := h
  exact ⟨(Chg.of_still s _).trans c (fun _ _ h => h), own', fun b hb => ho b (Nat.lt_of_lt_of_le hb s.size), m⟩
theorem Left.spoil {w W w1 w' : World} {base g : Nat} {own : Own} {M' : Me} (s : Still w W) (hd : ∀ b, own b ≠ none → b < w.heap.size) (h : Left W w1 base g own M') (c2 : Chg w1 w' (fun b => w.heap.size ≤ b ∧ b < W.heap.size)) : Left w w' base g own M' := by
  obtain ⟨c, own', ho, m⟩ := h
  refine ⟨((Chg.of_still s _).trans c (fun _ _ h => h)).trans c2 (fun b hb h => by omega), own', fun b hb => ho b (Nat.lt_of_lt_of_le hb s.size), m.keep c2 (fun b hb => ?_)⟩
  rw [ho b hb.2]
  cases hq : own b with
  | none => rfl
  | some q => have := hd b (by rw [hq]; simp); omega
def stepM (M : Me) (x : Call) (gf : Nat) (o : Option Nat) : (List UInt8 × Int × Bool) × Me :=
  if x.k = 0 then (([], (opCreate M x.s gf).1, false), (opCreate M x.s gf).2)
  else if x.k = 1 then (([], (opAppend M x.s x.b).1, false), (opAppend M x.s x.b).2)
  else if x.k = 2 then (([], (opTruncate M x.s x.nn).1, false), (opTruncate M x.s x.nn).2)
  else if x.k = 3 then (([], (opRename M x.s x.t).1, false), (opRename M x.s x.t).2)
  else if x.k = 4 then (([], (opRemove M x.s).1, false), (opRemove M x.s).2)
  else if x.k = 5 then (([], (opSync M x.s).1, false), (opSync M x.s).2)
  else if x.k = 6 then (([], (opSyncDir M).1, false), (opSyncDir M).2)
  else if x.k = 7 then (([], (opArm M x.nn).1, false), (opArm M x.nn).2)
  else if x.k = 8 then (([], 0, false), M.crash x.l)
  else if x.k = 9 then (([], (opSetRoom M x.nn).1, false), (opSetRoom M x.nn).2)
  else if x.k = 10 then (([], 0, (M.rotted x.s x.nn (IntKind.u8.wrap x.mm).toNat o).1), (M.rotted x.s x.nn (IntKind.u8.wrap x.mm).toNat o).2)
  else (((opRead M x.s x.nn x.mm).1, (opRead M x.s x.nn x.mm).2, false), M)
theorem stepM_good {M : Me} {k : Nat} (h : M.good k) (x : Call) (hx : x.nn ≤ 9223372036854775807) (gf : Nat) (o : Option Nat) : (stepM M x gf o).2.good (k + 1) := by
  unfold stepM
  by_cases e0 : x.k = 0
  · rw [if_pos e0]; exact opCreate_good h _ _
  rw [if_neg e0]
  by_cases e1 : x.k = 1
  · rw [if_pos e1]; exact opAppend_good h _ _
  rw [if_neg e1]
  by_cases e2 : x.k = 2
  · rw [if_pos e2]; exact opTruncate_good h _ _
  rw [if_neg e2]
  by_cases e3 : x.k = 3
  · rw [if_pos e3]; exact opRename_good h _ _
  rw [if_neg e3]
  by_cases e4 : x.k = 4
  · rw [if_pos e4]; exact opRemove_good h _
  rw [if_neg e4]
  by_cases e5 : x.k = 5
  · rw [if_pos e5]; exact opSync_good h _
  rw [if_neg e5]
  by_cases e6 : x.k = 6
  · rw [if_pos e6]; exact opSyncDir_good h
  rw [if_neg e6]
  by_cases e7 : x.k = 7
  · rw [if_pos e7]; exact opArm_good h _ hx
  rw [if_neg e7]
  by_cases e8 : x.k = 8
  · rw [if_pos e8]; exact crash_good h _
  rw [if_neg e8]
  by_cases e9 : x.k = 9
  · rw [if_pos e9]; exact opSetRoom_good h _
  rw [if_neg e9]
  by_cases e10 : x.k = 10
  · rw [if_pos e10]; exact rotted_good h _ _ _ _
  rw [if_neg e10]
  exact h.mono (by omega)
/-- What a call answers and leaves. -/
def Done (w w' : World) (base g : Nat) (own : Own) (e : Ending) (r : (List UInt8 × Int × Bool) × Me) : Prop := (∃ (q : Nat) (Av : Option Addr) (cv : Nat), e = .returned (.tuple #[.slice Av q cv, .int .i64 r.1.2.1, .bool r.1.2.2]) ∧ w'.ownsRow w.heap.size 5 1 (.slice Av q cv) q (bytesV r.1.1)) ∧ Left w w' base g own r.2
theorem Done.nil {w w' : World} {base g : Nat} {own : Own} {e : Ending} {E : Int} {b : Bool} {M' : Me} (he : e = .returned (.tuple #[.slice none 0 0, .int .i64 E, .bool b])) (h : Left w w' base g own M') : Done w w' base g own e (([], E, b), M') := ⟨⟨0, none, 0, he, World.ownsRow_nil _ _ _ _⟩, h⟩
theorem u8_wrap (x : Int) : ∃ m : Nat, m < 256 ∧ IntKind.u8.wrap x = (m : Int) := by
  have h : 0 ≤ IntKind.u8.wrap x ∧ IntKind.u8.wrap x < 256 := by
    unfold IntKind.wrap
    simp [IntKind.bits, IntKind.signed]
    omega
  exact ⟨(IntKind.u8.wrap x).toNat, by omega, by omega⟩
theorem does_M {w : World} {base g k : Nat} {own : Own} {M : Me} {B : Nat → Prop} {v : Value} {x : Call} (h : MedI w base own g M) (hg : M.good k) (hk : k ≤ 900000) (hx : DoAt w B v x) (hBo : ∀ b, B b → own b = none ∧ b < w.heap.size) :
    Calls Try.prog 8 #[.pointer (some ⟨g, 0, none⟩), v] w fun e w' => ∃ (gf : Nat) (o : Option Nat), M.fs gf = none ∧ (x.k = 10 → M.Rotting x.s x.nn o) ∧ Done w w' base g own e (stepM M x gf o) := by
  obtain ⟨A, m, c, A2, n2, c2, rfl, r1, r2, r3, r4, r5, r6, r7, r8, r9, r10⟩ := hx
  have hfr := h.fresh
  have hcnt := hg.cnt
  have hdl : ∀ b, own b ≠ none → b < w.heap.size := fun b hb => (h.dom b hb).2
  obtain ⟨kk, s, t, nn, mm, bb, ll⟩ := x
  by_cases e0 : kk = 0
  · subst e0
    refine (does_by0 _ nn mm s t A m c A2 n2 c2 bb w _ r1 (Nat.le_refl _) r3 r4 (fun E W w' => ∃ gf, M.fs gf = none ∧ E = (opCreate M s gf).1 ∧ Left W w' base g own (opCreate M s gf).2) (fun W st => ?_)).mono ?_
    · refine (create_M s (h.still st) hg.ok (by omega) r8).mono ?_
      rintro e w' ⟨gf, h1, _, h2, h3⟩
      exact ⟨_, h2, gf, h1, rfl, h3⟩
    · rintro e w' ⟨E, W, st, he, gf, h1, rfl, h3⟩
      exact ⟨gf, none, h1, fun (h : (0 : Int) = 10) => absurd h (by decide), by unfold stepM; simp only [Int.reduceEq, if_false, if_true]; exact Done.nil he (h3.of_still st)⟩
  by_cases e1 : kk = 1
  · subst e1
    refine (does_by1 _ nn mm s t A m c A2 n2 c2 bb w _ r1 (Nat.le_refl _) r3 r4 (fun E W w' => E = (opAppend M s bb).1 ∧ Left W w' base g own (opAppend M s bb).2) (fun A3 c3 W st hrow => ?_)).mono ?_
    · obtain ⟨A4, c4, ev, _, _, hA4⟩ := own_form hrow
      injection ev with ev1 _ ev2
      subst ev1 ev2
      refine (append_M s A3 m c3 W.heap.size bb (h.still st) hg.ok (by omega) hg.wt r8 (Reads.of_own hrow) (Nat.le_refl _) hA4 (by omega)).mono ?_
      rintro e w' ⟨h2, h3⟩
      exact ⟨_, h2, ⟨rfl, h3⟩, h3.1.mono (fun b _ hb => hdl b hb)⟩
    · rintro e w' ⟨E, W, w1, st, he, ⟨rfl, h3⟩, hc⟩
      exact ⟨_, none, hfr, fun (h : (1 : Int) = 10) => absurd h (by decide), by unfold stepM; simp only [Int.reduceEq, if_false, if_true]; exact Done.nil he (h3.spoil st hdl hc)⟩
  by_cases e2 : kk = 2
  · subst e2
    refine (does_by2 _ nn mm s t A m c A2 n2 c2 bb w _ r1 (Nat.le_refl _) r3 r4 (fun E W w' => E = (opTruncate M s nn).1 ∧ Left W w' base g own (opTruncate M s nn).2) (fun W st => (truncate_M s nn (h.still st) hg.ok (by omega) hg.wt r8).mono fun e w' hh => ⟨_, hh.1, rfl, hh.2⟩)).mono ?_
    rintro e w' ⟨E, W, st, he, rfl, h3⟩
    exact ⟨_, none, hfr, fun (h : (2 : Int) = 10) => absurd h (by decide), by unfold stepM; simp only [Int.reduceEq, if_false, if_true]; exact Done.nil he (h3.of_still st)⟩
  by_cases e3 : kk = 3
  · subst e3
    refine (does_by3 _ nn mm s t A m c A2 n2 c2 bb w _ r1 (Nat.le_refl _) r3 r4 (fun E W w' => E = (opRename M s t).1 ∧ Left W w' base g own (opRename M s t).2) (fun W st => (rename_M s t (h.still st) hg.ok (by omega) r8 r9).mono fun e w' hh => ⟨_, hh.1, rfl, hh.2⟩)).mono ?_
    rintro e w' ⟨E, W, st, he, rfl, h3⟩
    exact ⟨_, none, hfr, fun (h : (3 : Int) = 10) => absurd h (by decide), by unfold stepM; simp only [Int.reduceEq, if_false, if_true]; exact Done.nil he (h3.of_still st)⟩
  by_cases e4 : kk = 4
  · subst e4
    refine (does_by4 _ nn mm s t A m c A2 n2 c2 bb w _ r1 (Nat.le_refl _) r3 r4 (fun E W w' => E = (opRemove M s).1 ∧ Left W w' base g own (opRemove M s).2) (fun W st => (remove_M s (h.still st) hg.ok (by omega) r8).mono fun e w' hh => ⟨_, hh.1, rfl, hh.2⟩)).mono ?_
    rintro e w' ⟨E, W, st, he, rfl, h3⟩
    exact ⟨_, none, hfr, fun (h : (4 : Int) = 10) => absurd h (by decide), by unfold stepM; simp only [Int.reduceEq, if_false, if_true]; exact Done.nil he (h3.of_still st)⟩
  by_cases e5 : kk = 5
  · subst e5
    refine (does_by5 _ nn mm s t A m c A2 n2 c2 bb w _ r1 (Nat.le_refl _) r3 r4 (fun E W w' => E = (opSync M s).1 ∧ Left W w' base g own (opSync M s).2) (fun W st => (sync_M s (h.still st) hg.ok r8).mono fun e w' hh => ⟨_, hh.1, rfl, hh.2⟩)).mono ?_
    rintro e w' ⟨E, W, st, he, rfl, h3⟩
    exact ⟨_, none, hfr, fun (h : (5 : Int) = 10) => absurd h (by decide), by unfold stepM; simp only [Int.reduceEq, if_false, if_true]; exact Done.nil he (h3.of_still st)⟩
  by_cases e6 : kk = 6
  · subst e6
    refine (does_by6 _ nn mm s t A m c A2 n2 c2 bb w _ r1 (Nat.le_refl _) r3 r4 (fun E W w' => E = (opSyncDir M).1 ∧ Left W w' base g own (opSyncDir M).2) (fun W st => (syncDir_M (h.still st) hg.ok (by omega)).mono fun e w' hh => ⟨_, hh.1, rfl, hh.2⟩)).mono ?_
    rintro e w' ⟨E, W, st, he, rfl, h3⟩
    exact ⟨_, none, hfr, fun (h : (6 : Int) = 10) => absurd h (by decide), by unfold stepM; simp only [Int.reduceEq, if_false, if_true]; exact Done.nil he (h3.of_still st)⟩
  by_cases e7 : kk = 7
  · subst e7
    refine (does_by7 _ nn mm s t A m c A2 n2 c2 bb w _ r1 (Nat.le_refl _) r3 r4 (fun E W w' => E = (opArm M nn).1 ∧ Left W w' base g own (opArm M nn).2) (fun W st => (arm_M nn (h.still st)).mono fun e w' hh => ⟨_, hh.1, rfl, hh.2⟩)).mono ?_
    rintro e w' ⟨E, W, st, he, rfl, h3⟩
    exact ⟨_, none, hfr, fun (h : (7 : Int) = 10) => absurd h (by decide), by unfold stepM; simp only [Int.reduceEq, if_false, if_true]; exact Done.nil he (h3.of_still st)⟩
  by_cases e8 : kk = 8
  · subst e8
    refine (does_by8 _ nn mm s t A m c A2 n2 c2 bb w _ r1 (Nat.le_refl _) r3 r4 (fun W w' => Left W w' base g own (M.crash ll)) (fun W st => crash_M (h.still st) hg.ok (by omega) (r5.chg (Chg.of_still st (fun _ => False)) (fun _ _ h => h)) (fun b hb => ⟨(hBo b hb).1, Nat.lt_of_lt_of_le (hBo b hb).2 st.size⟩) r6 r7)).mono ?_
    rintro e w' ⟨W, st, he, h3⟩
    exact ⟨_, none, hfr, fun (h : (8 : Int) = 10) => absurd h (by decide), by unfold stepM; simp only [Int.reduceEq, if_false, if_true]; exact Done.nil he (h3.of_still st)⟩
  by_cases e9 : kk = 9
  · subst e9
    refine (does_by9 _ nn mm s t A m c A2 n2 c2 bb w _ r1 (Nat.le_refl _) r3 r4 (fun E W w' => E = (opSetRoom M nn).1 ∧ Left W w' base g own (opSetRoom M nn).2) (fun W st => (setRoom_M nn (h.still st)).mono fun e w' hh => ⟨_, hh.1, rfl, hh.2⟩)).mono ?_
    rintro e w' ⟨E, W, st, he, rfl, h3⟩
    exact ⟨_, none, hfr, fun (h : (9 : Int) = 10) => absurd h (by decide), by unfold stepM; simp only [Int.reduceEq, if_false, if_true]; exact Done.nil he (h3.of_still st)⟩
  by_cases e10 : kk = 10
  · subst e10
    obtain ⟨q, hq, hw⟩ := u8_wrap mm
    have hqt : (IntKind.u8.wrap mm).toNat = q := by rw [hw]; rfl
    refine (does_by10 _ nn mm s t A m c A2 n2 c2 bb w _ r1 (Nat.le_refl _) r3 r4 (fun E W w' => ∃ o, M.Rotting s nn o ∧ E = (M.rotted s nn q o).1 ∧ Left W w' base g own (M.rotted s nn q o).2) (fun W st => ?_)).mono ?_
    · rw [hw]
      refine (rot_M s nn q hq (h.still st) hg.ok r8).mono ?_
      rintro e w' ⟨o, h1, h2, h3⟩
      exact ⟨_, h2, o, h1, rfl, h3⟩
    · rintro e w' ⟨E, W, st, he, o, h1, rfl, h3⟩
      refine ⟨_, o, hfr, fun _ => h1, ?_⟩
      unfold stepM
      simp only [Int.reduceEq, if_false, if_true, hqt]
      exact Done.nil he (h3.of_still st)
  · refine (does_byR _ kk ⟨e0, e1, e2, e3, e4, e5, e6, e7, e8, e9, e10⟩ nn mm s t A m c A2 n2 c2 bb w _ r1 (Nat.le_refl _) r3 r4 (fun q v E W w' => q = (opRead M s nn mm).1.length ∧ E = (opRead M s nn mm).2 ∧ w'.ownsRow W.heap.size 5 1 v q (bytesV (opRead M s nn mm).1) ∧ Still W w') (fun W st => ?_)).mono ?_
    · refine (read_M s nn mm r10 (h.still st) hg.ok r8).mono ?_
      rintro e w' ⟨⟨v, h1, h2⟩, h3⟩
      obtain ⟨Av, cv, rfl⟩ := own_formV h2
      exact ⟨_, Av, cv, _, h1, rfl, rfl, h2, h3⟩
    · rintro e w' ⟨q, Av, cv, E, W, st, he, hq, hE, hrow, s2⟩
      refine ⟨_, none, hfr, fun hh => absurd hh e10, ?_⟩
      unfold stepM
      simp only [e0, e1, e2, e3, e4, e5, e6, e7, e8, e9, e10, if_false]
      exact ⟨⟨q, Av, cv, by rw [he, hE], own_lowM hrow st.size⟩, Left.still h (st.trans s2)⟩
end Go.Proofs.Ytlkkkifilgnhmaa
