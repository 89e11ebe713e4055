/- Contracts and facts, several texts in one. It proves no statement. -/
import Derived.Test.YtljacdbdjacbkaaGreatMpGzb
import Derived.Test.YtljacdbdjacbkaaGreatMdDoesM

/- The law's own 'does' on a medium's state, whatever the call. It proves no statement. -/


namespace Go.Proofs.YtljacdbdjacbkaaGreat
open Go.RowKit Go.Maps Go.WideMaps Go.Sort
set_option linter.unusedVariables false
set_option linter.unusedSimpArgs false

/-- A call. -/
structure Call where
  k : Int
  s : ByteArray
  t : ByteArray
  nn : Int
  mm : Int
  b : List UInt8
  l : List Int
/-- A call in memory, its rows in blocks of B. -/
def DoAt (w : World) (B : Nat → Prop) (v : Value) (x : Call) : Prop := ∃ A m c A2 n2 c2, v = .agg #[.int .i64 x.k, .string x.s, .string x.t, .int .i64 x.nn, .int .i64 x.mm, .slice A m c, .slice A2 n2 c2] ∧ Reads w w.heap.size A m x.b ∧ (∀ ad, A = some ad → 0 < m → B ad.block) ∧ m ≤ 100 ∧ (A = none → m = 0 ∧ c = 0) ∧ ReadsI w B A2 n2 x.l ∧ n2 ≤ c2 ∧ c2 ≤ 9223372036854775807 ∧ x.s.size ≤ maxLen ∧ x.t.size ≤ maxLen ∧ x.nn ≤ 9223372036854775807
theorem DoAt.keep {w w' : World} {B : Nat → Prop} {v : Value} {x : Call} {S : Nat → Prop} (h : DoAt w B v x) (c : Chg w w' S) (hS : ∀ b, B b → ¬ S b) : DoAt w' B v x := by
  obtain ⟨A, m, cc, A2, n2, c2, h1, h2, h3, h4, h5, h6, h7, h8, h9, h10, h11⟩ := h
  refine ⟨A, m, cc, A2, n2, c2, h1, ⟨h2.1, fun hn => ?_⟩, h3, h4, h5, h6.chg c hS, h7, h8, h9, h10, h11⟩
  obtain ⟨bb, o, e, hlt, hc⟩ := h2.2 hn
  exact ⟨bb, o, e, Nat.lt_of_lt_of_le hlt c.size, fun i hi => (World.cell?_of_block (w := w) (c.block bb hlt (hS bb (h3 _ e hn)))).trans (hc i hi)⟩
theorem Left.of_still {w W w' : World} {base g : Nat} {own : Own} {M' : Me} (s : Still w W) (h : Left W w' base g own M') : Left w w' base g own M' := by
  obtain ⟨c, own', ho, m⟩ := h
  exact ⟨(Chg.of_still s _).trans c (fun _ _ h => h), own', fun b hb => ho b (Nat.lt_of_lt_of_le hb s.size), m⟩
theorem Left.spoil {w W w1 w' : World} {base g : Nat} {own : Own} {M' : Me} (s : Still w W) (hd : ∀ b, own b ≠ none → b < w.heap.size) (h : Left W w1 base g own M') (c2 : Chg w1 w' (fun b => w.heap.size ≤ b ∧ b < W.heap.size)) : Left w w' base g own M' := by
  obtain ⟨c, own', ho, m⟩ := h
  refine ⟨((Chg.of_still s _).trans c (fun _ _ h => h)).trans c2 (fun b hb h => by omega), own', fun b hb => ho b (Nat.lt_of_lt_of_le hb s.size), m.keep c2 (fun b hb => ?_)⟩
  rw [ho b hb.2]
  cases hq : own b with
  | none => rfl
  | some q => have := hd b (by rw [hq]; simp); omega
def stepM (M : Me) (x : Call) (gf : Nat) (o : Option Nat) : (List UInt8 × Int × Bool) × Me :=
  if x.k = 0 then (([], (opCreate M x.s gf).1, false), (opCreate M x.s gf).2)
  else if x.k = 1 then (([], (opAppend M x.s x.b).1, false), (opAppend M x.s x.b).2)
  else if x.k = 2 then (([], (opTruncate M x.s x.nn).1, false), (opTruncate M x.s x.nn).2)
  else if x.k = 3 then (([], (opRename M x.s x.t).1, false), (opRename M x.s x.t).2)
  else if x.k = 4 then (([], (opRemove M x.s).1, false), (opRemove M x.s).2)
  else if x.k = 5 then (([], (opSync M x.s).1, false), (opSync M x.s).2)
  else if x.k = 6 then (([], (opSyncDir M).1, false), (opSyncDir M).2)
  else if x.k = 7 then (([], (opArm M x.nn).1, false), (opArm M x.nn).2)
  else if x.k = 8 then (([], 0, false), M.crash x.l)
  else if x.k = 9 then (([], (opSetRoom M x.nn).1, false), (opSetRoom M x.nn).2)
  else if x.k = 10 then (([], 0, (M.rotted x.s x.nn (IntKind.u8.wrap x.mm).toNat o).1), (M.rotted x.s x.nn (IntKind.u8.wrap x.mm).toNat o).2)
  else (((opRead M x.s x.nn x.mm).1, (opRead M x.s x.nn x.mm).2, false), M)
theorem stepM_good {M : Me} {k : Nat} (h : M.good k) (x : Call) (hx : x.nn ≤ 9223372036854775807) (gf : Nat) (o : Option Nat) : (stepM M x gf o).2.good (k + 1) := by
  unfold stepM
  by_cases e0 : x.k = 0
  · rw [if_pos e0]; exact opCreate_good h _ _
  rw [if_neg e0]
  by_cases e1 : x.k = 1
  · rw [if_pos e1]; exact opAppend_good h _ _
  rw [if_neg e1]
  by_cases e2 : x.k = 2
  · rw [if_pos e2]; exact opTruncate_good h _ _
  rw [if_neg e2]
  by_cases e3 : x.k = 3
  · rw [if_pos e3]; exact opRename_good h _ _
  rw [if_neg e3]
  by_cases e4 : x.k = 4
  · rw [if_pos e4]; exact opRemove_good h _
  rw [if_neg e4]
  by_cases e5 : x.k = 5
  · rw [if_pos e5]; exact opSync_good h _
  rw [if_neg e5]
  by_cases e6 : x.k = 6
  · rw [if_pos e6]; exact opSyncDir_good h
  rw [if_neg e6]
  by_cases e7 : x.k = 7
  · rw [if_pos e7]; exact opArm_good h _ hx
  rw [if_neg e7]
  by_cases e8 : x.k = 8
  · rw [if_pos e8]; exact crash_good h _
  rw [if_neg e8]
  by_cases e9 : x.k = 9
  · rw [if_pos e9]; exact opSetRoom_good h _
  rw [if_neg e9]
  by_cases e10 : x.k = 10
  · rw [if_pos e10]; exact rotted_good h _ _ _ _
  rw [if_neg e10]
  exact h.mono (by omega)
/-- What a call answers and leaves. -/
def Done (w w' : World) (base g : Nat) (own : Own) (e : Ending) (r : (List UInt8 × Int × Bool) × Me) : Prop := (∃ (q : Nat) (Av : Option Addr) (cv : Nat), e = .returned (.tuple #[.slice Av q cv, .int .i64 r.1.2.1, .bool r.1.2.2]) ∧ w'.ownsRow w.heap.size 5 1 (.slice Av q cv) q (bytesV r.1.1)) ∧ Left w w' base g own r.2
theorem Done.nil {w w' : World} {base g : Nat} {own : Own} {e : Ending} {E : Int} {b : Bool} {M' : Me} (he : e = .returned (.tuple #[.slice none 0 0, .int .i64 E, .bool b])) (h : Left w w' base g own M') : Done w w' base g own e (([], E, b), M') := ⟨⟨0, none, 0, he, World.ownsRow_nil _ _ _ _⟩, h⟩
theorem u8_wrap (x : Int) : ∃ m : Nat, m < 256 ∧ IntKind.u8.wrap x = (m : Int) := by
  have h : 0 ≤ IntKind.u8.wrap x ∧ IntKind.u8.wrap x < 256 := by
    unfold IntKind.wrap
    simp [IntKind.bits, IntKind.signed]
    omega
  exact ⟨(IntKind.u8.wrap x).toNat, by omega, by omega⟩
theorem does_M {w : World} {base g k : Nat} {own : Own} {M : Me} {B : Nat → Prop} {v : Value} {x : Call} (h : MedI w base own g M) (hg : M.good k) (hk : k ≤ 900000) (hx : DoAt w B v x) (hBo : ∀ b, B b → own b = none ∧ b < w.heap.size) :
    Calls Tryz.prog 7 #[.pointer (some ⟨g, 0, none⟩), v] w fun e w' => ∃ (gf : Nat) (o : Option Nat), M.fs gf = none ∧ (x.k = 10 → M.Rotting x.s x.nn o) ∧ Done w w' base g own e (stepM M x gf o) := by
  obtain ⟨A, m, c, A2, n2, c2, rfl, r1, r2, r3, r4, r5, r6, r7, r8, r9, r10⟩ := hx
  have hfr := h.fresh
  have hcnt := hg.cnt
  have hdl : ∀ b, own b ≠ none → b < w.heap.size := fun b hb => (h.dom b hb).2
  obtain ⟨kk, s, t, nn, mm, bb, ll⟩ := x
  by_cases e0 : kk = 0
  · subst e0
    refine (does_by0 _ nn mm s t A m c A2 n2 c2 bb w _ r1 (Nat.le_refl _) r3 r4 (fun E W w' => ∃ gf, M.fs gf = none ∧ E = (opCreate M s gf).1 ∧ Left W w' base g own (opCreate M s gf).2) (fun W st => ?_)).mono ?_
    · refine (create_M s (h.still st) hg.ok (by omega) r8).mono ?_
      rintro e w' ⟨gf, h1, _, h2, h3⟩
      exact ⟨_, h2, gf, h1, rfl, h3⟩
    · rintro e w' ⟨E, W, st, he, gf, h1, rfl, h3⟩
      exact ⟨gf, none, h1, fun (h : (0 : Int) = 10) => absurd h (by decide), by unfold stepM; simp only [Int.reduceEq, if_false, if_true]; exact Done.nil he (h3.of_still st)⟩
  by_cases e1 : kk = 1
  · subst e1
    refine (does_by1 _ nn mm s t A m c A2 n2 c2 bb w _ r1 (Nat.le_refl _) r3 r4 (fun E W w' => E = (opAppend M s bb).1 ∧ Left W w' base g own (opAppend M s bb).2) (fun A3 c3 W st hrow => ?_)).mono ?_
    · obtain ⟨A4, c4, ev, _, _, hA4⟩ := own_form hrow
      injection ev with ev1 _ ev2
      subst ev1 ev2
      refine (append_M s A3 m c3 W.heap.size bb (h.still st) hg.ok (by omega) hg.wt r8 (Reads.of_own hrow) (Nat.le_refl _) hA4 (by omega)).mono ?_
      rintro e w' ⟨h2, h3⟩
      exact ⟨_, h2, ⟨rfl, h3⟩, h3.1.mono (fun b _ hb => hdl b hb)⟩
    · rintro e w' ⟨E, W, w1, st, he, ⟨rfl, h3⟩, hc⟩
      exact ⟨_, none, hfr, fun (h : (1 : Int) = 10) => absurd h (by decide), by unfold stepM; simp only [Int.reduceEq, if_false, if_true]; exact Done.nil he (h3.spoil st hdl hc)⟩
  by_cases e2 : kk = 2
  · subst e2
    refine (does_by2 _ nn mm s t A m c A2 n2 c2 bb w _ r1 (Nat.le_refl _) r3 r4 (fun E W w' => E = (opTruncate M s nn).1 ∧ Left W w' base g own (opTruncate M s nn).2) (fun W st => (truncate_M s nn (h.still st) hg.ok (by omega) hg.wt r8).mono fun e w' hh => ⟨_, hh.1, rfl, hh.2⟩)).mono ?_
    rintro e w' ⟨E, W, st, he, rfl, h3⟩
    exact ⟨_, none, hfr, fun (h : (2 : Int) = 10) => absurd h (by decide), by unfold stepM; simp only [Int.reduceEq, if_false, if_true]; exact Done.nil he (h3.of_still st)⟩
  by_cases e3 : kk = 3
  · subst e3
    refine (does_by3 _ nn mm s t A m c A2 n2 c2 bb w _ r1 (Nat.le_refl _) r3 r4 (fun E W w' => E = (opRename M s t).1 ∧ Left W w' base g own (opRename M s t).2) (fun W st => (rename_M s t (h.still st) hg.ok (by omega) r8 r9).mono fun e w' hh => ⟨_, hh.1, rfl, hh.2⟩)).mono ?_
    rintro e w' ⟨E, W, st, he, rfl, h3⟩
    exact ⟨_, none, hfr, fun (h : (3 : Int) = 10) => absurd h (by decide), by unfold stepM; simp only [Int.reduceEq, if_false, if_true]; exact Done.nil he (h3.of_still st)⟩
  by_cases e4 : kk = 4
  · subst e4
    refine (does_by4 _ nn mm s t A m c A2 n2 c2 bb w _ r1 (Nat.le_refl _) r3 r4 (fun E W w' => E = (opRemove M s).1 ∧ Left W w' base g own (opRemove M s).2) (fun W st => (remove_M s (h.still st) hg.ok (by omega) r8).mono fun e w' hh => ⟨_, hh.1, rfl, hh.2⟩)).mono ?_
    rintro e w' ⟨E, W, st, he, rfl, h3⟩
    exact ⟨_, none, hfr, fun (h : (4 : Int) = 10) => absurd h (by decide), by unfold stepM; simp only [Int.reduceEq, if_false, if_true]; exact Done.nil he (h3.of_still st)⟩
  by_cases e5 : kk = 5
  · subst e5
    refine (does_by5 _ nn mm s t A m c A2 n2 c2 bb w _ r1 (Nat.le_refl _) r3 r4 (fun E W w' => E = (opSync M s).1 ∧ Left W w' base g own (opSync M s).2) (fun W st => (sync_M s (h.still st) hg.ok r8).mono fun e w' hh => ⟨_, hh.1, rfl, hh.2⟩)).mono ?_
    rintro e w' ⟨E, W, st, he, rfl, h3⟩
    exact ⟨_, none, hfr, fun (h : (5 : Int) = 10) => absurd h (by decide), by unfold stepM; simp only [Int.reduceEq, if_false, if_true]; exact Done.nil he (h3.of_still st)⟩
  by_cases e6 : kk = 6
  · subst e6
    refine (does_by6 _ nn mm s t A m c A2 n2 c2 bb w _ r1 (Nat.le_refl _) r3 r4 (fun E W w' => E = (opSyncDir M).1 ∧ Left W w' base g own (opSyncDir M).2) (fun W st => (syncDir_M (h.still st) hg.ok (by omega)).mono fun e w' hh => ⟨_, hh.1, rfl, hh.2⟩)).mono ?_
    rintro e w' ⟨E, W, st, he, rfl, h3⟩
    exact ⟨_, none, hfr, fun (h : (6 : Int) = 10) => absurd h (by decide), by unfold stepM; simp only [Int.reduceEq, if_false, if_true]; exact Done.nil he (h3.of_still st)⟩
  by_cases e7 : kk = 7
  · subst e7
    refine (does_by7 _ nn mm s t A m c A2 n2 c2 bb w _ r1 (Nat.le_refl _) r3 r4 (fun E W w' => E = (opArm M nn).1 ∧ Left W w' base g own (opArm M nn).2) (fun W st => (arm_M nn (h.still st)).mono fun e w' hh => ⟨_, hh.1, rfl, hh.2⟩)).mono ?_
    rintro e w' ⟨E, W, st, he, rfl, h3⟩
    exact ⟨_, none, hfr, fun (h : (7 : Int) = 10) => absurd h (by decide), by unfold stepM; simp only [Int.reduceEq, if_false, if_true]; exact Done.nil he (h3.of_still st)⟩
  by_cases e8 : kk = 8
  · subst e8
    refine (does_by8 _ nn mm s t A m c A2 n2 c2 bb w _ r1 (Nat.le_refl _) r3 r4 (fun W w' => Left W w' base g own (M.crash ll)) (fun W st => crash_M (h.still st) hg.ok (by omega) (r5.chg (Chg.of_still st (fun _ => False)) (fun _ _ h => h)) (fun b hb => ⟨(hBo b hb).1, Nat.lt_of_lt_of_le (hBo b hb).2 st.size⟩) r6 r7)).mono ?_
    rintro e w' ⟨W, st, he, h3⟩
    exact ⟨_, none, hfr, fun (h : (8 : Int) = 10) => absurd h (by decide), by unfold stepM; simp only [Int.reduceEq, if_false, if_true]; exact Done.nil he (h3.of_still st)⟩
  by_cases e9 : kk = 9
  · subst e9
    refine (does_by9 _ nn mm s t A m c A2 n2 c2 bb w _ r1 (Nat.le_refl _) r3 r4 (fun E W w' => E = (opSetRoom M nn).1 ∧ Left W w' base g own (opSetRoom M nn).2) (fun W st => (setRoom_M nn (h.still st)).mono fun e w' hh => ⟨_, hh.1, rfl, hh.2⟩)).mono ?_
    rintro e w' ⟨E, W, st, he, rfl, h3⟩
    exact ⟨_, none, hfr, fun (h : (9 : Int) = 10) => absurd h (by decide), by unfold stepM; simp only [Int.reduceEq, if_false, if_true]; exact Done.nil he (h3.of_still st)⟩
  by_cases e10 : kk = 10
  · subst e10
    obtain ⟨q, hq, hw⟩ := u8_wrap mm
    have hqt : (IntKind.u8.wrap mm).toNat = q := by rw [hw]; rfl
    refine (does_by10 _ nn mm s t A m c A2 n2 c2 bb w _ r1 (Nat.le_refl _) r3 r4 (fun E W w' => ∃ o, M.Rotting s nn o ∧ E = (M.rotted s nn q o).1 ∧ Left W w' base g own (M.rotted s nn q o).2) (fun W st => ?_)).mono ?_
    · rw [hw]
      refine (rot_M s nn q hq (h.still st) hg.ok r8).mono ?_
      rintro e w' ⟨o, h1, h2, h3⟩
      exact ⟨_, h2, o, h1, rfl, h3⟩
    · rintro e w' ⟨E, W, st, he, o, h1, rfl, h3⟩
      refine ⟨_, o, hfr, fun _ => h1, ?_⟩
      unfold stepM
      simp only [Int.reduceEq, if_false, if_true, hqt]
      exact Done.nil he (h3.of_still st)
  · refine (does_byR _ kk ⟨e0, e1, e2, e3, e4, e5, e6, e7, e8, e9, e10⟩ nn mm s t A m c A2 n2 c2 bb w _ r1 (Nat.le_refl _) r3 r4 (fun q v E W w' => q = (opRead M s nn mm).1.length ∧ E = (opRead M s nn mm).2 ∧ w'.ownsRow W.heap.size 5 1 v q (bytesV (opRead M s nn mm).1) ∧ Still W w') (fun W st => ?_)).mono ?_
    · refine (read_M s nn mm r10 (h.still st) hg.ok r8).mono ?_
      rintro e w' ⟨⟨v, h1, h2⟩, h3⟩
      obtain ⟨Av, cv, rfl⟩ := own_formV h2
      exact ⟨_, Av, cv, _, h1, rfl, rfl, h2, h3⟩
    · rintro e w' ⟨q, Av, cv, E, W, st, he, hq, hE, hrow, s2⟩
      refine ⟨_, none, hfr, fun hh => absurd hh e10, ?_⟩
      unfold stepM
      simp only [e0, e1, e2, e3, e4, e5, e6, e7, e8, e9, e10, if_false]
      exact ⟨⟨q, Av, cv, by rw [he, hE], own_lowM hrow st.size⟩, Left.still h (st.trans s2)⟩
end Go.Proofs.YtljacdbdjacbkaaGreat

/- A medium whose power is on and that isn't armed stays so. It proves no statement. -/

namespace Go.Proofs.YtljacdbdjacbkaaGreat
open Go.RowKit Go.Maps Go.WideMaps Go.Sort
set_option linter.unusedVariables false
set_option linter.unusedSimpArgs false

/-- No name is too long. -/
def shortN (N : NT) : Prop := ∀ p ∈ N, p.1.length ≤ 24
theorem shortN_nil : shortN [] := fun p hp => by cases hp
theorem shortN_del {N : NT} (h : shortN N) (s : List UInt8) : shortN (nDel N s) := fun p hp => h p (List.mem_filter.1 hp).1
theorem mem_nIns {x p : List UInt8 × Nat} {N : NT} (h : p ∈ nIns x N) : p = x ∨ p ∈ N := by
  induction N with
  | nil => exact .inl (by simpa [nIns] using h)
  | cons y r ih =>
    unfold nIns at h
    split at h
    · rcases List.mem_cons.1 h with h | h
      · exact .inl h
      · exact .inr h
    · rcases List.mem_cons.1 h with h | h
      · exact .inr (h ▸ List.mem_cons_self)
      · rcases ih h with h | h
        · exact .inl h
        · exact .inr (List.mem_cons_of_mem _ h)
theorem shortN_put {N : NT} (h : shortN N) (s : List UInt8) (f : Nat) (hs : s.length ≤ 24) : shortN (nPut N s f) := fun p hp => by
  rcases mem_nIns hp with rfl | hp
  · exact hs
  · exact shortN_del h s p hp
def shortX (x : ByteArray × ByteArray × Int) : Prop := 0 ≤ x.2.2 → x.2.1.data.toList.length ≤ 24
theorem shortN_step {N : NT} (h : shortN N) (x : ByteArray × ByteArray × Int) (hx : shortX x) : shortN (nmStep N x) := by
  unfold nmStep
  split
  · exact shortN_del h _
  · exact shortN_put (shortN_del h _) _ _ (hx (by omega))
theorem shortN_steps (X : List (ByteArray × ByteArray × Int)) : ∀ {N : NT}, shortN N → (∀ x ∈ X, shortX x) → shortN (nmSteps N X) := by
  induction X with
  | nil => intro N h _; exact h
  | cons x r ih => intro N h hX; exact ih (shortN_step h x (hX x List.mem_cons_self)) (fun y hy => hX y (List.mem_cons_of_mem _ hy))
structure Me.Nms (M : Me) : Prop where
  now : shortN M.now
  fast : shortN M.fast
  wait : ∀ x ∈ M.wait, shortX x
theorem Me.Nms.link {M : Me} (h : M.Nms) (x : ByteArray × ByteArray × Int) (fs : Nat → Option Fi) (hx : shortX x) : (M.link x fs).Nms :=
  ⟨shortN_step h.now x hx, h.fast, fun y hy => by
    rcases List.mem_append.1 (show y ∈ M.wait ++ [x] from hy) with hy | hy
    · exact h.wait y hy
    · rw [List.mem_singleton.1 hy]; exact hx⟩
theorem Me.Nms.crash {M : Me} (h : M.Nms) (zs : List Int) : (M.crash zs).Nms := by
  have h1 : shortN (M.lasts zs) := shortN_steps _ h.fast (fun x hx => h.wait x (List.mem_of_mem_take hx))
  exact ⟨h1, h1, fun x hx => by cases hx⟩
theorem nmOK_len {s : ByteArray} (h : ¬ nmOK s.data.toList = false) : s.data.toList.length ≤ 24 := by
  have h1 : nmOK s.data.toList = true := by simpa using h
  unfold nmOK at h1
  simp only [Bool.and_eq_true, decide_eq_true_eq] at h1
  exact h1.1.2
/-- The power is on, nothing armed, no name too long. -/
structure Me.On (M : Me) : Prop where
  off : M.off = false
  left : M.left = -1
  nm : M.Nms
theorem Me.On.ne {M : Me} (h : M.On) : ¬ M.left = 0 := by rw [h.left]; decide
theorem Me.On.no {M : Me} (h : M.On) : ¬ M.off = true := by rw [h.off]; decide
theorem stepL_on : stepL (-1) = -1 := by unfold stepL stepR; rw [if_neg (by decide), if_neg (by decide)]
theorem Me.On.stepL {M : Me} (h : M.On) : stepL M.left = -1 := by rw [h.left]; exact stepL_on
theorem Me.On.new (room : Int) : (Me.new room).On := ⟨rfl, rfl, shortN_nil, shortN_nil, fun x hx => by cases hx⟩
theorem Me.On.link {M : Me} (h : M.On) (x : ByteArray × ByteArray × Int) (fs : Nat → Option Fi) (hx : shortX x) : (M.link x fs).On := ⟨h.off, h.stepL, h.nm.link x fs hx⟩
theorem Me.On.wrote {M : Me} (h : M.On) (gf : Nat) (F : Fi) : (M.wrote gf F).On := ⟨h.off, h.stepL, h.nm.now, h.nm.fast, h.nm.wait⟩
theorem Me.On.name {M : Me} (h : M.On) (x : ByteArray × ByteArray × Int) (hx : shortX x) : (opName M x).2.On := by unfold opName; rw [if_neg h.ne]; exact h.link _ _ hx
theorem Me.On.syncedDir {M : Me} (h : M.On) : M.syncedDir.On := ⟨h.off, h.stepL, h.nm.now, h.nm.now, fun x hx => by cases hx⟩
theorem Me.On.step {M : Me} (h : M.On) (x : Call) (gf : Nat) (o : Option Nat) (h7 : x.k ≠ 7) : (stepM M x gf o).2.On := by
  unfold stepM
  by_cases e0 : x.k = 0
  · rw [if_pos e0]
    unfold opCreate
    rw [if_neg h.no]
    split
    · exact h
    rename_i hnm
    split
    · exact h
    split
    · exact h
    rw [if_neg h.ne]
    exact h.link _ _ (fun _ => nmOK_len hnm)
  rw [if_neg e0]
  by_cases e1 : x.k = 1
  · rw [if_pos e1]
    unfold opAppend
    split
    · exact h
    · split
      · exact h
      · rw [if_neg h.ne]; exact h.wrote _ _
  rw [if_neg e1]
  by_cases e2 : x.k = 2
  · rw [if_pos e2]
    unfold opTruncate
    split
    · exact h
    · split
      · exact h
      · rw [if_neg h.ne]; exact h.wrote _ _
  rw [if_neg e2]
  by_cases e3 : x.k = 3
  · rw [if_pos e3]
    unfold opRename
    split
    · exact h
    · split
      · exact h
      · rename_i hnm
        exact h.name _ (fun _ => nmOK_len hnm)
  rw [if_neg e3]
  by_cases e4 : x.k = 4
  · rw [if_pos e4]
    unfold opRemove
    split
    · exact h
    · exact h.name _ (fun h0 => absurd (show (0 : Int) ≤ -1 from h0) (by decide))
  rw [if_neg e4]
  by_cases e5 : x.k = 5
  · rw [if_pos e5]
    unfold opSync
    split
    · exact h
    · rw [if_neg h.ne]; exact h.wrote _ _
  rw [if_neg e5]
  by_cases e6 : x.k = 6
  · rw [if_pos e6]
    unfold opSyncDir
    rw [if_neg h.no, if_neg h.ne]
    exact h.syncedDir
  rw [if_neg e6, if_neg h7]
  by_cases e8 : x.k = 8
  · rw [if_pos e8]; exact ⟨rfl, rfl, h.nm.crash _⟩
  rw [if_neg e8]
  by_cases e9 : x.k = 9
  · rw [if_pos e9]
    unfold opSetRoom
    rw [if_neg h.no]
    split
    · exact h
    · exact ⟨h.off, h.left, h.nm.now, h.nm.fast, h.nm.wait⟩
  rw [if_neg e9]
  by_cases e10 : x.k = 10
  · rw [if_pos e10]
    unfold Me.rotted
    split
    · exact h
    · split
      · exact h
      · split
        · exact h
        · exact ⟨h.off, h.left, h.nm.now, h.nm.fast, h.nm.wait⟩
  rw [if_neg e10]
  exact h
/-- Without power nothing changes, but by a crash or rot. -/
theorem off_step {M : Me} (h : M.off = true) (x : Call) (gf : Nat) (o : Option Nat) (h8 : x.k ≠ 8) (h10 : x.k ≠ 10) : stepM M x gf o = (([], 12, false), M) := by
  have hf : ∀ s, M.find s = .inl 12 := fun s => by unfold Me.find; rw [if_pos h]
  unfold stepM opCreate opAppend opTruncate opRename opRemove opSync opSyncDir opArm opSetRoom opRead
  simp only [hf, h, if_true, h8, h10, if_false]
  repeat' split
  all_goals rfl
end Go.Proofs.YtljacdbdjacbkaaGreat

/- What the room is worth, from call to call. It proves no statement. -/

namespace Go.Proofs.YtljacdbdjacbkaaGreat
open Go.RowKit Go.Maps Go.WideMaps Go.Sort
set_option linter.unusedVariables false
set_option linter.unusedSimpArgs false

def szF (fs : Nat → Option Fi) (f : Nat) : Nat := match fs f with | some F => F.now.length | none => 0
def sumN (fs : Nat → Option Fi) (N : NT) : Nat := (N.map fun p => szF fs p.2).sum
theorem used_sumN (M : Me) : M.used = sumN M.fs M.now := by
  rw [Me.used_eq]
  rfl
theorem sumN_ins (fs : Nat → Option Fi) (x : List UInt8 × Nat) (N : NT) : sumN fs (nIns x N) = szF fs x.2 + sumN fs N := by
  induction N with
  | nil => simp [sumN, nIns]
  | cons y r ih =>
    unfold nIns
    split
    · simp [sumN]
    · unfold sumN at ih ⊢
      rw [List.map_cons, List.sum_cons, ih, List.map_cons, List.sum_cons]
      omega
theorem sumN_del (fs : Nat → Option Fi) (N : NT) (s : List UInt8) : sumN fs (nDel N s) ≤ sumN fs N := by
  unfold nDel
  induction N with
  | nil => exact Nat.le_refl _
  | cons y r ih =>
    rw [List.filter_cons]
    unfold sumN at ih ⊢
    split
    · rw [List.map_cons, List.sum_cons, List.map_cons, List.sum_cons]; omega
    · rw [List.map_cons, List.sum_cons]; omega
theorem sumN_del_mem (fs : Nat → Option Fi) {N : NT} {s : List UInt8} {gf : Nat} (hm : (s, gf) ∈ N) : sumN fs (nDel N s) + szF fs gf ≤ sumN fs N := by
  induction N with
  | nil => cases hm
  | cons y r ih =>
    unfold nDel
    rw [List.filter_cons]
    rcases List.mem_cons.1 hm with h | h
    · subst h
      have h1 := sumN_del fs r s
      unfold nDel at h1
      unfold sumN at h1 ⊢
      simp only [beq_self_eq_true, Bool.not_true, Bool.false_eq_true, if_false, List.map_cons, List.sum_cons]
      omega
    · have h1 := ih h
      unfold nDel at h1
      unfold sumN at h1 ⊢
      split
      · rw [List.map_cons, List.sum_cons, List.map_cons, List.sum_cons]; omega
      · rw [List.map_cons, List.sum_cons]; omega
/-- No file has two names. -/
def Once (N : NT) : Prop := (N.map (·.2)).Nodup
theorem Once.del {N : NT} (h : Once N) (s : List UInt8) : Once (nDel N s) := by
  unfold Once nDel at *
  exact List.Nodup.sublist (List.Sublist.map _ List.filter_sublist) h
theorem once_ins {x : List UInt8 × Nat} {N : NT} : Once (nIns x N) ↔ (∀ p ∈ N, p.2 ≠ x.2) ∧ Once N := by
  induction N with
  | nil => simp [nIns, Once]
  | cons y r ih =>
    unfold nIns
    split
    · unfold Once
      rw [List.map_cons, List.nodup_cons]
      constructor
      · rintro ⟨h1, h2⟩
        exact ⟨fun p hp e => h1 (by rw [← e]; exact List.mem_map.2 ⟨p, hp, rfl⟩), h2⟩
      · rintro ⟨h1, h2⟩
        refine ⟨fun hm => ?_, h2⟩
        obtain ⟨p, hp, e⟩ := List.mem_map.1 hm
        exact h1 p hp e
    · unfold Once at ih ⊢
      rw [List.map_cons, List.nodup_cons, ih, List.map_cons, List.nodup_cons]
      constructor
      · rintro ⟨h1, h2, h3⟩
        refine ⟨fun p hp e => ?_, ?_, h3⟩
        · rcases List.mem_cons.1 hp with rfl | hp
          · exact h1 (by rw [e]; exact List.mem_map.2 ⟨x, mem_ins.2 (.inl rfl), rfl⟩)
          · exact h2 p hp e
        · intro hm
          obtain ⟨p, hp, e⟩ := List.mem_map.1 hm
          exact h1 (List.mem_map.2 ⟨p, mem_ins.2 (.inr hp), e⟩)
      · rintro ⟨h1, h2, h3⟩
        refine ⟨fun hm => ?_, fun p hp => h1 p (List.mem_cons_of_mem _ hp), h3⟩
        obtain ⟨p, hp, e⟩ := List.mem_map.1 hm
        rcases mem_ins.1 hp with rfl | hp
        · exact h1 y (by simp) e.symm
        · exact h2 (List.mem_map.2 ⟨p, hp, e⟩)
theorem Once.ne_del {N : NT} (h : Once N) {s : List UInt8} {gf : Nat} (hm : (s, gf) ∈ N) : ∀ p ∈ nDel N s, p.2 ≠ gf := by
  intro p hp e
  obtain ⟨hp1, hp2⟩ := List.mem_filter.1 hp
  have : p = (s, gf) := by
    unfold Once at h
    clear hp
    induction N with
    | nil => cases hm
    | cons y r ih =>
      rw [List.map_cons, List.nodup_cons] at h
      rcases List.mem_cons.1 hm with h1 | h1
      · rcases List.mem_cons.1 hp1 with h2 | h2
        · rw [h2, h1]
        · exact absurd (List.mem_map.2 ⟨p, h2, by rw [e, ← h1]⟩) h.1
      · rcases List.mem_cons.1 hp1 with h2 | h2
        · exact absurd (List.mem_map.2 ⟨_, h1, by rw [← h2, e]⟩) h.1
        · exact ih h.2 h1 h2
  subst this
  simp at hp2
theorem szF_other {fs : Nat → Option Fi} {gf x : Nat} (F : Fi) (h : x ≠ gf) : szF (upd fs gf F) x = szF fs x := by unfold szF; rw [upd_other _ _ h]
theorem szF_same (fs : Nat → Option Fi) (gf : Nat) (F : Fi) : szF (upd fs gf F) gf = F.now.length := by unfold szF; rw [upd_same]
theorem szF_of {fs : Nat → Option Fi} {gf : Nat} {F : Fi} (h : fs gf = some F) : szF fs gf = F.now.length := by unfold szF; rw [h]
theorem sumN_out {fs : Nat → Option Fi} {gf : Nat} (F : Fi) {N : NT} (h : ∀ p ∈ N, p.2 ≠ gf) : sumN (upd fs gf F) N = sumN fs N := by
  unfold sumN
  congr 1
  exact List.map_congr_left (fun p hp => szF_other F (h p hp))
/-- One file's bytes changed. -/
theorem sumN_upd {fs : Nat → Option Fi} {gf : Nat} (F : Fi) {N : NT} (h : Once N) {s : List UInt8} (hm : (s, gf) ∈ N) : sumN (upd fs gf F) N + szF fs gf = sumN fs N + F.now.length := by
  induction N with
  | nil => cases hm
  | cons y r ih =>
    have h' := h
    unfold Once at h'
    rw [List.map_cons, List.nodup_cons] at h'
    have e1 : ∀ fs, sumN fs (y :: r) = szF fs y.2 + sumN fs r := fun fs => by unfold sumN; rw [List.map_cons, List.sum_cons]
    rw [e1, e1]
    rcases List.mem_cons.1 hm with h1 | h1
    · subst h1
      rw [szF_same, sumN_out F (fun p hp e => h'.1 (List.mem_map.2 ⟨p, hp, e⟩))]
      dsimp only
      omega
    · have hne : y.2 ≠ gf := fun e => h'.1 (List.mem_map.2 ⟨_, h1, by rw [e]⟩)
      have := ih h'.2 h1
      rw [szF_other F hne]
      omega
/-- The room holds. -/
structure Me.Fits (M : Me) (rm : Int) : Prop where
  room : M.room = rm
  once : Once M.now
  used : (sumN M.fs M.now : Int) ≤ rm
theorem Me.Fits.new {room : Int} (h : 0 ≤ room) : (Me.new room).Fits room := ⟨rfl, List.nodup_nil, by show ((0 : Nat) : Int) ≤ room; omega⟩
theorem Me.Fits.dead {M : Me} {room : Int} (h : M.Fits room) : M.dead.Fits room := ⟨h.room, h.once, h.used⟩
theorem Me.Fits.create {M : Me} {room : Int} (h : M.Fits room) (hok : M.ok) (s : ByteArray) (gf : Nat) (hg : M.fs gf = none) : (opCreate M s gf).2.Fits room := by
  unfold opCreate
  split
  · exact h
  split
  · exact h
  split
  · exact h
  split
  · exact h
  split
  · exact h.dead
  have hout : ∀ p ∈ M.now, p.2 ≠ gf := fun p hp e => by
    have hp' := hp
    rw [hok.eq] at hp'
    obtain ⟨F, hF⟩ := steps_files hok.ff hok.fw p hp'
    rw [e, hg] at hF
    cases hF
  have e0 : nmStep M.now (⟨#[]⟩, s, (gf : Int)) = nPut (nDel M.now []) s.data.toList gf := by
    unfold nmStep
    rw [if_neg (by show ¬ (gf : Int) < 0; omega)]
    rfl
  have hsub : ∀ p ∈ nDel (nDel M.now []) s.data.toList, p.2 ≠ gf := fun p hp => hout p (List.mem_filter.1 (List.mem_filter.1 hp).1).1
  refine ⟨h.room, ?_, ?_⟩
  · show Once (nmStep M.now (⟨#[]⟩, s, (gf : Int)))
    rw [e0]
    exact once_ins.2 ⟨hsub, (h.once.del _).del _⟩
  · show (sumN (upd M.fs gf ⟨[], [], []⟩) (nmStep M.now (⟨#[]⟩, s, (gf : Int))) : Int) ≤ room
    rw [e0]
    unfold nPut
    rw [sumN_ins, sumN_out _ hsub, szF_same]
    have h1 := sumN_del M.fs (nDel M.now []) s.data.toList
    have h2 := sumN_del M.fs M.now []
    have h3 := h.used
    show ((0 + sumN M.fs (nDel (nDel M.now []) s.data.toList) : Nat) : Int) ≤ room
    omega
theorem Me.Fits.link {M : Me} {room : Int} (h : M.Fits room) (s t : ByteArray) (gf : Nat) (hm : (s.data.toList, gf) ∈ M.now) : (M.link (s, t, (gf : Int)) M.fs).Fits room := by
  have e0 : nmStep M.now (s, t, (gf : Int)) = nPut (nDel M.now s.data.toList) t.data.toList gf := by
    unfold nmStep
    rw [if_neg (by show ¬ (gf : Int) < 0; omega)]
    rfl
  have hne := h.once.ne_del hm
  refine ⟨h.room, ?_, ?_⟩
  · show Once (nmStep M.now (s, t, (gf : Int)))
    rw [e0]
    exact once_ins.2 ⟨fun p hp => hne p (List.mem_filter.1 hp).1, (h.once.del _).del _⟩
  · show (sumN M.fs (nmStep M.now (s, t, (gf : Int))) : Int) ≤ room
    rw [e0]
    unfold nPut
    rw [sumN_ins]
    have h1 := sumN_del M.fs (nDel M.now s.data.toList) t.data.toList
    have h2 := sumN_del_mem M.fs hm
    have h3 := h.used
    show ((szF M.fs gf + sumN M.fs (nDel (nDel M.now s.data.toList) t.data.toList) : Nat) : Int) ≤ room
    omega
theorem Me.Fits.unlink {M : Me} {room : Int} (h : M.Fits room) (s : ByteArray) : (M.link (s, ⟨#[]⟩, -1) M.fs).Fits room := by
  have e0 : nmStep M.now (s, ⟨#[]⟩, -1) = nDel M.now s.data.toList := by
    unfold nmStep
    rw [if_pos (by show (-1 : Int) < 0; decide)]
  refine ⟨h.room, ?_, ?_⟩
  · show Once (nmStep M.now (s, ⟨#[]⟩, -1))
    rw [e0]
    exact h.once.del _
  · show (sumN M.fs (nmStep M.now (s, ⟨#[]⟩, -1)) : Int) ≤ room
    rw [e0]
    have h1 := sumN_del M.fs M.now s.data.toList
    have h3 := h.used
    omega
theorem Me.Fits.rename {M : Me} {room : Int} (h : M.Fits room) (s t : ByteArray) : (opRename M s t).2.Fits room := by
  unfold opRename
  split
  · exact h
  rename_i gf F hf
  split
  · exact h
  unfold opName
  split
  · exact h.dead
  · exact h.link s t gf (nFind_mem (Me.find_fs hf).2.1)
theorem Me.Fits.remove {M : Me} {room : Int} (h : M.Fits room) (s : ByteArray) : (opRemove M s).2.Fits room := by
  unfold opRemove
  split
  · exact h
  unfold opName
  split
  · exact h.dead
  · exact h.unlink s
/-- A file that turns, and is not longer than the room lets it. -/
theorem Me.Fits.wrote {M : Me} {room : Int} (h : M.Fits room) {s : List UInt8} {gf : Nat} {F F' : Fi} (hk : nFind M.now s = some gf) (hF : M.fs gf = some F) (hl : (sumN M.fs M.now : Int) + F'.now.length ≤ room + F.now.length) : (sumN (upd M.fs gf F') M.now : Int) ≤ room := by
  have := sumN_upd (fs := M.fs) F' h.once (nFind_mem hk)
  rw [szF_of hF] at this
  omega
theorem Me.Fits.append {M : Me} {room : Int} (h : M.Fits room) (s : ByteArray) (x : List UInt8) : (opAppend M s x).2.Fits room := by
  unfold opAppend
  split
  · exact h
  rename_i gf F hf
  obtain ⟨hF, hk, _⟩ := Me.find_fs hf
  split
  · exact h
  rename_i hr
  split
  · exact h.dead
  refine ⟨h.room, h.once, ?_⟩
  show (sumN (upd M.fs gf _) M.now : Int) ≤ room
  refine h.wrote hk hF ?_
  rw [used_sumN, h.room] at hr
  have : (F.wrote ⟨F.now.length, x⟩).now.length = F.now.length + x.length := by show (F.now.take F.now.length ++ x).length = _; rw [List.take_length, List.length_append]
  omega
theorem Me.Fits.truncate {M : Me} {room : Int} (h : M.Fits room) (s : ByteArray) (n : Int) : (opTruncate M s n).2.Fits room := by
  unfold opTruncate
  split
  · exact h
  rename_i gf F hf
  obtain ⟨hF, hk, _⟩ := Me.find_fs hf
  split
  · exact h
  split
  · exact h.dead
  refine ⟨h.room, h.once, ?_⟩
  show (sumN (upd M.fs gf _) M.now : Int) ≤ room
  refine h.wrote hk hF ?_
  have : (F.wrote ⟨n.toNat, []⟩).now.length ≤ F.now.length := by show (F.now.take n.toNat ++ []).length ≤ _; rw [List.append_nil, List.length_take]; omega
  have := h.used
  omega
theorem Me.Fits.sync {M : Me} {room : Int} (h : M.Fits room) (s : ByteArray) : (opSync M s).2.Fits room := by
  unfold opSync
  split
  · exact h
  rename_i gf F hf
  obtain ⟨hF, hk, _⟩ := Me.find_fs hf
  split
  · exact h.dead
  refine ⟨h.room, h.once, ?_⟩
  show (sumN (upd M.fs gf _) M.now : Int) ≤ room
  refine h.wrote hk hF ?_
  have := h.used
  show (sumN M.fs M.now : Int) + F.now.length ≤ room + F.now.length
  omega
theorem Me.Fits.syncDir {M : Me} {room : Int} (h : M.Fits room) : (opSyncDir M).2.Fits room := by
  unfold opSyncDir
  split
  · exact h
  split
  · exact h.dead
  · exact ⟨h.room, h.once, h.used⟩
theorem Me.Fits.arm {M : Me} {room : Int} (h : M.Fits room) (n : Int) : (opArm M n).2.Fits room := by
  unfold opArm
  split
  · exact h
  split
  · exact h
  · exact ⟨h.room, h.once, h.used⟩
theorem Me.Fits.rotted {M : Me} {room : Int} (h : M.Fits room) (s : ByteArray) (x : Int) (m : Nat) (o : Option Nat) : (M.rotted s x m o).2.Fits room := by
  unfold Me.rotted
  split
  · exact h
  rename_i gf hk
  split
  · exact h
  rename_i F hF
  split
  · exact h
  refine ⟨h.room, h.once, ?_⟩
  show (sumN (upd M.fs gf _) M.now : Int) ≤ room
  refine h.wrote hk hF ?_
  rw [rotAt_now, List.length_modify]
  have := h.used
  omega
theorem Me.Fits.step {M : Me} {room : Int} (h : M.Fits room) (hok : M.ok) (x : Call) (gf : Nat) (o : Option Nat) (hg : M.fs gf = none) (h8 : x.k ≠ 8) (h9 : x.k ≠ 9) : (stepM M x gf o).2.Fits room := by
  unfold stepM
  by_cases e0 : x.k = 0
  · rw [if_pos e0]; exact h.create hok _ _ hg
  rw [if_neg e0]
  by_cases e1 : x.k = 1
  · rw [if_pos e1]; exact h.append _ _
  rw [if_neg e1]
  by_cases e2 : x.k = 2
  · rw [if_pos e2]; exact h.truncate _ _
  rw [if_neg e2]
  by_cases e3 : x.k = 3
  · rw [if_pos e3]; exact h.rename _ _
  rw [if_neg e3]
  by_cases e4 : x.k = 4
  · rw [if_pos e4]; exact h.remove _
  rw [if_neg e4]
  by_cases e5 : x.k = 5
  · rw [if_pos e5]; exact h.sync _
  rw [if_neg e5]
  by_cases e6 : x.k = 6
  · rw [if_pos e6]; exact h.syncDir
  rw [if_neg e6]
  by_cases e7 : x.k = 7
  · rw [if_pos e7]; exact h.arm _
  rw [if_neg e7, if_neg h8, if_neg h9]
  by_cases e10 : x.k = 10
  · rw [if_pos e10]; exact h.rotted _ _ _ _
  rw [if_neg e10]
  exact h
end Go.Proofs.YtljacdbdjacbkaaGreat
