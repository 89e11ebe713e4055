/- Contracts and facts, several texts in one. It proves no statement. -/
import Derived.Test.YtljacdbdjacbkaaGreatMpGd
import Derived.Test.YtljacdbdjacbkaaGreatMpGzf
import Derived.Test.YtljacdbdjacbkaaGreatMpGv
import Derived.Test.YtljacdbdjacbkaaGreatMpGx
import Derived.Test.YtljacdbdjacbkaaGreatMpGzb
import Derived.Test.YtljacdbdjacbkaaGreatMpGq
import Derived.Test.YtljacdbdjacbkaaGreatMpGb

/- Contract: what the document says of a call, on any state of its disk. It proves no statement. -/


namespace Go.Proofs.YtljacdbdjacbkaaGreat
open Go.RowKit Go.Maps Go.WideMaps Go.Sort
set_option linter.unusedVariables false
set_option linter.unusedSimpArgs false

theorem DLeft.of_still {w W w' : World} {base dk : Nat} {own : DOwn} {D' : Dk} (s : Still w W) (h : DLeft W w' base dk own D') : DLeft w w' base dk own D' := by
  obtain ⟨c, own', ho, d⟩ := h
  exact ⟨(Chg.of_still s _).trans c (fun _ _ h => h), own', fun b hb => ho b (Nat.lt_of_lt_of_le hb s.size), d⟩
/-- The room of a call's bytes. -/
def FitAt (v : Value) (x : Call) : Prop := (∀ A m c A2 n2 c2, v = .agg #[.int .i64 x.k, .string x.s, .string x.t, .int .i64 x.nn, .int .i64 x.mm, .slice A m c, .slice A2 n2 c2] → m ≤ c ∧ c ≤ 9223372036854775807)
def ToldOf (w w' : World) (base dk : Nat) (own : DOwn) (e : Ending) (r : (List UInt8 × Int × Bool) × Dk) : Prop := (∃ (q : Nat) (Av : Option Addr) (cv : Nat), e = .returned (.tuple #[.slice Av q cv, .int .i64 r.1.2.1, .bool r.1.2.2]) ∧ w'.ownsRow w.heap.size 5 1 (.slice Av q cv) q (bytesV r.1.1)) ∧ DLeft w w' base dk own r.2
theorem ToldOf.nil {w w' : World} {base dk : Nat} {own : DOwn} {e : Ending} {E : Int} {b : Bool} {D' : Dk} (he : e = .returned (.tuple #[.slice none 0 0, .int .i64 E, .bool b])) (h : DLeft w w' base dk own D') : ToldOf w w' base dk own e (([], E, b), D') := ⟨⟨0, none, 0, he, World.ownsRow_nil _ _ _ _⟩, h⟩
theorem told_D {w : World} {base dk k : Nat} {own : DOwn} {D : Dk} {B : Nat → Prop} {v : Value} {x : Call} (h : DiskI w base own dk D) (hg : D.good k) (hk : k ≤ 700000) (hx : DoAt w B v x) (hf : FitAt v x) (hBo : ∀ b, B b → own b = none) :
    Calls Tryz.prog 8 #[.pointer (some ⟨dk, 0, none⟩), v] w fun e w' => ∃ ro : Bool × Dk, (x.k = 10 → RotD D x.s x.nn (IntKind.u8.wrap x.mm).toNat ro) ∧ ToldOf w w' base dk own e (toldD D x ro) := by
  obtain ⟨A, m, c, A2, n2, c2, rfl, r1, r2, r3, r4, r5, r6, r7, r8, r9, r10⟩ := hx
  obtain ⟨f1, f2⟩ := hf _ _ _ _ _ _ rfl
  obtain ⟨kk, s, t, nn, mm, bb, ll⟩ := x
  have rp : RowP w B A m c bb := ⟨r1.1, f1, f2, r4, fun hm => by
    obtain ⟨b, o, e, hb, hc⟩ := r1.2 hm
    exact ⟨b, o, e, r2 _ e hm, hb, hc⟩⟩
  have hs : s.size ≤ 9223372036854775807 := by have := r8; unfold maxLen at this; dsimp only at this; omega
  have ht : t.size ≤ 9223372036854775807 := by have := r9; unfold maxLen at this; dsimp only at this; omega
  by_cases e0 : kk = 0
  · subst e0
    refine (told_by0 _ nn mm s t A m c A2 n2 c2 w (fun E W w' => E = (createD D s).1 ∧ DLeft W w' base dk own (createD D s).2) (fun W st => (create_D (h.still st) hg hk s hs).mono fun e w' hh => ⟨_, hh.1, rfl, hh.2⟩)).mono ?_
    rintro e w' ⟨E, W, st, he, rfl, h3⟩
    exact ⟨(false, D), fun (h : (0 : Int) = 10) => absurd h (by decide), by unfold toldD; simp only [Int.reduceEq, if_false, if_true]; exact ToldOf.nil he (h3.of_still st)⟩
  by_cases e1 : kk = 1
  · subst e1
    refine (told_by1 _ nn mm s t A m c A2 n2 c2 w (fun E W w' => E = (byteD D s ⟨false, 0, bb⟩).1 ∧ DLeft W w' base dk own (byteD D s ⟨false, 0, bb⟩).2) (fun W st => (byte_D (h.still st) hg hk s ⟨false, 0, bb⟩ (rp.still st) hBo (by omega)).mono fun e w' hh => ⟨_, hh.1, rfl, hh.2⟩)).mono ?_
    rintro e w' ⟨E, W, st, he, rfl, h3⟩
    exact ⟨(false, D), fun (h : (1 : Int) = 10) => absurd h (by decide), by unfold toldD; simp only [Int.reduceEq, if_false, if_true]; exact ToldOf.nil he (h3.of_still st)⟩
  by_cases e2 : kk = 2
  · subst e2
    refine (told_by2 _ nn mm s t A m c A2 n2 c2 w (fun E W w' => E = (byteD D s ⟨true, nn, []⟩).1 ∧ DLeft W w' base dk own (byteD D s ⟨true, nn, []⟩).2) (fun W st => (byte_D (P := B) (h.still st) hg hk s ⟨true, nn, []⟩ RowP.none_ hBo (by omega)).mono fun e w' hh => ⟨_, hh.1, rfl, hh.2⟩)).mono ?_
    rintro e w' ⟨E, W, st, he, rfl, h3⟩
    exact ⟨(false, D), fun (h : (2 : Int) = 10) => absurd h (by decide), by unfold toldD; simp only [Int.reduceEq, if_false, if_true]; exact ToldOf.nil he (h3.of_still st)⟩
  by_cases e3 : kk = 3
  · subst e3
    refine (told_by3 _ nn mm s t A m c A2 n2 c2 w (fun E W w' => E = (moveD D s t false).1 ∧ DLeft W w' base dk own (moveD D s t false).2) (fun W st => (move_D (h.still st) hg hk s t false ht).mono fun e w' hh => ⟨_, hh.1, rfl, hh.2⟩)).mono ?_
    rintro e w' ⟨E, W, st, he, rfl, h3⟩
    exact ⟨(false, D), fun (h : (3 : Int) = 10) => absurd h (by decide), by unfold toldD; simp only [Int.reduceEq, if_false, if_true]; exact ToldOf.nil he (h3.of_still st)⟩
  by_cases e4 : kk = 4
  · subst e4
    refine (told_by4 _ nn mm s t A m c A2 n2 c2 w (fun E W w' => E = (moveD D s ⟨#[]⟩ true).1 ∧ DLeft W w' base dk own (moveD D s ⟨#[]⟩ true).2) (fun W st => (move_D (h.still st) hg hk s ⟨#[]⟩ true (by decide)).mono fun e w' hh => ⟨_, hh.1, rfl, hh.2⟩)).mono ?_
    rintro e w' ⟨E, W, st, he, rfl, h3⟩
    exact ⟨(false, D), fun (h : (4 : Int) = 10) => absurd h (by decide), by unfold toldD; simp only [Int.reduceEq, if_false, if_true]; exact ToldOf.nil he (h3.of_still st)⟩
  by_cases e5 : kk = 5
  · subst e5
    refine (told_by5 _ nn mm s t A m c A2 n2 c2 w (fun E W w' => E = (syncD D s false).1 ∧ DLeft W w' base dk own (syncD D s false).2) (fun W st => (sync_D (h.still st) hg hk s false).mono fun e w' hh => ⟨_, hh.1, rfl, hh.2⟩)).mono ?_
    rintro e w' ⟨E, W, st, he, rfl, h3⟩
    exact ⟨(false, D), fun (h : (5 : Int) = 10) => absurd h (by decide), by unfold toldD; simp only [Int.reduceEq, if_false, if_true]; exact ToldOf.nil he (h3.of_still st)⟩
  by_cases e6 : kk = 6
  · subst e6
    refine (told_by6 _ nn mm s t A m c A2 n2 c2 w (fun E W w' => E = (syncD D ⟨#[]⟩ true).1 ∧ DLeft W w' base dk own (syncD D ⟨#[]⟩ true).2) (fun W st => (sync_D (h.still st) hg hk ⟨#[]⟩ true).mono fun e w' hh => ⟨_, hh.1, rfl, hh.2⟩)).mono ?_
    rintro e w' ⟨E, W, st, he, rfl, h3⟩
    exact ⟨(false, D), fun (h : (6 : Int) = 10) => absurd h (by decide), by unfold toldD; simp only [Int.reduceEq, if_false, if_true]; exact ToldOf.nil he (h3.of_still st)⟩
  by_cases e7 : kk = 7
  · subst e7
    refine (told_by7 _ nn mm s t A m c A2 n2 c2 w (fun E W w' => E = (armD D nn).1 ∧ DLeft W w' base dk own (armD D nn).2) (fun W st => (arm_D (h.still st) nn).mono fun e w' hh => ⟨_, hh.1, rfl, hh.2⟩)).mono ?_
    rintro e w' ⟨E, W, st, he, rfl, h3⟩
    exact ⟨(false, D), fun (h : (7 : Int) = 10) => absurd h (by decide), by unfold toldD; simp only [Int.reduceEq, if_false, if_true]; exact ToldOf.nil he (h3.of_still st)⟩
  by_cases e8 : kk = 8
  · subst e8
    refine (told_by8 _ nn mm s t A m c A2 n2 c2 w (fun W w' => DLeft W w' base dk own (crashD D ll)) (fun W st => crash_D (h.still st) hg hk (r5.chg (Chg.of_still st (fun _ => False)) (fun _ _ h => h)) hBo r6 r7)).mono ?_
    rintro e w' ⟨W, st, he, h3⟩
    exact ⟨(false, D), fun (h : (8 : Int) = 10) => absurd h (by decide), by unfold toldD; simp only [Int.reduceEq, if_false, if_true]; exact ToldOf.nil he (h3.of_still st)⟩
  by_cases e9 : kk = 9
  · subst e9
    refine (told_by9 _ nn mm s t A m c A2 n2 c2 w (fun E W w' => E = (roomD D nn).1 ∧ DLeft W w' base dk own (roomD D nn).2) (fun W st => (room_D (h.still st) nn).mono fun e w' hh => ⟨_, hh.1, rfl, hh.2⟩)).mono ?_
    rintro e w' ⟨E, W, st, he, rfl, h3⟩
    exact ⟨(false, D), fun (h : (9 : Int) = 10) => absurd h (by decide), by unfold toldD; simp only [Int.reduceEq, if_false, if_true]; exact ToldOf.nil he (h3.of_still st)⟩
  by_cases e10 : kk = 10
  · subst e10
    obtain ⟨q, hq, hw⟩ := u8_wrap mm
    have hqt : (IntKind.u8.wrap mm).toNat = q := by rw [hw]; rfl
    refine (told_by10 _ nn mm s t A m c A2 n2 c2 w (fun E W w' => ∃ D', RotD D s nn q (E, D') ∧ DLeft W w' base dk own D') (fun W st => ?_)).mono ?_
    · rw [hw]
      refine (rot_D (h.still st) hg hk s nn q hq r10).mono ?_
      rintro e w' ⟨r, D', h1, h2, h3⟩
      exact ⟨r, h1, D', h3, h2⟩
    · rintro e w' ⟨E, W, st, he, D', h1, h3⟩
      refine ⟨(E, D'), fun _ => by rw [hqt]; exact h1, ?_⟩
      unfold toldD
      simp only [Int.reduceEq, if_false, if_true]
      exact ToldOf.nil he (h3.of_still st)
  · refine (told_byR _ kk ⟨e0, e1, e2, e3, e4, e5, e6, e7, e8, e9, e10⟩ nn mm s t A m c A2 n2 c2 w (fun q v E W w' => q = (readD D s.data.toList nn mm).1.length ∧ E = (readD D s.data.toList nn mm).2 ∧ w'.ownsRow W.heap.size 5 1 v q (bytesV (readD D s.data.toList nn mm).1) ∧ Still W w') (fun W st => ?_)).mono ?_
    · refine (read_D (h.still st) hg s nn mm r10).mono ?_
      rintro e w' ⟨⟨Av, cv, h1, h2⟩, h3⟩
      exact ⟨_, Av, cv, _, h1, rfl, rfl, h2, h3⟩
    · rintro e w' ⟨q, Av, cv, E, W, st, he, hq, hE, hrow, s2⟩
      refine ⟨(false, D), fun hh => absurd hh e10, ?_⟩
      unfold toldD
      simp only [e0, e1, e2, e3, e4, e5, e6, e7, e8, e9, e10, if_false]
      exact ⟨⟨q, Av, cv, by rw [he, hE], own_lowM hrow st.size⟩, DLeft.still h (st.trans s2)⟩
end Go.Proofs.YtljacdbdjacbkaaGreat

/- Contract: Size of a file that is there, and the way with an error. It proves no statement. -/


namespace Go.Proofs.YtljacdbdjacbkaaGreat
open Go.RowKit Go.Maps Go.WideMaps
set_option linter.unusedVariables false
set_option linter.unusedSimpArgs false

theorem size_ok {w : World} {g : Nat} {room : Int} {bn bf : Nat} {wv : Value} {left : Int} (h : MedB w g room bn bf wv left false) (s : ByteArray) (hs : s.size ≤ maxLen) (n : Nat) (D : DataW Unit) (hown : NM w bn n D) (gf nf c : Nat) (A : Option Addr) (fv wtv : Value) (hlk : look D s = (gf : Int)) (hf : FileB w gf (.slice A nf c) fv wtv) :
    Calls Tryz.prog 11 #[.pointer (some ⟨g, 0, none⟩), .string s] w fun e w' => e = .returned (.tuple #[.int .i64 nf, .int .i64 0]) ∧ w = w' := by
  have FD := Lib.hid (find_yes h s n D hown hs)
  rw [hlk, show findV false (gf : Int) = pv (gf : Int) from rfl, pv_at, show findE false (gf : Int) = if (gf : Int) < 0 then 9 else 0 from rfl, if_neg (by omega)] at FD
  have c0 : w.cell? ⟨gf, 0, none⟩ = some (.slice A nf c) := Blk.cell hf 0
  clear h hown hs hlk hf
  go_enter Tryz.func11, Tryz.ntmps11
  go_wp2_with fail
  refine FD.out.mono ?_
  rintro e w2 ⟨rfl, rfl⟩
  go_wp2_with fail
  go_ret2
  exact ⟨rfl, rfl⟩

theorem size_err (P : Value) (s : ByteArray) (w : World) (E : Int) (b1 : (E != 0) = true) (h : Calls Tryz.prog 48 #[P, .string s] w fun e w' => e = .returned (.tuple #[.pointer none, .int .i64 E]) ∧ w = w') : Calls Tryz.prog 11 #[P, .string s] w fun e w' => e = .returned (.tuple #[.int .i64 0, .int .i64 E]) ∧ w = w' := by
  have HW := Lib.hid h
  clear h
  go_enter Tryz.func11, Tryz.ntmps11
  go_wp2_with fail
  refine HW.out.mono ?_
  rintro e w1 ⟨rfl, rfl⟩
  go_wp2_with fail
  go_ret2
  exact ⟨rfl, rfl⟩
end Go.Proofs.YtljacdbdjacbkaaGreat

/- Contract: Size, whatever stands against it. It proves no statement. -/


namespace Go.Proofs.YtljacdbdjacbkaaGreat
open Go.RowKit Go.Maps Go.WideMaps Go.Sort
set_option linter.unusedVariables false
set_option linter.unusedSimpArgs false

theorem size_M {w : World} {base g : Nat} {own : Own} {M : Me} (s : ByteArray) (h : MedI w base own g M) (hok : M.ok) (hs : s.size ≤ maxLen) :
    Calls Tryz.prog 11 #[.pointer (some ⟨g, 0, none⟩), .string s] w fun e w' => e = .returned (.tuple #[.int .i64 ((M.bytes s).1.length : Nat), .int .i64 (M.bytes s).2]) ∧ w = w' := by
  rcases find_M s h hok hs with ⟨E, hE, hEE, hf⟩ | ⟨gf, F, hE, hoff, hlk, hF, hf⟩
  · have e : M.bytes s = ([], E) := by unfold Me.bytes; rw [hE]
    rw [e]
    exact size_err _ s w E (err_ne hEE) hf
  · have e : M.bytes s = (F.now, 0) := by unfold Me.bytes; rw [hE]
    rw [e]
    obtain ⟨bn, bf, wv, ns, nn, nf, d1, d2, _⟩ := h.dir
    obtain ⟨q1, q2, q3, nv, fv, wtv, cs, f1, f2, _⟩ := h.files gf F hF
    obtain ⟨Anv, cnv, rfl, _, _, _⟩ := own_form f2
    rw [hoff] at d1
    exact size_ok d1 s hs nn _ d2 gf F.now.length cnv Anv fv wtv (look_found hlk) f1
end Go.Proofs.YtljacdbdjacbkaaGreat

/- Contract: Medium.Power. It proves no statement. -/

namespace Go.Proofs.YtljacdbdjacbkaaGreat
open Go.RowKit Go.Maps Go.WideMaps Go.Sort
set_option linter.unusedVariables false
set_option linter.unusedSimpArgs false

theorem power_err (P : Value) (w : World) (E : Int) (b1 : (E != 0) = true) (h : Calls Tryz.prog 50 #[P] w fun e w' => e = .returned (.int .i64 E) ∧ w = w') : Calls Tryz.prog 43 #[P] w fun e w' => e = .returned (.bool false) ∧ w = w' := by
  have HW := Lib.hid h
  clear h
  have b2 : (E == 0) = false := by simpa [bne] using b1
  go_enter Tryz.func43, Tryz.ntmps43
  go_wp2_with fail
  refine HW.out.mono ?_
  rintro e w1 ⟨rfl, rfl⟩
  go_wp2_with fail
  go_ret
  exact ⟨rfl, rfl⟩
theorem power_on {P : Value} {w : World} (h : Calls Tryz.prog 50 #[P] w fun e w' => e = .returned (.int .i64 0) ∧ w = w') :
    Calls Tryz.prog 43 #[P] w fun e w' => e = .returned (.bool true) ∧ w = w' := by
  have HW := Lib.hid h
  clear h
  go_enter Tryz.func43, Tryz.ntmps43
  go_wp2_with fail
  refine HW.out.mono ?_
  rintro e w1 ⟨rfl, rfl⟩
  go_wp2_with fail
  go_ret
  exact ⟨rfl, rfl⟩
theorem power_M {w : World} {base g : Nat} {own : Own} {M : Me} (h : MedI w base own g M) :
    Calls Tryz.prog 43 #[.pointer (some ⟨g, 0, none⟩)] w fun e w' => e = .returned (.bool (!M.off)) ∧ w = w' := by
  obtain ⟨bn, bf, wv, ns, nn, nf, d1, d2, _⟩ := h.dir
  cases hoff : M.off with
  | true => rw [hoff] at d1; exact power_err _ w 12 (by decide) (works_off d1)
  | false => rw [hoff] at d1; exact power_on (works_on d1)
end Go.Proofs.YtljacdbdjacbkaaGreat

/- Rows of names; the document's Same of two that are alike. It proves no statement. -/

namespace Go.Proofs.YtljacdbdjacbkaaGreat
open Go.RowKit Go.Maps Go.WideMaps
set_option linter.unusedVariables false
set_option linter.unusedSimpArgs false

/-- Rows of names that can be read. -/
def NamesR (w : World) (A : Option Addr) (n : Nat) (N : NT) : Prop := N.length = n ∧ (0 < n → ∃ b o, A = some ⟨b, o, none⟩ ∧ b < w.heap.size ∧ ∀ i p, N[i]? = some p → w.cell? ⟨b, o + i, none⟩ = some (.string ⟨p.1.toArray⟩))
theorem NamesR.still {w w' : World} {A : Option Addr} {n : Nat} {N : NT} (h : NamesR w A n N) (s : Still w w') : NamesR w' A n N :=
  ⟨h.1, fun hn => by
    obtain ⟨b, o, e, hb, hc⟩ := h.2 hn
    exact ⟨b, o, e, Nat.lt_of_lt_of_le hb s.size, fun i p hp => (s.cell (p := ⟨b, o + i, none⟩) hb).trans (hc i p hp)⟩⟩
theorem NamesR.of_own {w : World} {base n c : Nat} {A : Option Addr} {N : NT} (h : w.ownsRow base 9 1 (.slice A n c) n (namesV N)) : NamesR w A n N := by
  have hl : N.length = n := by have := h.1; rw [namesV_length] at this; omega
  refine ⟨hl, fun hn => ?_⟩
  rcases h.2 with ⟨_, h0⟩ | ⟨g, cp, cur, hv, hg, hb, _⟩
  · omega
  · injection hv with hv1
    subst hv1
    refine ⟨g, 0, rfl, (Array.getElem?_eq_some_iff.1 hb).1, fun i p hp => ?_⟩
    have hi : i < N.length := (List.getElem?_eq_some_iff.1 hp).1
    rw [Nat.zero_add, h.cellAt i (by omega)]
    exact namesV_get N i p hp
set_option maxRecDepth 100000 in
set_option maxHeartbeats 1600000 in
/-- The document's Same of two rows of names that are alike. -/
theorem names_same (A A' : Option Addr) (n c c' : Nat) (N : NT) (w : World) (h : NamesR w A n N) (h' : NamesR w A' n N) (hn : n ≤ 70368744177664) :
    Calls Tryz.prog 41 #[.slice A n c, .slice A' n c'] w fun e w' => e = .returned (.bool true) ∧ ∃ m, w' = w.drewN m := by
  have HH := Lib.hid h
  have HH' := Lib.hid h'
  clear h h'
  go_enter Tryz.func41, Tryz.ntmps41
  go_wp2_with fail
  go_loopw [5] (fun iv wr => ∃ k : Nat, k ≤ n ∧ iv = .int .i64 k ∧ Hid (∃ m, wr = w.drewN m)) (fun iv _ => n - (intOf iv).toNat)
  case atStart => exact ⟨0, Nat.zero_le _, rfl, 0, rfl⟩
  case round =>
    obtain ⟨k, hk, rfl, hin⟩ := hrel
    obtain ⟨mm, hwm⟩ := hin.out
    have st : Still w wr := by rw [hwm]; exact still_drewN (Still.refl w) mm
    have HWM := Lib.hid hwm
    have hr := HH.out.still st
    have hr' := HH'.out.still st
    clear hwm st
    by_cases hlt : k < n
    · obtain ⟨b, o, rfl, hb, hc⟩ := hr.2 (by omega)
      obtain ⟨b', o', rfl, hb', hc'⟩ := hr'.2 (by omega)
      obtain ⟨pp, hp⟩ : ∃ pp, N[k]? = some pp := ⟨_, List.getElem?_eq_getElem (by rw [hr.1]; exact hlt)⟩
      have d1 := hc k _ hp
      have d2 := hc' k _ hp
      obtain ⟨X, hX⟩ : ∃ X : ByteArray, X = ⟨pp.1.toArray⟩ := ⟨_, rfl⟩
      rw [← hX] at d1 d2
      have z1 : (0 : Int) ≤ (k : Int) := by omega
      have z2 : (k : Int) < (n : Int) := by omega
      have HLT := Lib.hid hlt
      clear hc hc' hb hb' hlt hr hr' hp hX
      go_wp2_with fail
      go_quiet (fail)
      go_wp2_with fail
      go_roundw
      case rel => exact ⟨k + 1, by have := HLT.out; omega, by go_num, mm + nq, by rw [HWM.out, World.drewN_drewN]⟩
      case measure => simp [intOf]; have := HLT.out; omega
    · obtain rfl : k = n := by omega
      clear hr hr'
      go_wp2_with fail
      go_ret
      exact ⟨rfl, mm, HWM.out⟩
end Go.Proofs.YtljacdbdjacbkaaGreat

/- Contract: hoardref01.Same of whatever bytes. It proves no statement. -/

namespace Go.Proofs.YtljacdbdjacbkaaGreat
open Go.RowKit
set_option linter.unusedVariables false
set_option linter.unusedSimpArgs false

theorem bytes_ext (l l' : List UInt8) (hl : l.length = l'.length) (h : ∀ i, i < l.length → l.getD i 0 = l'.getD i 0) : l = l' := by
  apply List.ext_getElem hl
  intro i h1 h2
  have := h i h1
  simpa [List.getD, h1, h2] using this

set_option maxRecDepth 100000 in
set_option maxHeartbeats 1600000 in
theorem same_quiet (A A' : Option Addr) (n n' c c' : Nat) (l l' : List UInt8) (w : World) (B B' : Nat) (h : Reads w B A n l) (h' : Reads w B' A' n' l') (hn : n ≤ 70368744177664) (hn' : n' ≤ 70368744177664) :
    Calls Tryz.prog 9 #[.slice A n c, .slice A' n' c'] w fun e w' => e = .returned (.bool (decide (l = l'))) ∧ ∃ m, w' = w.drewN m := by
  have h1 := h.1
  have h2 := h'.1
  by_cases hlen : n = n'
  · subst hlen
    obtain ⟨q, hq⟩ : ∃ q, q = decide (l = l') := ⟨_, rfl⟩
    rw [← hq]
    have HQ := Lib.hid hq
    have HL := Lib.hid (⟨h1, h2⟩ : l.length = n ∧ l'.length = n)
    have HH := Lib.hid h
    have HH' := Lib.hid h'
    have d3 : (n : Int) ≤ 70368744177664 := by omega
    clear hq h1 h2 h h' hn hn'
    go_enter Tryz.func9, Tryz.ntmps9
    go_wp2_with fail
    go_loopw [5] (fun iv wr => ∃ k : Nat, k ≤ n ∧ iv = .int .i64 k ∧ Hid ((∀ i, i < k → l.getD i 0 = l'.getD i 0) ∧ ∃ m, wr = w.drewN m)) (fun iv _ => n - (intOf iv).toNat)
    case atStart => exact ⟨0, Nat.zero_le _, rfl, fun i hi => by omega, 0, rfl⟩
    case round =>
      obtain ⟨k, hk, rfl, hin⟩ := hrel
      obtain ⟨mm, hwm⟩ := hin.out.2
      have st : Still w wr := by rw [hwm]; exact still_drewN (Still.refl w) mm
      have hkeep : Reads wr B A n l ∧ Reads wr B' A' n l' := by
        rw [hwm]
        exact ⟨HH.out.keep fun _ _ => rfl, HH'.out.keep fun _ _ => rfl⟩
      have ST := Lib.hid st
      have HWM := Lib.hid hwm
      clear hwm st
      by_cases hlt : k < n
      · obtain ⟨b, o, rfl, hb, hc⟩ := hkeep.1.at_ (by omega)
        obtain ⟨b', o', rfl, hb', hc'⟩ := hkeep.2.at_ (by omega)
        have c1 := hc k hlt
        have c2 := hc' k hlt
        obtain ⟨y, hy⟩ : ∃ y, y = l.getD k 0 := ⟨_, rfl⟩
        obtain ⟨y', hy'⟩ : ∃ y, y = l'.getD k 0 := ⟨_, rfl⟩
        rw [← hy] at c1
        rw [← hy'] at c2
        have HY := Lib.hid hy
        have HY' := Lib.hid hy'
        have HLT := Lib.hid hlt
        have z1 : (0 : Int) ≤ (k : Int) := by omega
        have z2 : (k : Int) < (n : Int) := by omega
        clear hc hc' hb hb' hy hy' hlt hkeep
        by_cases hyy : y = y'
        · subst hyy
          generalize y.toNat = yy at *
          go_wp2_with fail
          go_quiet (fail)
          go_wp2_with fail
          go_roundw
          case rel =>
            refine ⟨k + 1, by have := HLT.out; omega, by go_num, Lib.hid ⟨fun i hi => ?_, mm + nq, ?_⟩⟩
            · by_cases h : i = k
              · rw [h, ← HY.out, ← HY'.out]
              · exact hin.out.1 i (by omega)
            · rw [HWM.out, World.drewN_drewN]
          case measure => simp [intOf]; have := HLT.out; omega
        · have hne : ¬ y.toNat = y'.toNat := fun e => hyy (UInt8.toNat_inj.1 e)
          have hq : q = false := by
            rw [HQ.out]
            simp only [decide_eq_false_iff_not]
            intro e
            exact hyy (by rw [HY.out, HY'.out, e])
          have HNE := Lib.hid hq
          have hni : (((y.toNat : Nat) : Int) == ((y'.toNat : Nat) : Int)) = false := by
            rw [beq_eq_false_iff_ne]
            omega
          have hni2 : (((y.toNat : Nat) : Int) != ((y'.toNat : Nat) : Int)) = true := by rw [bne_iff_ne]; omega
          generalize y.toNat = yy at *
          generalize y'.toNat = yy' at *
          clear hyy hq hne
          go_wp2_with fail
          go_quiet (fail)
          go_wp2_with fail
          (try simp only [Exit.inBlock, Exit.then])
          go_ret
          rw [HNE.out]
          exact ⟨rfl, mm + nq, by rw [HWM.out, World.drewN_drewN]⟩
      · obtain rfl : k = n := by omega
        have hq : q = true := by
          rw [HQ.out]
          simp only [decide_eq_true_eq]
          exact bytes_ext _ _ (HL.out.1.trans HL.out.2.symm) fun i hi => hin.out.1 i (by have := HL.out.1; omega)
        have HNE := Lib.hid hq
        clear hq hlt hkeep
        go_wp2_with fail
        go_ret
        rw [HNE.out]
        exact ⟨rfl, mm, HWM.out⟩
  · have hne : ¬ l = l' := fun e => hlen (by rw [← h1, ← h2, e])
    rw [show decide (l = l') = false by simpa using hne]
    have d : ((n : Int) != (n' : Int)) = true := by simp; omega
    clear hne hlen h h' h1 h2 hn hn'
    go_enter Tryz.func9, Tryz.ntmps9
    go_wp2_with fail
    (try simp only [Exit.inBlock, Exit.then])
    go_ret
    exact ⟨rfl, 0, rfl⟩
/-- The same, told as nothing that was there turns. -/
theorem same_any (A A' : Option Addr) (n n' c c' : Nat) (l l' : List UInt8) (w : World) (B B' : Nat) (h : Reads w B A n l) (h' : Reads w B' A' n' l') (hn : n ≤ 70368744177664) (hn' : n' ≤ 70368744177664) :
    Calls Tryz.prog 9 #[.slice A n c, .slice A' n' c'] w fun e w' => e = .returned (.bool (decide (l = l'))) ∧ Still w w' :=
  (same_quiet A A' n n' c c' l l' w B B' h h' hn hn').mono fun e w' ⟨he, m, hw⟩ => ⟨he, hw ▸ still_drewN (Still.refl w) m⟩
end Go.Proofs.YtljacdbdjacbkaaGreat
