/- MediaRoom, walked. It proves no statement. -/
import Derived.Test.YtlddmgofjeibaaaMdRoomM
import Derived.Test.YtlddmgofjeibaaaMdFewN
import Derived.Test.YtlddmgofjeibaaaMdLives
import Derived.Test.YtlddmgofjeibaaaWithin
namespace Go.Proofs.Ytlddmgofjeibaaa
open Go.RowKit Go.Maps Go.WideMaps Go.Sort
set_option linter.unusedVariables false
set_option linter.unusedSimpArgs false

theorem find_err {M : Me} {s : ByteArray} {E : Int} (h : M.find s = .inl E) : E = 12 ∨ E = 9 := by
  unfold Me.find at h
  split at h
  · injection h with h; exact .inl h.symm
  · split at h
    · injection h with h; exact .inr h.symm
    · split at h
      · injection h with h; exact .inr h.symm
      · cases h
/-- Only an Append answers that there is no room. -/
theorem full_only {M : Me} {x : Call} {gf : Nat} {o : Option Nat} (h : (stepM M x gf o).1.2.1 = 11) : x.k = 1 ∧ M.off = false ∧ M.room < (x.b.length : Int) + M.used := by
  unfold stepM at h
  by_cases e0 : x.k = 0
  · rw [if_pos e0] at h
    exfalso
    unfold opCreate at h
    revert h
    dsimp only
    repeat' split
    all_goals (intro h; simp at h)
  rw [if_neg e0] at h
  by_cases e1 : x.k = 1
  · rw [if_pos e1] at h
    refine ⟨e1, ?_⟩
    unfold opAppend at h
    cases hf : M.find x.s with
    | inl E => rw [hf] at h; have := find_err hf; simp at h; omega
    | inr q =>
      obtain ⟨gf, F⟩ := q
      rw [hf] at h
      refine ⟨(Me.find_fs hf).2.2, ?_⟩
      by_cases c : M.room < (x.b.length : Int) + M.used
      · exact c
      · exfalso
        simp only [if_neg c] at h
        split at h <;> simp at h
  rw [if_neg e1] at h
  exfalso
  by_cases e2 : x.k = 2
  · rw [if_pos e2] at h
    unfold opTruncate at h
    cases hf : M.find x.s with
    | inl E => rw [hf] at h; have := find_err hf; simp at h; omega
    | inr q =>
      rw [hf] at h
      revert h
      dsimp only
      repeat' split
      all_goals (intro h; simp at h)
  rw [if_neg e2] at h
  have hn : ∀ y, (opName M y).1 ≠ 11 := fun y => by unfold opName; split <;> simp
  by_cases e3 : x.k = 3
  · rw [if_pos e3] at h
    unfold opRename at h
    cases hf : M.find x.s with
    | inl E => rw [hf] at h; have := find_err hf; simp at h; omega
    | inr q =>
      rw [hf] at h
      dsimp only at h
      split at h
      · simp at h
      · exact hn _ h
  rw [if_neg e3] at h
  by_cases e4 : x.k = 4
  · rw [if_pos e4] at h
    unfold opRemove at h
    cases hf : M.find x.s with
    | inl E => rw [hf] at h; have := find_err hf; simp at h; omega
    | inr q =>
      rw [hf] at h
      exact hn _ h
  rw [if_neg e4] at h
  by_cases e5 : x.k = 5
  · rw [if_pos e5] at h
    unfold opSync at h
    cases hf : M.find x.s with
    | inl E => rw [hf] at h; have := find_err hf; simp at h; omega
    | inr q =>
      rw [hf] at h
      revert h
      dsimp only
      repeat' split
      all_goals (intro h; simp at h)
  rw [if_neg e5] at h
  by_cases e6 : x.k = 6
  · rw [if_pos e6] at h
    unfold opSyncDir at h
    revert h
    dsimp only
    repeat' split
    all_goals (intro h; simp at h)
  rw [if_neg e6] at h
  by_cases e7 : x.k = 7
  · rw [if_pos e7] at h
    unfold opArm at h
    revert h
    dsimp only
    repeat' split
    all_goals (intro h; simp at h)
  rw [if_neg e7] at h
  by_cases e8 : x.k = 8
  · rw [if_pos e8] at h; simp at h
  rw [if_neg e8] at h
  by_cases e9 : x.k = 9
  · rw [if_pos e9] at h
    unfold opSetRoom at h
    revert h
    dsimp only
    repeat' split
    all_goals (intro h; simp at h)
  rw [if_neg e9] at h
  by_cases e10 : x.k = 10
  · rw [if_pos e10] at h; simp at h
  rw [if_neg e10] at h
  unfold opRead at h
  cases hf : M.find x.s with
  | inl E => rw [hf] at h; have := find_err hf; simp at h; omega
  | inr q =>
    rw [hf] at h
    revert h
    dsimp only
    repeat' split
    all_goals (intro h; simp at h)
/-- One of the calls that were cut, as a value. -/
theorem HasD.at_ {W : World} {base B : Nat} {X : List Call} {xs : List Value} {gl n c : Nat} (h : HasD W base B X xs) (hrow : W.ownsRow base 43 7 (.slice (some ⟨gl, 0, none⟩) n c) n xs) (hn : X.length = n) {i : Nat} {x : Call} (hx : X[i]? = some x) (hB : B ≤ W.heap.size) :
    ∃ A m cc A2 n2 c2, W.rangeAt gl (i * 7) (doL x A m cc A2 n2 c2) ∧ x.b.length = m ∧ m ≤ 100 ∧ ∀ P : Nat → Prop, (∀ b, b < W.heap.size → P b) → DoAt W P (.agg (doL x A m cc A2 n2 c2).toArray) x := by
  obtain ⟨A, m, cc, A2, n2, c2, h1, h2, h3, h4, h5, h6, h7, h8, h9⟩ := h.2 i x hx
  have hil : i < X.length := (List.getElem?_eq_some_iff.1 hx).1
  obtain ⟨A', c', ev, f1, f2, f3⟩ := own_form h2
  injection ev with ev1 _ ev2
  subst ev1 ev2
  have hbl : x.b.length = m := (Reads.of_own h2).1
  refine ⟨A, m, cc, A2, n2, c2, ?_, hbl, h3, fun P hP => ⟨A, m, cc, A2, n2, c2, rfl, Reads.of_own h2, ?_, h3, f3, ⟨h4.1, fun h0 => ?_⟩, h5, h6, by unfold maxLen; omega, by unfold maxLen; omega, h9⟩⟩
  · intro q u hq
    have hq7 : q < 7 := (List.getElem?_eq_some_iff.1 hq).1
    rw [hrow.cellAt (i * 7 + q) (by omega), h1 q hq7]
    exact hq
  · intro ad e hm
    obtain ⟨bb, o, e2, hlt, _⟩ := (Reads.of_own h2).2 hm
    rw [e] at e2
    injection e2 with e2
    rw [e2]
    exact hP bb hlt
  · obtain ⟨b, o, e, hb, hl, hc⟩ := h4.2 h0
    exact ⟨b, o, e, hP b hl, hl, hc⟩
/-- The walk's state: the medium, behind so many calls. -/
def RS (w4 wr : World) (g : Nat) (rm : Int) (i : Nat) : Prop := ∃ (own : Own) (M : Me), MedI wr w4.heap.size own g M ∧ M.good i ∧ M.Fits rm ∧ Still w4 wr
theorem RS.left {w4 wr w' : World} {g i : Nat} {rm : Int} {own : Own} {M M' : Me} (h : MedI wr w4.heap.size own g M) (s : Still w4 wr) (hl : Left wr w' w4.heap.size g own M') (hg : M'.good (i + 1)) (hf : M'.Fits rm) : RS w4 w' g rm (i + 1) := by
  obtain ⟨c, own', _, m⟩ := hl
  exact ⟨own', M', m, hg, hf, c.still s (fun b hb => (h.dom b hb).1)⟩
set_option maxRecDepth 100000 in
set_option maxHeartbeats 6400000 in
theorem mediaRoom_walk (r0 : Int) (A : Option Addr) (n c : Nat) (L : List Call) (w : World) (hin : DosIn w w.heap.size A L) (hn : L.length = n) (hnc : n ≤ c) (hcm : c ≤ 9223372036854775807) :
    Calls Try.prog 7 #[.int .i64 r0, .slice A n c] w fun e w' => e = .returned (.bool true) ∧ Still w w' := by
  have WI := Lib.hid (within_any r0 0 500 w (by decide))
  have FEW := Lib.hid (few_any A n c 50 L w w.heap.size hin (Nat.le_refl _) hn hnc hcm (by omega))
  have LV := Lib.hid (fun W => lives_any W)
  obtain ⟨X, hX⟩ : ∃ X, X = (L.take 50).map cutD := ⟨_, rfl⟩
  obtain ⟨N, hN⟩ : ∃ N, N = min n 50 := ⟨_, rfl⟩
  have hXN : X.length = N := by rw [hX, List.length_map, List.length_take, hn, hN]; omega
  rw [← hX, ← hN] at FEW
  have XN := Lib.hid hXN
  have hN50 : N ≤ 50 := by omega
  clear hin hn hnc hcm hX hN hXN
  go_enter Try.func7, Try.ntmps7
  go_wp2_with fail
  refine WI.out.mono ?_
  rintro e w1 ⟨⟨rm, hr0, hr1, rfl⟩, rfl⟩
  clear WI
  go_wp2_with fail
  refine FEW.out.mono ?_
  rintro e w4 ⟨⟨ov, xs, rfl, o4, has4⟩, s4⟩
  obtain ⟨Ao, co, rfl⟩ := own_formV o4
  have O4 := Lib.hid o4
  have HD := Lib.hid has4
  have S4 := Lib.hid s4
  have NW := Lib.hid (new_I rm w4 ⟨hr0, by omega⟩)
  have VF := Lib.hid (show N ≤ co ∧ co ≤ 9223372036854775807 ∧ (0 < N → ∃ b, Ao = some ⟨b, 0, none⟩) from by
    rcases o4.2 with ⟨h, h0⟩ | ⟨q, cap, cur, h, h2, h3, h4, h5, _⟩
    · injection h with q1 q2 q3
      exact ⟨by omega, by omega, fun i => by omega⟩
    · injection h with q1 q2 q3
      subst q1 q3
      exact ⟨h4, by unfold maxLen at h5; omega, fun i => ⟨_, rfl⟩⟩)
  clear o4 has4 s4 FEW
  go_wp2_with fail
  refine NW.out.mono ?_
  rintro e w5 ⟨g, own, rfl, hg, med, s5⟩
  have RS0 := Lib.hid (show RS w4 w5 g rm 0 from ⟨own, _, med, Me.new_good ⟨hr0, by omega⟩, Me.Fits.new hr0, s5⟩)
  clear med s5 NW hg
  go_wp2_with fail
  go_loopw [7] (fun iv wr => ∃ i : Nat, i ≤ N ∧ iv = .int .i64 i ∧ Hid (RS w4 wr g rm i)) (fun iv _ => N - (intOf iv).toNat)
  case atStart => exact ⟨0, Nat.zero_le _, rfl, RS0.out⟩
  case round =>
    obtain ⟨i, hi, rfl, hh⟩ := hrel
    have hco := VF.out.1
    have hcom := VF.out.2.1
    by_cases hlt : i < N
    · obtain ⟨gl, rfl⟩ := VF.out.2.2 (by omega)
      obtain ⟨x, hx⟩ : ∃ x, X[i]? = some x := ⟨_, List.getElem?_eq_getElem (by have := XN.out; omega)⟩
      obtain ⟨A1, m, cc, A2, n2, c2, rng, hbl, hm, hdo⟩ := HD.out.at_ O4.out XN.out hx S4.out.size
      obtain ⟨own, M, med, gd, ft, st⟩ := hh.out
      have RNG := Lib.hid (fun W (z : Still w4 W) => (show W.rangeAt gl (i * 7) (doL x A1 m cc A2 n2 c2) from fun q u hq => by
        have h1 := rng q u hq
        exact (z.cell (World.block_lt_of_cell? w4 _ h1)).trans h1))
      have k0 : wr.cell? ⟨gl, i * 7, none⟩ = some (.int .i64 x.k) := by have := RNG.out wr st 0 (.int .i64 x.k) rfl; simpa using this
      have DA := Lib.hid (hdo (fun b => b < w4.heap.size) (fun b h => h))
      have hnn : x.nn ≤ 9223372036854775807 := by
        obtain ⟨_, _, _, _, _, _, _, _, _, _, _, _, _, _, _, _, h⟩ := DA.out
        exact h
      by_cases k9 : x.k = 9
      · have RS1 := Lib.hid (show RS w4 wr g rm (i + 1) from ⟨own, M, med, gd.mono (by omega), ft, st⟩)
        clear hh med gd ft st rng hdo
        rw [k9] at k0
        go_wp2_with fail
        go_roundw
        case rel => exact ⟨i + 1, by omega, by go_num, RS1.out⟩
        case measure => simp [intOf]; omega
      by_cases k8 : x.k = 8
      · have RS1 := Lib.hid (show RS w4 wr g rm (i + 1) from ⟨own, M, med, gd.mono (by omega), ft, st⟩)
        clear hh med gd ft st rng hdo
        rw [k8] at k0
        go_wp2_with fail
        go_roundw
        case rel => exact ⟨i + 1, by omega, by go_num, RS1.out⟩
        case measure => simp [intOf]; omega
      have US := Lib.hid (used_M med gd.ok (by have := gd.cnt; omega))
      obtain ⟨U, hU⟩ : ∃ U : Nat, U = if M.off = true then 0 else M.used := ⟨_, rfl⟩
      rw [← hU] at US
      have hUle : U ≤ M.used := by rw [hU]; split <;> omega
      have hUr : (U : Int) ≤ rm := by have := ft.used; rw [← used_sumN] at this; omega
      have DS := Lib.hid (fun W (z : Still wr W) => does_M (med.still z) gd (by omega) (DA.out.keep (Chg.of_still (st.trans z) (fun _ => False)) (fun _ _ h => h)) (med.still z).below)
      have NEXT := Lib.hid (fun W (z : Still wr W) w' (gf : Nat) (o : Option Nat) (hf : M.fs gf = none) (hl : Left W w' w4.heap.size g own (stepM M x gf o).2) => RS.left (med.still z) (st.trans z) hl (stepM_good gd x hnn gf o) (ft.step gd.ok x gf o hf k8 k9))
      have FULL := Lib.hid (fun (gf : Nat) (o : Option Nat) (hE : (stepM M x gf o).1.2.1 = 11) => (show x.k = 1 ∧ rm < (m : Int) + U from by
        obtain ⟨f1, f2, f3⟩ := full_only hE
        refine ⟨f1, ?_⟩
        rw [hU, f2, if_neg (by decide), ← hbl, ← ft.room]
        exact f3))
      have ST := Lib.hid st
      clear hh med gd ft st rng hdo hU hUle
      have b9 : (x.k == 9) = false := by simpa using k9
      have b8 : (x.k == 8) = false := by simpa using k8
      go_wp2_with fail
      refine US.out.mono ?_
      rintro e w6 ⟨rfl, s6⟩
      have S6 := Lib.hid s6
      have RNG6 := Lib.hid (RNG.out w6 (ST.out.trans s6))
      clear s6 US k0
      go_wp2_with (guard_target =~ wpList _ _ _ (Oper.mk _ (Op.load 43 _) _ _ _ _ :: _) _ _; go_must (refine load_midM (by kernel_rfl) 43 (.tmp 49) rfl gl (i * 7) (by kernel_rfl) (doL x A1 m cc A2 n2 c2) _ RNG6.out Try.underlying43 rfl sizeDo ?_))
      refine (DS.out w6 S6.out).mono ?_
      rintro e w7 ⟨gf, o, hfr, _, ⟨q, Av, cv, he, hrow⟩, hleft⟩
      have RS7 := Lib.hid (NEXT.out w6 S6.out w7 gf o hfr hleft)
      have FU := Lib.hid (FULL.out gf o)
      obtain ⟨E, hE⟩ : ∃ E, E = (stepM M x gf o).1.2.1 := ⟨_, rfl⟩
      obtain ⟨bb, hbb⟩ : ∃ bb, bb = (stepM M x gf o).1.2.2 := ⟨_, rfl⟩
      rw [← hE] at FU he
      rw [← hbb] at he
      subst he
      obtain ⟨own7, M7, med7, gd7, ft7, st7⟩ := RS7.out
      have US := Lib.hid (used_M med7 gd7.ok (by have := gd7.cnt; omega))
      obtain ⟨U7, hU7⟩ : ∃ U7 : Nat, U7 = if M7.off = true then 0 else M7.used := ⟨_, rfl⟩
      rw [← hU7] at US
      have hU7r : ¬ rm < (U7 : Int) := by
        have := ft7.used
        rw [← used_sumN] at this
        have : U7 ≤ M7.used := by rw [hU7]; split <;> omega
        omega
      have RS8 := Lib.hid (fun W (z : Still w7 W) => (show RS w4 W g rm (i + 1) ∧ Still w4 W from ⟨⟨own7, M7, med7.still z, gd7, ft7, st7.trans z⟩, st7.trans z⟩))
      clear med7 gd7 ft7 st7 hU7 hE hbb hfr hrow hleft DS NEXT FULL RNG6
      go_wp2_with fail
      refine US.out.mono ?_
      rintro e w8 ⟨rfl, s8⟩
      have R8 := Lib.hid (RS8.out w8 s8)
      have k0 : w8.cell? ⟨gl, i * 7, none⟩ = some (.int .i64 x.k) := by have := RNG.out w8 R8.out.2 0 (.int .i64 x.k) rfl; simpa using this
      have k5 : w8.cell? ⟨gl, i * 7 + 5, none⟩ = some (.slice A1 m cc) := RNG.out w8 R8.out.2 5 (.slice A1 m cc) rfl
      clear s8 US RS8
      by_cases hE : E = 11
      · obtain ⟨f1, f2⟩ := FU.out hE
        subst hE
        rw [f1] at k0
        have f3 : ¬ ((U : Int) + (m : Int) ≤ rm) := by omega
        clear FU f2 k9 k8
        go_wp2_with fail
        go_roundw
        case rel => exact ⟨i + 1, by omega, by go_num, R8.out.1⟩
        case measure => simp [intOf]; omega
      · clear FU k9 k8
        go_wp2_with fail
        go_roundw
        case rel => exact ⟨i + 1, by omega, by go_num, R8.out.1⟩
        case measure => simp [intOf]; omega
    · obtain rfl : i = N := by omega
      obtain ⟨own, M, med, gd, ft, st⟩ := hh.out
      have FIN := Lib.hid (S4.out.trans st)
      clear hh med gd ft st
      go_wp2_with fail
      refine (LV.out _).mono ?_
      rintro e w9 ⟨rfl, s9⟩
      have S9 := Lib.hid s9
      clear s9
      go_wp2_with fail
      go_ret
      exact ⟨rfl, FIN.out.trans S9.out⟩
end Go.Proofs.Ytlddmgofjeibaaa
