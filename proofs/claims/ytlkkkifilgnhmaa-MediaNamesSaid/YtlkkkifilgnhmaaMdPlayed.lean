/- The law's own played: a medium behind a row of calls, its power on, nothing armed. It proves no statement. -/
import Derived.Test.YtlkkkifilgnhmaaMdOn
import Derived.Test.YtlkkkifilgnhmaaMdFewN
namespace Go.Proofs.Ytlkkkifilgnhmaa
open Go.RowKit Go.Maps Go.WideMaps Go.Sort
set_option linter.unusedVariables false
set_option linter.unusedSimpArgs false

theorem DosIn.still {W W' : World} {B : Nat} {A : Option Addr} {L : List Call} (h : DosIn W B A L) (hB : B ≤ W.heap.size) (s : Still W W') : DosIn W' B A L := fun i x hx => by
  obtain ⟨b, o, A1, n, c, A2, n2, c2, e, hE⟩ := h i x hx
  exact ⟨b, o, A1, n, c, A2, n2, c2, e, hE.still hB s⟩
/-- One of the calls that were cut, as a value, wherever its rows lie. -/
theorem HasD.at2 {W : World} {base B : Nat} {X : List Call} {xs : List Value} {gl n c : Nat} (h : HasD W base B X xs) (hrow : W.ownsRow base 34 7 (.slice (some ⟨gl, 0, none⟩) n c) n xs) (hn : X.length = n) {i : Nat} {x : Call} (hx : X[i]? = some x) (P : Nat → Prop) (hP1 : ∀ b, b < B → P b) (hP2 : ∀ b, base ≤ b → b < W.heap.size → P b) :
    ∃ A m cc A2 n2 c2, W.rangeAt gl (i * 7) (doL x A m cc A2 n2 c2) ∧ x.b.length = m ∧ m ≤ 100 ∧ x.nn ≤ 9223372036854775807 ∧ DoAt W P (.agg (doL x A m cc A2 n2 c2).toArray) x := by
  obtain ⟨A, m, cc, A2, n2, c2, h1, h2, h3, h4, h5, h6, h7, h8, h9⟩ := h.2 i x hx
  have hil : i < X.length := (List.getElem?_eq_some_iff.1 hx).1
  obtain ⟨A', c', ev, f1, f2, f3⟩ := own_form h2
  injection ev with ev1 _ ev2
  subst ev1 ev2
  have hbl : x.b.length = m := (Reads.of_own h2).1
  refine ⟨A, m, cc, A2, n2, c2, ?_, hbl, h3, h9, ⟨A, m, cc, A2, n2, c2, rfl, Reads.of_own h2, ?_, h3, f3, ⟨h4.1, fun h0 => ?_⟩, h5, h6, by unfold maxLen; omega, by unfold maxLen; omega, h9⟩⟩
  · intro q u hq
    have hq7 : q < 7 := (List.getElem?_eq_some_iff.1 hq).1
    rw [hrow.cellAt (i * 7 + q) (by omega), h1 q hq7]
    exact hq
  · intro ad e hm
    have := h2.lt ad.block (by rw [e]; rfl)
    exact hP2 _ this.1 this.2
  · obtain ⟨b, o, e, hb, hl, hc⟩ := h4.2 h0
    exact ⟨b, o, e, hP1 b hb, hl, hc⟩
/-- The walk's state. -/
def PS (w5 wr : World) (base g : Nat) (own0 : Own) (i : Nat) : Prop := ∃ (own : Own) (M : Me), MedI wr base own g M ∧ M.good i ∧ M.On ∧ (∀ b, b < w5.heap.size → own b = own0 b) ∧ Chg w5 wr (fun b => own0 b ≠ none)
theorem PS.left {w5 wr w' : World} {base g i : Nat} {own0 own : Own} {M' : Me} (ha : ∀ b, b < w5.heap.size → own b = own0 b) (c0 : Chg w5 wr (fun b => own0 b ≠ none)) (hl : Left wr w' base g own M') (hg : M'.good (i + 1)) (ho : M'.On) : PS w5 w' base g own0 (i + 1) := by
  obtain ⟨c, own', h1, m⟩ := hl
  exact ⟨own', M', m, hg, ho, fun b hb => by rw [h1 b (Nat.lt_of_lt_of_le hb c0.size)]; exact ha b hb, c0.trans c (fun b hb h => by rw [← ha b hb]; exact h)⟩
set_option maxRecDepth 100000 in
set_option maxHeartbeats 6400000 in
theorem played_any (A : Option Addr) (n c N0 : Nat) (L : List Call) (w : World) (hin : DosIn w w.heap.size A L) (hn : L.length = n) (hnc : n ≤ c) (hcm : c ≤ 9223372036854775807) (hN0 : N0 ≤ 1000) :
    Calls Try.prog 4 #[.slice A n c, .int .i64 (N0 : Int)] w fun e w' => (∃ (g : Nat) (own : Own) (M : Me), e = .returned (.pointer (some ⟨g, 0, none⟩)) ∧ MedI w' w.heap.size own g M ∧ M.good N0 ∧ M.On) ∧ Still w w' := by
  have NW := Lib.hid (new_I 5000 w ⟨by decide, by decide⟩)
  have FEW := Lib.hid (fun W (z : Still w W) => few_any A n c N0 L W w.heap.size (hin.still (Nat.le_refl _) z) z.size hn hnc hcm (by omega))
  obtain ⟨X, hX⟩ : ∃ X, X = (L.take N0).map cutD := ⟨_, rfl⟩
  obtain ⟨N, hN⟩ : ∃ N, N = min n N0 := ⟨_, rfl⟩
  have hXN : X.length = N := by rw [hX, List.length_map, List.length_take, hn, hN]; omega
  rw [← hX, ← hN] at FEW
  have XN := Lib.hid hXN
  have hN50 : N ≤ N0 := by omega
  clear hin hn hnc hcm hX hN hXN
  go_enter Try.func4, Try.ntmps4
  go_wp2_with fail
  refine NW.out.mono ?_
  rintro e w3 ⟨g, own0, rfl, hg, med, s3⟩
  have S3 := Lib.hid s3
  have MED := Lib.hid med
  clear med s3 NW hg
  go_wp2_with fail
  refine (FEW.out w3 S3.out).mono ?_
  rintro e w5 ⟨⟨ov, xs, rfl, o4, has4⟩, s4⟩
  obtain ⟨Ao, co, rfl⟩ := own_formV o4
  have O4 := Lib.hid o4
  have HD := Lib.hid has4
  have S5 := Lib.hid s4
  have VF := Lib.hid (show N ≤ co ∧ co ≤ 9223372036854775807 ∧ (0 < N → ∃ b, Ao = some ⟨b, 0, none⟩) from by
    rcases o4.2 with ⟨h, h0⟩ | ⟨q, cap, cur, h, h2, h3, h4, h5, _⟩
    · injection h with q1 q2 q3
      exact ⟨by omega, by omega, fun i => by omega⟩
    · injection h with q1 q2 q3
      subst q1 q3
      exact ⟨h4, by unfold maxLen at h5; omega, fun i => ⟨_, rfl⟩⟩)
  have PS0 := Lib.hid (show PS w5 w5 w.heap.size g own0 0 from ⟨own0, _, MED.out.still s4, Me.new_good ⟨by decide, by decide⟩, Me.On.new _, fun _ _ => rfl, Chg.refl _ _⟩)
  have PB := Lib.hid (show (∀ b, b < w.heap.size → own0 b = none ∧ b < w5.heap.size) ∧ (∀ b, w3.heap.size ≤ b → b < w5.heap.size → own0 b = none ∧ b < w5.heap.size) from by
    refine ⟨fun b hb => ⟨(MED.out.below b hb).1, ?_⟩, fun b h1 h2 => ⟨ownSize MED.out.dom h1, h2⟩⟩
    have := S3.out.size
    have := s4.size
    omega)
  clear o4 has4 s4 FEW
  go_wp2_with fail
  go_loopw [7] (fun iv wr => ∃ i : Nat, i ≤ N ∧ iv = .int .i64 i ∧ Hid (PS w5 wr w.heap.size g own0 i)) (fun iv _ => N - (intOf iv).toNat)
  case atStart => exact ⟨0, Nat.zero_le _, rfl, PS0.out⟩
  case round =>
    obtain ⟨i, hi, rfl, hh⟩ := hrel
    have hco := VF.out.1
    have hcom := VF.out.2.1
    by_cases hlt : i < N
    · obtain ⟨gl, rfl⟩ := VF.out.2.2 (by omega)
      obtain ⟨x, hx⟩ : ∃ x, X[i]? = some x := ⟨_, List.getElem?_eq_getElem (by have := XN.out; omega)⟩
      obtain ⟨A1, m, cc, A2, n2, c2, rng, hbl, hm, hnn, hda⟩ := HD.out.at2 O4.out XN.out hx (fun b => own0 b = none ∧ b < w5.heap.size) PB.out.1 PB.out.2
      obtain ⟨own, M, med, gd, on, ag, cg⟩ := hh.out
      have glo : ¬ own0 gl ≠ none := fun h => h (PB.out.2 gl (O4.out.lt gl rfl).1 (O4.out.lt gl rfl).2).1
      have RNG := Lib.hid (show wr.rangeAt gl (i * 7) (doL x A1 m cc A2 n2 c2) from fun q u hq =>
        (World.cell?_of_block (w := w5) (cg.block gl (O4.out.lt gl rfl).2 glo)).trans (rng q u hq))
      have k0 : wr.cell? ⟨gl, i * 7, none⟩ = some (.int .i64 x.k) := by have := RNG.out 0 (.int .i64 x.k) rfl; simpa using this
      have DS := Lib.hid (does_M med gd (by omega) (hda.keep cg (fun b hb h => h hb.1)) (fun b hb => ⟨by rw [ag b hb.2]; exact hb.1, Nat.lt_of_lt_of_le hb.2 cg.size⟩))
      by_cases k7 : x.k = 7
      · have PS1 := Lib.hid (show PS w5 wr w.heap.size g own0 (i + 1) from ⟨own, M, med, gd.mono (by omega), on, ag, cg⟩)
        clear hh med gd on ag cg rng hda DS
        rw [k7] at k0
        go_wp2_with fail
        go_roundw
        case rel => exact ⟨i + 1, by omega, by go_num, PS1.out⟩
        case measure => simp [intOf]; omega
      · have NEXT := Lib.hid (fun w' (gf : Nat) (o : Option Nat) (hl : Left wr w' w.heap.size g own (stepM M x gf o).2) => PS.left ag cg hl (stepM_good gd x hnn gf o) (on.step x gf o k7))
        clear hh med gd on ag cg rng hda
        have b7 : (x.k == 7) = false := by simpa using k7
        go_wp2_with (guard_target =~ wpList _ _ _ (Oper.mk _ (Op.load 34 _) _ _ _ _ :: _) _ _; go_must (refine load_midM (by kernel_rfl) 34 (.tmp 32) rfl gl (i * 7) (by kernel_rfl) (doL x A1 m cc A2 n2 c2) _ RNG.out Try.underlying34 rfl sizeDo ?_))
        refine DS.out.mono ?_
        rintro e w7 ⟨gf, o, hfr, _, ⟨q, Av, cv, he, hrow⟩, hleft⟩
        have PS1 := Lib.hid (NEXT.out w7 gf o hleft)
        obtain ⟨E, hE⟩ : ∃ E, E = (stepM M x gf o).1.2.1 := ⟨_, rfl⟩
        obtain ⟨bb, hbb⟩ : ∃ bb, bb = (stepM M x gf o).1.2.2 := ⟨_, rfl⟩
        rw [← hE, ← hbb] at he
        subst he
        clear hE hbb hfr hrow hleft DS NEXT RNG k0 k7 b7
        go_wp2_with fail
        go_roundw
        case rel => exact ⟨i + 1, by omega, by go_num, PS1.out⟩
        case measure => simp [intOf]; omega
    · obtain rfl : i = N := by omega
      have FIN := Lib.hid (show (∃ (own : Own) (M : Me), MedI wr w.heap.size own g M ∧ M.good N0 ∧ M.On) ∧ Still w wr from by
        obtain ⟨own, M, med, gd, on, ag, cg⟩ := hh.out
        refine ⟨⟨own, M, med, gd.mono hN50, on⟩, cg.still (S3.out.trans S5.out) (fun b hb => (MED.out.dom b hb).1)⟩)
      clear hh
      go_wp2_with fail
      go_ret
      obtain ⟨⟨own, M, f1, f2, f3⟩, f4⟩ := FIN.out
      exact ⟨⟨g, own, M, rfl, f1, f2, f3⟩, f4⟩
end Go.Proofs.Ytlkkkifilgnhmaa
