/- The walk of MediaPlays: it returns true, and nothing that was there turns. -/
import Derived.Test.YtljacdbdjacbkaaGreatMpGzh
import Derived.Test.YtljacdbdjacbkaaGreatMpGzi
import Derived.Test.YtljacdbdjacbkaaGreatMpGzj
namespace Go.Proofs.YtljacdbdjacbkaaGreat
open Go.RowKit Go.Maps Go.WideMaps Go.Sort
set_option linter.unusedVariables false
set_option linter.unusedSimpArgs false

theorem HasD.fit {W : World} {base B : Nat} {X : List Call} {xs : List Value} {i : Nat} {x : Call} (h : HasD W base B X xs) (hx : X[i]? = some x) {A : Option Addr} {m cc : Nat} {A2 : Option Addr} {n2 c2 : Nat} {gl n c : Nat} (hrow : W.ownsRow base 36 7 (.slice (some ⟨gl, 0, none⟩) n c) n xs) (hn : X.length = n) (hr : W.rangeAt gl (i * 7) (doL x A m cc A2 n2 c2)) : FitAt (.agg (doL x A m cc A2 n2 c2).toArray) x := by
  obtain ⟨A', m', cc', A2', n2', c2', h1, h2, _⟩ := h.2 i x hx
  have hil : i < X.length := (List.getElem?_eq_some_iff.1 hx).1
  obtain ⟨A'', c', ev, f1, f2, f3⟩ := own_form h2
  injection ev with ev1 _ ev2
  subst ev1 ev2
  have e5 : (Value.slice A m cc) = .slice A' m' cc' := by
    have a := hr 5 (.slice A m cc) rfl
    rw [hrow.cellAt (i * 7 + 5) (by omega), h1 5 (by omega)] at a
    exact (Option.some.inj a).symm
  injection e5 with q1 q2 q3
  subst q1 q2 q3
  intro A3 m3 c3 A4 n4 c4 e
  have e2 : (Value.agg (doL x A m cc A2 n2 c2).toArray) = .agg #[.int .i64 x.k, .string x.s, .string x.t, .int .i64 x.nn, .int .i64 x.mm, .slice A3 m3 c3, .slice A4 n4 c4] := e
  injection e2 with e2
  have e3 : (doL x A m cc A2 n2 c2)[5]? = ([.int .i64 x.k, .string x.s, .string x.t, .int .i64 x.nn, .int .i64 x.mm, .slice A3 m3 c3, .slice A4 n4 c4] : List Value)[5]? := by
    have := congrArg Array.toList e2
    simp only [List.toList_toArray] at this
    rw [this]
  have e4 : (Value.slice A m cc) = .slice A3 m3 c3 := Option.some.inj e3
  injection e4 with _ p2 p3
  subst p2 p3
  exact ⟨f1, f2⟩
attribute [local irreducible] stepM toldD
set_option maxRecDepth 100000 in
set_option maxHeartbeats 6400000 in
theorem mediaPlays_walk (r0 : Int) (A : Option Addr) (n c : Nat) (L : List Call) (w : World) (hin : DosIn w w.heap.size A L) (hn : L.length = n) (hnc : n ≤ c) (hcm : c ≤ 9223372036854775807) :
    Calls Tryz.prog 3 #[.int .i64 r0, .slice A n c] w fun e w' => e = .returned (.bool true) ∧ Still w w' := by
  have FEW := Lib.hid (few_any A n c 50 L w w.heap.size hin (Nat.le_refl _) hn hnc hcm (by omega))
  have LV := Lib.hid (fun W => lives_any W)
  obtain ⟨X, hX⟩ : ∃ X, X = (L.take 50).map cutD := ⟨_, rfl⟩
  obtain ⟨N, hN⟩ : ∃ N, N = min n 50 := ⟨_, rfl⟩
  have hXN : X.length = N := by rw [hX, List.length_map, List.length_take, hn, hN]; omega
  rw [← hX, ← hN] at FEW
  have XN := Lib.hid hXN
  have hN50 : N ≤ 50 := by omega
  clear hin hn hnc hcm hX hN hXN
  go_enter Tryz.func3, Tryz.ntmps3
  go_wp2_with fail
  refine FEW.out.mono ?_
  rintro e w4 ⟨⟨ov, xs, rfl, o4, has4⟩, s4⟩
  obtain ⟨Ao, co, rfl⟩ := own_formV o4
  have O4 := Lib.hid o4
  have HD := Lib.hid has4
  have S4 := Lib.hid s4
  have VF := Lib.hid (show N ≤ co ∧ co ≤ 9223372036854775807 ∧ (0 < N → ∃ b, Ao = some ⟨b, 0, none⟩) from by
    rcases o4.2 with ⟨h, h0⟩ | ⟨q, cap, cur, h, h2, h3, h4, h5, _⟩
    · injection h with q1 q2 q3
      exact ⟨by omega, by omega, fun i => by omega⟩
    · injection h with q1 q2 q3
      subst q1 q3
      exact ⟨h4, by unfold maxLen at h5; omega, fun i => ⟨_, rfl⟩⟩)
  clear o4 has4 s4 FEW
  by_cases hroom : 0 ≤ r0 ∧ r0 ≤ 16777216
  · have NW := Lib.hid (new_I r0 w4 hroom)
    have ND := Lib.hid (fun W => newD_yes r0 W hroom)
    have MG := Lib.hid (Me.new_good hroom)
    clear hroom
    go_wp2_with fail
    refine NW.out.mono ?_
    rintro e w5 ⟨g, own0, rfl, hg, med, s5⟩
    have MED := Lib.hid med
    have S5 := Lib.hid s5
    clear med s5 NW hg
    go_wp2_with fail
    refine (ND.out w5).mono ?_
    rintro e w6 ⟨⟨dk, dow0, rfl, dsk⟩, s6⟩
    have DSK := Lib.hid dsk
    have S6 := Lib.hid s6
    clear dsk s6 ND
    have I0 := Lib.hid (show MP w6 w6 w4.heap.size w5.heap.size g dk own0 dow0 0 from ⟨own0, dow0, _, _, fun _ => 0, MED.out.still S6.out, DSK.out, MG.out, Me.Fr.new _, ⟨shortN_nil, shortN_nil, fun x hx => by cases hx⟩, Sim.new _ _, fun _ _ => rfl, fun _ _ => rfl, fun b hb => by
      have h1 := (MED.out.dom b hb).2
      cases hq : dow0 b with
      | none => rfl
      | some q => have := (DSK.out.dom b (by rw [hq]; simp)).1; omega, Chg.refl _ _⟩)
    have PB := Lib.hid (show ∀ b, b < w4.heap.size → own0 b = none ∧ dow0 b = none ∧ b < w6.heap.size from fun b hb => by
      have h5 := S5.out.size
      have h6 := S6.out.size
      refine ⟨(MED.out.below b hb).1, ?_, by omega⟩
      cases hq : dow0 b with
      | none => rfl
      | some q => have := (DSK.out.dom b (by rw [hq]; simp)).1; omega)
    have S46 := Lib.hid (Still.trans S5.out S6.out)
    have OD := Lib.hid (And.intro (fun b (hb : own0 b ≠ none) => (MED.out.dom b hb).1) (fun b (hb : dow0 b ≠ none) => Nat.le_trans S5.out.size (DSK.out.dom b hb).1))
    clear MED DSK S5 S6 MG
    go_wp2_with fail
    go_loopw [9] (fun iv wr => ∃ i : Nat, i ≤ N ∧ iv = .int .i64 i ∧ Hid (MP w6 wr w4.heap.size w5.heap.size g dk own0 dow0 i)) (fun iv _ => N - (intOf iv).toNat)
    case atStart => exact ⟨0, Nat.zero_le _, rfl, I0.out⟩
    case round =>
      clear I0
      obtain ⟨i, hi, rfl, hh⟩ := hrel
      have hco := VF.out.1
      have hcom := VF.out.2.1
      by_cases hlt : i < N
      · obtain ⟨gl, rfl⟩ := VF.out.2.2 (by omega)
        obtain ⟨x, hx⟩ : ∃ x, X[i]? = some x := ⟨_, List.getElem?_eq_getElem (by have := XN.out; omega)⟩
        obtain ⟨A1, m1, cc, A2, n2, c2, rng, hbl, hm, hnn, hda⟩ := HD.out.at2 O4.out XN.out hx (fun b => b < w4.heap.size) (fun b hb => Nat.lt_of_lt_of_le hb S4.out.size) (fun b _ hb => hb)
        have hfit := HD.out.fit hx O4.out XN.out rng
        obtain ⟨own, dow, M, D, φ, med, dsk, gd, fr, nms, sim, ag, dg, ap, cg⟩ := hh.out
        have hdd := dsk.dom
        have S4R := Chg.still (cg.mono (fun _ _ h => h)) S46.out (fun b hb => by
          rcases hb with h | h
          · exact (OD.out.1 b h)
          · exact (OD.out.2 b h))
        have hgl := (O4.out.lt gl rfl).2
        have RNG := Lib.hid (fun W (s : Still w4 W) => show W.rangeAt gl (i * 7) (doL x A1 m1 cc A2 n2 c2) from fun q u hq => (World.cell?_of_block (w := w4) (s.block gl hgl)).trans (rng q u hq))
        have RN0 := Lib.hid (RNG.out wr S4R)
        have hfo : ∀ gf F, M.fs gf = some F → F.ok := fun gf F hF => (med.files gf F hF).2.1
        have DS := Lib.hid (does_M med gd (by omega) (hda.keep (Chg.of_still S4R (fun _ => False)) (fun _ _ h => h)) (fun b hb => ⟨by rw [ag b (PB.out b hb).2.2]; exact (PB.out b hb).1, Nat.lt_of_lt_of_le hb S4R.size⟩))
        have SL := Lib.hid (fun gf o => stepM_len hfo x gf o)
        -- the world behind does
        have KD := Lib.hid (fun W gf o (hl : Left wr W w4.heap.size g own (stepM M x gf o).2) => show Still w4 W ∧ (Calls Tryz.prog 8 #[.pointer (some ⟨dk, 0, none⟩), .agg (doL x A1 m1 cc A2 n2 c2).toArray] W fun e w' => ∃ ro : Bool × Dk, (x.k = 10 → RotD D x.s x.nn (IntKind.u8.wrap x.mm).toNat ro) ∧ ToldOf W w' w5.heap.size dk dow e (toldD D x ro)) from by
          have c1 := hl.1
          have d7 := dsk.keep c1 (fun b hb => ap b hb)
          have s7 : Still w4 W := c1.still S4R (fun b hb => (med.dom b hb).1)
          exact ⟨s7, told_D d7 (sim.good gd hfo) (by omega) (hda.keep (Chg.of_still s7 (fun _ => False)) (fun _ _ h => h)) hfit (fun b hb => by rw [dg b (PB.out b hb).2.2]; exact (PB.out b hb).2.1)⟩)
        have NX := Lib.hid (fun w7 w8 gf o ro (hl : Left wr w7 w4.heap.size g own (stepM M x gf o).2) (hfr : M.fs gf = none) (hR : x.k = 10 → M.Rotting x.s x.nn o) (hro : x.k = 10 → RotD D x.s x.nn (IntKind.u8.wrap x.mm).toNat ro) (hd : DLeft w7 w8 w5.heap.size dk dow (toldD D x ro).2) => show (stepM M x gf o).1 = (toldD D x ro).1 ∧ MP w6 w8 w4.heap.size w5.heap.size g dk own0 dow0 (i + 1) ∧ (∀ v n xs z e, w7.ownsRow wr.heap.size e z v n xs → w8.ownsRow wr.heap.size e z v n xs) from by
          have al := sim.told fr gd.ok hfo x hnn gf o hfr hR ro hro
          obtain ⟨φ', sim'⟩ := al.2
          refine ⟨al.1, MP.next med dsk ag dg ap cg hl hd (stepM_good gd x hnn gf o) (fr.step gd.ok x gf o hfr) (nms.step x gf o) sim', fun v n xs z e ho => ?_⟩
          refine hd.1.own ho (fun b hb hs => ?_)
          have h1 := (ho.lt b hb).1
          have h2 := (hdd b hs).2
          omega)
        have XT := Lib.hid (show x.t.size ≤ maxLen from by obtain ⟨_, _, _, _, _, _, _, _, _, _, _, _, _, _, _, r9, _⟩ := hda; exact r9)
        have HLT := Lib.hid hlt
        have HGL := Lib.hid hgl
        have Z1 : (0 : Int) ≤ (i : Int) := by omega
        have Z2 : (i : Int) < (N : Int) := by omega
        clear hh med dsk gd fr nms sim ag dg ap cg hdd S4R rng hda hfit hfo hbl hm hnn hx hlt hgl
        go_wp2_with (guard_target =~ wpList _ _ _ (Oper.mk (some 55) _ _ _ _ _ :: _) _ _; go_must (refine load_midM (by kernel_rfl) 36 (.tmp 54) rfl gl (i * 7) (by kernel_rfl) (doL x A1 m1 cc A2 n2 c2) _ RN0.out Tryz.underlying36 rfl sizeDo ?_))
        refine DS.out.mono ?_
        rintro e w7 ⟨gf, o, hfr, hR, ⟨q, Av, cv, he, hrow⟩, hleft⟩
        obtain ⟨s7, td⟩ := KD.out w7 gf o hleft
        have RN7 := Lib.hid (RNG.out w7 s7)
        have TD := Lib.hid td
        have HFR := Lib.hid hfr
        have HR := Lib.hid hR
        have HROW := Lib.hid hrow
        have HL := Lib.hid hleft
        have SLX := Lib.hid (SL.out gf o)
        obtain ⟨E, hE⟩ : ∃ E, E = (stepM M x gf o).1.2.1 := ⟨_, rfl⟩
        obtain ⟨bb, hbb⟩ : ∃ bb, bb = (stepM M x gf o).1.2.2 := ⟨_, rfl⟩
        rw [← hE, ← hbb] at he
        have HEB := Lib.hid (And.intro hE hbb)
        subst he
        clear hfr hR hrow hleft s7 td DS KD SL hE hbb
        go_wp2_with (guard_target =~ wpList _ _ _ (Oper.mk (some 65) _ _ _ _ _ :: _) _ _; go_must (refine load_midM (by kernel_rfl) 36 (.tmp 64) rfl gl (i * 7) (by kernel_rfl) (doL x A1 m1 cc A2 n2 c2) _ RN7.out Tryz.underlying36 rfl sizeDo ?_))
        refine TD.out.mono ?_
        rintro e w8 ⟨ro, hro, ⟨q2, Av2, cv2, he2, hrow2⟩, hd2⟩
        obtain ⟨n1, n2x, n3⟩ := NX.out w7 w8 gf o ro HL.out HFR.out HR.out hro hd2
        rw [← n1, ← HEB.out.1, ← HEB.out.2] at he2
        rw [← n1] at hrow2
        have hrow1 := n3 _ _ _ _ _ HROW.out
        obtain ⟨l, hl⟩ : ∃ l, l = (stepM M x gf o).1.1 := ⟨_, rfl⟩
        have hll := SLX.out
        rw [← hl] at hrow2 hrow1 hll
        have R1 := Reads.of_own hrow1
        have R2 := Reads.of_own hrow2
        have hq1 : q ≤ 16777216 := by rw [← R1.1]; exact hll
        have hq2 : q2 ≤ 16777216 := by rw [← R2.1]; exact hll
        have HS := Lib.hid (same_any Av Av2 q q2 cv cv2 l l w8 _ _ R1 R2 (by omega) (by omega))
        rw [decide_eq_true rfl] at HS
        have MP8 := Lib.hid n2x
        subst he2
        clear hro hd2 n1 n2x n3 hrow1 hrow2 hl hll R1 R2 hq1 hq2 NX HL HFR HR HROW HEB TD SLX
        go_wp2_with fail
        refine HS.out.mono ?_
        rintro e w9 ⟨rfl, s9⟩
        have M9 := Lib.hid (MP8.out.still s9)
        clear s9 HS MP8
        obtain ⟨own', dow', M', D', φ', med, dsk, gd, fr, nms, sim, ag, dg, ap, cg⟩ := M9.out
        have AL := Lib.hid (alike_D med gd dsk sim (sim.short nms) (by omega))
        clear med dsk gd fr nms sim ag dg ap cg
        go_wp2_with fail
        refine AL.out.mono ?_
        rintro e w10 ⟨rfl, s10⟩
        have MX := Lib.hid (M9.out.still s10)
        clear s10 AL M9
        obtain ⟨own2, dow2, M2, D2, φ2, med, dsk, gd, fr, nms, sim, ag, dg, ap, cg⟩ := MX.out
        have S4Y := Chg.still (cg.mono (fun _ _ h => h)) S46.out (fun b hb => by
          rcases hb with h | h
          · exact (OD.out.1 b h)
          · exact (OD.out.2 b h))
        have k2 : w10.cell? ⟨gl, i * 7 + 2, none⟩ = some (.string x.t) := RNG.out w10 S4Y 2 _ rfl
        have SZ := Lib.hid (size_M x.t med gd.ok XT.out)
        have FD := Lib.hid (find_D dsk x.t)
        obtain ⟨E2, f2, hE2, hf2, hcase⟩ := sim.there x.t
        rw [hE2] at SZ
        rw [hf2] at FD
        have k7 : w10.cell? ⟨dk, 7, none⟩ = some (.bool D2.off) := by
          obtain ⟨fv, fcs, Aq, nq, cq, Aq2, nq2, cq2, wv, hcq⟩ := dsk
          exact hcq.cells.2.2.2.2.2.2.2
        obtain ⟨off, hoff⟩ : ∃ off, off = D2.off := ⟨_, rfl⟩
        rw [← hoff] at k7 hcase
        clear med dsk gd fr nms sim ag dg ap cg S4Y hE2 hf2 hoff
        go_wp2_with fail
        refine SZ.out.mono ?_
        rintro e w11 ⟨rfl, rfl⟩
        clear SZ
        rcases hcase with ⟨rfl, rfl⟩ | ⟨rfl, rfl, rfl⟩ | ⟨rfl, rfl, hf0⟩
        · go_wp2_with fail
          go_roundw
          case rel => exact ⟨i + 1, by omega, by go_num, MX.out⟩
          case measure => simp [intOf]; omega
        · go_wp2_with fail
          refine FD.out.mono ?_
          rintro e w12 ⟨rfl, rfl⟩
          go_wp2_with fail
          go_roundw
          case rel => exact ⟨i + 1, by omega, by go_num, MX.out⟩
          case measure => simp [intOf]; omega
        · go_wp2_with fail
          refine FD.out.mono ?_
          rintro e w12 ⟨rfl, rfl⟩
          go_wp2_with fail
          go_roundw
          case rel => exact ⟨i + 1, by omega, by go_num, MX.out⟩
          case measure => simp [intOf]; omega
      · obtain rfl : i = N := by omega
        have FIN := Lib.hid (show Still w wr from by
          obtain ⟨own, dow, M, D, φ, a, b, c, d, e, f, g1, g2, g3, g4⟩ := hh.out
          exact g4.still (Still.trans S4.out S46.out) (fun b hb => Nat.le_trans S4.out.size (by
            rcases hb with h | h
            · exact OD.out.1 b h
            · exact OD.out.2 b h)))
        clear hh
        go_wp2_with fail
        refine (LV.out _).mono ?_
        rintro e wb ⟨rfl, tb⟩
        have TB := Lib.hid (Still.trans FIN.out tb)
        clear tb
        go_wp2_with fail
        go_ret
        exact ⟨rfl, TB.out⟩
  · have NW := Lib.hid (new_no r0 w4 hroom)
    have ND := Lib.hid (newD_no r0 w4 hroom)
    clear hroom
    go_wp2_with fail
    refine NW.out.mono ?_
    rintro e w5 ⟨rfl, rfl⟩
    go_wp2_with fail
    refine ND.out.mono ?_
    rintro e w5 ⟨rfl, rfl⟩
    go_wp2_with fail
    go_loopw [9] (fun iv wr => iv = .int .i64 0 ∧ wr = w5) (fun iv _ => 0)
    case atStart => exact ⟨rfl, rfl⟩
    case round =>
      obtain ⟨rfl, rfl⟩ := hrel
      by_cases h0 : N = 0
      · subst h0
        go_wp2_with fail
        refine (LV.out _).mono ?_
        rintro e wb ⟨rfl, tb⟩
        have TB := Lib.hid (Still.trans S4.out tb)
        clear tb
        go_wp2_with fail
        go_ret
        exact ⟨rfl, TB.out⟩
      · have h1 : (0 : Int) < (N : Int) := by omega
        clear h0
        go_wp2_with fail
        refine (LV.out _).mono ?_
        rintro e wb ⟨rfl, tb⟩
        have TB := Lib.hid (Still.trans S4.out tb)
        clear tb
        go_wp2_with fail
        go_ret
        exact ⟨rfl, TB.out⟩
end Go.Proofs.YtljacdbdjacbkaaGreat
