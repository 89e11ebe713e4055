/- The walk of SegsKept: it returns true, and nothing that was there turns. -/
import Derived.Test.YtfneloobfidckaaGreatDoorSh01
import Derived.Test.YtfneloobfidckaaGreatDoorSf36
import Derived.Test.YtfneloobfidckaaGreatDoorSf37
import Derived.Test.YtfneloobfidckaaGreatDoorSf29
import Derived.Test.YtfneloobfidckaaGreatDoorSf44
import Derived.Deep.RegionHeld
namespace Go.Proofs.YtfneloobfidckaaGreatDoor
open Go.RowKit Go.Maps Go.WideMaps Go.Sort
set_option linter.unusedVariables false
set_option linter.unusedSimpArgs false

theorem HasK.ones {W : World} {B : Nat} {Q : List Kp} {xs : List Value} (h : HasK W B Q xs) : ∀ u ∈ xs, u.oneCell' = true := by
  intro u hu
  obtain ⟨j, hj⟩ := List.mem_iff_getElem?.1 hu
  have hlt := (List.getElem?_eq_some_iff.1 hj).1
  rw [h.1] at hlt
  obtain ⟨q, hq⟩ : ∃ q, Q[j / 37]? = some q := ⟨_, List.getElem?_eq_getElem (by omega)⟩
  obtain ⟨A, m, c, k0, k1, _⟩ := h.2 _ q hq
  have := k1 (j % 37) (by omega)
  rw [show j / 37 * 37 + j % 37 = j by omega, hj] at this
  exact kpL_one u (List.mem_of_getElem? this.symm)
/-- 'append(sure, open...)'. -/
theorem wpList_pushAll (w : World) {ops : Array Oper} {rest : List Oper} {o : Oper} {a : Act} {Q : Exit → Act → World → Prop} (hgd : o.guard = none) (s x : Operand)
    (ho : o.op = .call { callee := .builtin .append, args := #[s, x], argTypes := #[70, 70] })
    (base : Nat) (v : Value) (n : Nat) (xs : List Value) (hs : a.eval s = v) (hown : w.ownsRow base 72 37 v n xs) (A : Option Addr) (m c : Nat) (ys : List Value)
    (hx : a.eval x = .slice A m c) (hown2 : w.ownsRow base 72 37 (.slice A m c) m ys) (h1 : ∀ u ∈ ys, u.oneCell' = true) (hn : (n + m) * 88 ≤ 140737488355328) (hbase : base ≤ w.heap.size)
    (h : ∀ v' w', w'.ownsRow base 72 37 v' (n + m) (xs ++ ys) → w.grownBy w' v.ownBlock → (v'.ownBlock = v.ownBlock ∨ v'.ownBlock = some w.heap.size) → wpList Tryz.prog ops Q rest (a.put o.dst v') w') :
    wpList Tryz.prog ops Q (o :: rest) a w := by
  cases A with
  | none =>
    obtain ⟨A', c', e, _, _, q3⟩ := own_formB hown2
    injection e with e1 e2 e3
    obtain ⟨rfl, rfl⟩ := q3 e1.symm
    subst e3
    have hy : ys = [] := List.eq_nil_of_length_eq_zero (by have := hown2.1; simpa using this)
    subst hy
    obtain ⟨i0, hi, hz0, hz1, hz2⟩ := info_parts infoKp
    refine wpList_plain hgd fun K hK => ?_
    have hr := run_append_owned_none (P := Tryz.prog) w base 70 o.type 72 i0 37 Tryz.underlying70 hi v n _ hown
    unfold Oper.wp execOp
    simp only [ho, resolve, invoke, builtin, Sem.run_bind, Sem.run_pure, Result.andThen_ok, List.map_toArray, List.map_cons, List.map_nil, hs, hx, hr]
    exact hK _ _ (h v w (by simpa using hown) (World.grownBy.refl _ _) (.inl rfl))
  | some ad =>
    obtain ⟨g, rfl⟩ : ∃ g, ad = ⟨g, 0, none⟩ := by
      rcases hown2.2 with ⟨e, _⟩ | ⟨b, cap, cur, e, _⟩
      · cases e
      · injection e with q1
        injection q1 with q1
        exact ⟨b, q1⟩
    refine wpList_pushStr 70 72 37 88 _ infoKp Tryz.underlying70 (by decide) (by rfl) w hgd s x ho base v n xs hs hown ⟨g, 0, none⟩ m c ys hx (fun q u hq => ?_) (by rw [hown2.1]) h1 hn (by omega) hbase h
    rw [Addr.add_mid]
    have hlt := (List.getElem?_eq_some_iff.1 hq).1
    have := hown2.cellAt q (by rw [hown2.1] at hlt; omega)
    rw [Nat.zero_add, this]
    exact hq
theorem grown_range {a b : World} {r : Option Nat} (h : a.grownBy b r) {g o : Nat} {l : List Value} (hr : a.rangeAt g o l) (hne : r ≠ some g) : b.rangeAt g o l := fun j u hj => (World.cell?_of_block (w := a) (h.block g (World.block_lt_of_cell? _ _ (hr j u hj)) (fun e => hne e.symm))).trans (hr j u hj)
theorem zeroEn : (Tryz.prog.info? 44).map (fun i => (i.zero, i.size)) = some (some (.agg (entV 0 (List.replicate 32 0) (.slice none 0 0))), 34) := by kernel_rfl
theorem wp_buildTo' {P : Program} {o : Oper} {a : Act} {w : World} {K : Act → World → Prop} {Q : Exit → Act → World → Prop} (t : TypeId) (parts : Array (Nat × Operand)) (ho : o.op = .build t parts) (cells : Array Value)
    (hf : P.built t (parts.map fun (i, x) => (i, a.eval x)).toList = some cells) (h : K (a.put o.dst (.agg cells)) w) : o.wp P a w K Q :=
  wp_build t parts ho (by rw [hf]; rfl) (by rw [hf]; exact h)
def KAll (w4 wr : World) (g gl : Nat) (vs vo : Value) (i : Nat) : Prop := ∃ own lo M S Qs Qo xs ys, KX w4 wr g gl vs vo own lo M S Qs Qo xs ys ∧ KM M S Qs Qo i
set_option maxRecDepth 100000 in
set_option maxHeartbeats 25600000 in
theorem segsKept_walk (a0 : Int) (A : Option Addr) (n c : Nat) (L : List C14) (w : World) (hin : Do14Row w A n c L) (T : SgT w) :
    Calls Tryz.prog 4 #[.int .i64 a0, .slice A n c] w fun e w' => e = .returned (.bool true) ∧ Still w w' := by
  have HT := Lib.hid (fun W (s : Still w W) => T.still s)
  obtain ⟨fs, hu⟩ := underEnt
  have HU := Lib.hid hu
  have UP := Lib.hid (show Tryz.prog.underlying 39 = some _ from Tryz.underlying39)
  have FEW := Lib.hid (few14_any A n c 40 L w w.heap.size hin.ins (Nat.le_refl _) hin.len hin.fit hin.cap (by omega))
  rw [show ((40 : Nat) : Int) = 40 from rfl] at FEW
  have WI1 := Lib.hid (fun W => within_any a0 128 2000 W (by decide))
  obtain ⟨X, hX⟩ : ∃ X, X = (L.take 40).map cut14 := ⟨_, rfl⟩
  obtain ⟨N, hN⟩ : ∃ N, N = min n 40 := ⟨_, rfl⟩
  have hXN : X.length = N := by rw [hX, List.length_map, List.length_take, hin.len, hN]; omega
  rw [← hX, ← hN] at FEW
  have XN := Lib.hid hXN
  have hN40 : N ≤ 40 := by omega
  clear hu T hin hX hN hXN
  go_enter Tryz.func4, Tryz.ntmps4
  go_wp2_with fail
  refine FEW.out.mono ?_
  rintro e w4 ⟨⟨ov, xs, rfl, o4, has4⟩, s4⟩
  obtain ⟨Ao, co, rfl, hco1, hco2, hco3⟩ := own_formB o4
  have O4 := Lib.hid o4
  have HD4 := Lib.hid has4
  have S4 := Lib.hid s4
  have VF := Lib.hid (show 0 < N → ∃ b, Ao = some ⟨b, 0, none⟩ from fun h0 => by
    rcases o4.2 with ⟨_, h⟩ | ⟨q, cap, cur, h, _⟩
    · omega
    · injection h with q1; exact ⟨q, q1⟩)
  clear o4 has4 s4 FEW
  go_wp2_with fail
  refine (WI1.out w4).mono ?_
  rintro e w4' ⟨⟨lim, hl0, hl1, rfl⟩, hww⟩
  have hww' := hww.symm
  subst hww'
  clear hww WI1
  have NW := Lib.hid (new_I 1048576 w4' ⟨by decide, by decide⟩)
  go_wp2_with fail
  refine NW.out.mono ?_
  rintro e w5 ⟨g, own, rfl, hg, med, s5⟩
  have OPN := Lib.hid (open_any (k := 0) med (Me.new_good ⟨by decide, by decide⟩) (by omega) (HT.out w5 (Still.trans S4.out s5)) lim rfl (fun p hp => by cases hp))
  have S5 := Lib.hid s5
  clear med s5 hg NW
  go_wp2_with fail
  refine OPN.out.mono ?_
  rintro e w6 ⟨s6, ⟨h, _⟩ | ⟨_, h, _⟩ | ⟨_, _, gl, rfl, lo, lm, _, _, _⟩⟩
  · exact absurd h (by decide)
  · exact absurd ⟨by omega, by omega⟩ h
  have ST0 := Lib.hid (show KAll w4' w6 g gl (.slice none 0 0) (.slice none 0 0) 0 from ⟨own, lo, Me.new 1048576, logOf lim [], [], [], [], [], ⟨lm, Still.trans S5.out s6, World.ownsRow_nil _ _ _ _, World.ownsRow_nil _ _ _ _, HasK.nil, HasK.nil, fun b hb => by simp [Value.ownBlock] at hb, fun b hb => by simp [Value.ownBlock] at hb, fun b hb => by simp [Value.ownBlock] at hb⟩, KM.start (by omega) (by omega)⟩)
  have LIM := Lib.hid (And.intro hl0 hl1)
  clear lm s6 OPN
  go_wp2_with fail
  go_loopw [7, 9, 10, 11] (fun gv sv ov iv wr => ∃ (i gl : Nat) (vs vo : Value), gv = .pointer (some ⟨gl, 0, none⟩) ∧ vs = sv ∧ vo = ov ∧ i ≤ N ∧ iv = .int .i64 i ∧ Hid (KAll w4' wr g gl vs vo i)) (fun _ _ _ iv _ => N - (intOf iv).toNat)
  case atStart => exact ⟨0, _, _, _, rfl, rfl, rfl, Nat.zero_le _, rfl, ST0⟩
  case round =>
    clear ST0
    obtain ⟨i, gl, vs, vo, rfl, rfl, rfl, hi, rfl, hh⟩ := hrel
    by_cases hlt : i < N
    · obtain ⟨gr, rfl⟩ := VF.out (by omega)
      obtain ⟨x, hx⟩ : ∃ x, X[i]? = some x := ⟨_, List.getElem?_eq_getElem (by have := XN.out; omega)⟩
      obtain ⟨Ax, nx, cx, A2, n2, c2, hK, rngx, ownx, hnx, rdi, hi2, hi3, hnn⟩ := HD4.out.at_ O4.out hx hlt
      obtain ⟨own, lo, M, S, Qs, Qo, xs', ys', kx, km⟩ := hh.out
      have PX := Lib.hid ((d14_parts hK).1 (rangeAt_still rngx kx.st))
      have k0 := PX.out.1
      have EX := Lib.hid (fun W (s : Still w4' W) => ((d14_parts hK).1 (rangeAt_still rngx s)).2.1)
      have RX := Lib.hid (Reads.of_own ownx)
      have B3 := Lib.hid (show Ax = none → cx = 0 from by
        obtain ⟨A', c', e, q1, q2, q3⟩ := own_formB ownx
        injection e with e1 e2 e3
        subst e1 e3
        exact fun e => (q3 e).2)
      have KX0 := Lib.hid kx
      have KM0 := Lib.hid km
      have KXX := Lib.hid hK
      have NX := Lib.hid hnx
      have RDI := Lib.hid rdi
      have NN := Lib.hid (And.intro hi2 (And.intro hi3 hnn))
      have hi100 : i ≤ 40 := by omega
      have z3 : (0 : Int) ≤ (i : Int) := by omega
      have z4 : (i : Int) < (N : Int) := by omega
      clear hh kx km rngx ownx hx hK hnx rdi hi2 hi3 hnn
      by_cases e5 : x.k = 5
      · have k1 := PX.out.2.2.1
        rw [e5] at k0
        have ARM := Lib.hid (arm_M x.nn KX0.out.lm.med)
        clear e5
        go_wp2_with fail
        refine ARM.out.mono ?_
        rintro e w7 ⟨rfl, l7⟩
        have NXT := Lib.hid (show KAll w4' w7 g gl vs vo (i + 1) from by
          obtain ⟨own', lo', kx'⟩ := KX0.out.med l7
          exact ⟨own', lo', _, S, Qs, Qo, xs', ys', kx', KM0.out.arm x.nn NN.out.2.2⟩)
        clear l7 ARM PX
        go_wp2_with fail
        go_roundw
        case rel => exact ⟨i + 1, gl, vs, vo, rfl, rfl, rfl, by omega, by go_num, NXT⟩
        case measure => simp [intOf]; omega
      by_cases e2 : x.k = 2
      · rw [e2] at k0
        have ROLL := Lib.hid (lrollback_any (w0 := w4') KX0.out.lm KM0.out.sok KM0.out.gd (by have := KM0.out.fr; omega) (HT.out _ S4.out) KX0.out.st (Nat.le_refl _))
        clear e2 e5
        go_wp2_with fail
        refine ROLL.out.mono ?_
        rintro e w7 ⟨rfl, l7⟩
        obtain ⟨own', lo', kx'⟩ := KX0.out.left l7
        have kr := KM0.out.roll (by omega)
        obtain ⟨R, hR⟩ : ∃ R, R = rollL S.fresh M S := ⟨_, rfl⟩
        rw [← hR] at kx' kr ⊢
        obtain ⟨er, M3, S3⟩ := R
        dsimp only at kx' kr ⊢
        by_cases ze : er = 0
        · subst ze
          have NXT := Lib.hid (show KAll w4' w7 g gl vs (.slice none 0 0) (i + 1) from ⟨own', lo', M3, S3, Qs, [], xs', [], kx'.nil0, kr.2 rfl⟩)
          clear l7 ROLL PX hR kx' kr
          go_wp2_with fail
          go_roundw
          case rel => exact ⟨i + 1, gl, vs, _, rfl, rfl, rfl, by omega, by go_num, NXT⟩
          case measure => simp [intOf]; omega
        · have bz : (er == 0) = false := by simpa using ze
          have NXT := Lib.hid (show KAll w4' w7 g gl vs vo (i + 1) from ⟨own', lo', M3, S3, Qs, Qo, xs', ys', kx', kr.1 ze⟩)
          clear l7 ROLL PX hR kx' kr ze
          go_wp2_with fail
          go_roundw
          case rel => exact ⟨i + 1, gl, vs, vo, rfl, rfl, rfl, by omega, by go_num, NXT⟩
          case measure => simp [intOf]; omega
      by_cases e1 : x.k = 1
      · rw [e1] at k0
        obtain ⟨Av, cv, rfl, _, _, _⟩ := own_formB KX0.out.ro
        have COM := Lib.hid (commit_any (w0 := w4') KX0.out.lm KM0.out.sok KM0.out.gd (by omega) (HT.out _ S4.out) KX0.out.st (Nat.le_refl _))
        clear e1 e2 e5
        go_wp2_with fail
        refine COM.out.mono ?_
        rintro e w7 ⟨gf, hgf, rfl, l7⟩
        obtain ⟨own', lo', kx'⟩ := KX0.out.left l7
        have kc := KM0.out.commit KX0.out.lm.med hgf
        obtain ⟨R, hR⟩ : ∃ R, R = commitL M S gf := ⟨_, rfl⟩
        rw [← hR] at kx' kc ⊢
        obtain ⟨pn, er, M3, S3⟩ := R
        dsimp only at kx' kc ⊢
        have KX1 := Lib.hid kx'
        have KC1 := Lib.hid kc
        have LE := Lib.hid (show Qs.length + Qo.length ≤ 40 from by have := KM0.out.len; omega)
        clear l7 COM PX hR kx' kc hgf
        by_cases ze : er = 0
        · subst ze
          have ONES := Lib.hid KX1.out.ho.ones
          go_wp2_with (guard_target =~ wpList _ _ _ (Oper.mk (some 86) _ _ _ _ _ :: _) _ _; go_must (refine wpList_pushAll w7 rfl (.tmp 84) (.tmp 85) rfl w4'.heap.size vs Qs.length xs' rfl KX1.out.rs Av Qo.length cv ys' rfl KX1.out.ro ONES.out (by have := LE.out; omega) KX1.out.st.size ?_); intro v8 w8 own8 gr8 hv8; have NXT := Lib.hid (show KAll w4' w8 g gl v8 (.slice none 0 0) (i + 1) from ⟨own', lo', M3, S3, Qs ++ Qo, [], _, [], KX1.out.all own8 gr8 hv8, KC1.out.2 rfl⟩); clear own8 gr8 hv8)
          go_roundw
          case rel => exact ⟨i + 1, gl, v8, _, rfl, rfl, rfl, by omega, by go_num, NXT⟩
          case measure => simp [intOf]; omega
        · have bz : (er == 0) = false := by simpa using ze
          have NXT := Lib.hid (show KAll w4' w7 g gl vs (.slice Av Qo.length cv) (i + 1) from ⟨own', lo', M3, S3, Qs, Qo, xs', ys', KX1.out, KC1.out.1 ze⟩)
          clear ze
          go_wp2_with fail
          go_roundw
          case rel => exact ⟨i + 1, gl, vs, _, rfl, rfl, rfl, by omega, by go_num, NXT⟩
          case measure => simp [intOf]; omega
      by_cases e3 : x.k = 3
      · have k1 := PX.out.2.2.1
        rw [e3] at k0
        obtain ⟨Au, cu, rfl, _, _, _⟩ := own_formB KX0.out.rs
        obtain ⟨Av, cv, rfl, _, _, _⟩ := own_formB KX0.out.ro
        have REM := Lib.hid (lremove_any (w0 := w4') KX0.out.lm KM0.out.sok KM0.out.gd (by omega) (HT.out _ S4.out) KX0.out.st x.nn)
        clear e1 e2 e3 e5
        go_wp2_with fail
        refine REM.out.mono ?_
        rintro e w7 ⟨rfl, l7⟩
        obtain ⟨own', lo', kx'⟩ := KX0.out.left l7
        have KX1 := Lib.hid kx'
        have LE := Lib.hid (show Qs.length + Qo.length ≤ 40 from by have := KM0.out.len; omega)
        have WA := Lib.hid (without_any Qs xs' Au Qs.length cu w4'.heap.size w4'.heap.size x.nn w7 w4' kx'.rs kx'.hs rfl (by have := LE.out; omega))
        clear l7 REM PX kx'
        go_wp2_with fail
        refine WA.out.mono ?_
        rintro e w8 ⟨⟨v1, x1, rfl, r1, h1⟩, s8⟩
        have WB := Lib.hid (without_any Qo ys' Av Qo.length cv w4'.heap.size w4'.heap.size x.nn w8 w4' (still_own KX1.out.ro s8) KX1.out.ho rfl (by have := LE.out; omega))
        have R1 := Lib.hid (And.intro r1 (And.intro h1 s8))
        clear r1 h1 s8 WA
        go_wp2_with fail
        refine WB.out.mono ?_
        rintro e w9 ⟨⟨v2, x2, rfl, r2, h2⟩, s9⟩
        have NXT := Lib.hid (show KAll w4' w9 g gl v1 v2 (i + 1) from ⟨own', lo', _, _, _, _, x1, x2, KX1.out.others R1.out.2.2 s9 R1.out.1 r2 R1.out.2.1 h2, KM0.out.rem x.nn⟩)
        clear r2 h2 s9 WB
        go_wp2_with fail
        go_roundw
        case rel => exact ⟨i + 1, gl, v1, v2, rfl, rfl, rfl, by omega, by go_num, NXT⟩
        case measure => simp [intOf]; omega
      by_cases e6 : x.k = 6
      · have k1 := PX.out.2.2.2.2
        rw [e6] at k0
        obtain ⟨Au, cu, rfl, _, _, _⟩ := own_formB KX0.out.rs
        have CR := Lib.hid (crash_M (B := fun b => b < w.heap.size) (A := A2) (n := n2) (c := c2) (zs := x.l) KX0.out.lm.med KM0.out.gd.ok (by have := KM0.out.gd.cnt; omega) (RDI.out.chg (Chg.of_still KX0.out.st (fun _ => False)) (fun _ _ h => h.elim)) (fun b hb => ⟨by
          cases hq : own b with
          | none => rfl
          | some q =>
            have := (KX0.out.lm.med.dom b (by rw [hq]; simp)).1
            have := S4.out.size
            have hb : b < w.heap.size := hb
            omega, Nat.lt_of_lt_of_le hb (Nat.le_trans S4.out.size KX0.out.st.size)⟩) NN.out.1 NN.out.2.1)
        clear e1 e2 e3 e5 e6
        go_wp2_with fail
        refine CR.out.mono ?_
        rintro e w7 ⟨rfl, l7⟩
        obtain ⟨own1, lo1, kx1⟩ := KX0.out.med l7
        have KX1 := Lib.hid kx1
        have cok := crash_good KM0.out.gd x.l
        have cop := (KM0.out.only.crash x.l).opens cok.ok
        have kc := KM0.out.crash x.l (limit := lim) ⟨by have := LIM.out; omega, by have := LIM.out; omega⟩ (by omega) kx1.lm.med
        have OPN := Lib.hid (open_any (k := 100 * i + 1) kx1.lm.med cok (by omega) (HT.out w7 (Still.trans S4.out kx1.st)) lim cop.1 cop.2)
        obtain ⟨MC, hMC⟩ : ∃ MC, MC = M.crash x.l := ⟨_, rfl⟩
        have moff : MC.off = false := by rw [hMC]; rfl
        rw [← hMC] at KX1 OPN kc
        have KC := Lib.hid kc
        have MOFF := Lib.hid moff
        clear l7 CR PX kx1 cok cop kc hMC moff
        go_wp2_with fail
        refine OPN.out.mono ?_
        rintro e w8 ⟨s8, ⟨h, _⟩ | ⟨_, h, _⟩ | ⟨_, _, gl2, rfl, lo2, lm2, _, hlo2, _⟩⟩
        · rw [MOFF.out] at h; cases h
        · exact absurd ⟨by have := LIM.out; omega, by have := LIM.out; omega⟩ h
        have KX2 := Lib.hid (KX1.out.nil0.anew s8 lm2 hlo2)
        obtain ⟨S2, hS2⟩ : ∃ S2, S2 = logOf lim (segsOf MC MC.now) := ⟨_, rfl⟩
        rw [← hS2] at KX2 KC
        obtain ⟨q, hq⟩ : ∃ q, q = Qs.length := ⟨_, rfl⟩
        have HQ := Lib.hid hq
        rw [← hq]
        clear lm2 hlo2 s8 OPN hS2
        have hq40 : q ≤ 40 := by have := KM0.out.len; omega
        clear hq
        go_wp2_with fail
        go_loopw [17] (fun kv wr2 => ∃ k : Nat, k ≤ q ∧ kv = .int .i64 k ∧ Hid (Still w8 wr2)) (fun kv _ => q - (intOf kv).toNat)
        case atStart => exact ⟨0, Nat.zero_le _, rfl, Lib.hid (Still.refl _)⟩
        case round =>
          obtain ⟨k, hk, rfl, SI⟩ := hrel
          by_cases hkq : k < q
          · obtain ⟨y, hy⟩ : ∃ y, Qs[k]? = some y := ⟨_, List.getElem?_eq_getElem (by have := HQ.out; omega)⟩
            obtain ⟨gs, rfl⟩ : ∃ b, Au = some ⟨b, 0, none⟩ := by
              rcases KX2.out.rs.2 with ⟨_, h⟩ | ⟨b, cap, cur, h, _⟩
              · have := HQ.out; omega
              · injection h with q1
                exact ⟨b, q1⟩
            obtain ⟨A3, m3, c3, hK3, rng3, red3, hm3⟩ := KX2.out.hs.at_ KX2.out.rs hy (by have := HQ.out; omega)
            have kok := KM0.out.oks y (List.mem_of_getElem? hy)
            have EY := Lib.hid (fun W (s : Still wr W) => show W.rangeAt gs (k * 37) [.int .i64 (y.n : Int), .int .i64 (y.a : Int), .int .i64 (y.z : Int)] ∧ W.rangeAt gs (k * 37 + 3) (entL y.x.t y.x.K (.slice A3 m3 c3)) from by
              have r := rangeAt_still (rangeAt_still rng3 SI.out) s
              unfold kpL at r
              rw [rangeAt_append] at r
              exact r)
            have KXY := Lib.hid hK3
            have R3 := Lib.hid (And.intro red3 hm3)
            have hrl := KC.out.2 y (List.mem_of_getElem? hy)
            have RD := Lib.hid (lread_any (w0 := w4') (KX2.out.lm.still SI.out) KC.out.1.sok KC.out.1.gd (HT.out _ S4.out) (Still.trans KX2.out.st SI.out) (y.n : Int) (y.a : Int) (y.z : Int) (by have := kok.2.2; omega) (by
              have hbl : (byE y.x).length ≤ 16425 := by have := szE_len kok.1.1 kok.1.2; show (bytE y.x.t y.x.K y.x.D).length ≤ _; omega
              unfold opRead
              split
              · simp
              · split
                · simp
                · split
                  · simp
                  · show ((_ : List UInt8).take _).length ≤ _
                    rw [List.length_take]
                    have := kok.2.1
                    omega))
            rw [hrl] at RD
            dsimp only at RD
            have ND := Lib.hid (show y.x.D.length = m3 from red3.1)
            have py := (EY.out _ (Still.refl _)).1
            have PY := Lib.hid py
            have zk : (0 : Int) ≤ (k : Int) := by omega
            have zk2 : (k : Int) < (q : Int) := by omega
            rw [← HQ.out] at KX2
            clear rng3 red3 hm3 hK3 kok hrl hy py
            go_wp2_with (guard_target =~ wpList _ _ _ (Oper.mk (some 146) _ _ _ _ _ :: _) _ _; go_must (refine wpList_load_mid rfl 39 (.tmp 145) rfl gs (k * 37) (by kernel_rfl) [.int .i64 (y.n : Int), .int .i64 (y.a : Int), .int .i64 (y.z : Int)] _ PY.out UP.out rfl (sizePl.trans rfl) ?_))
            refine RD.out.mono ?_
            rintro e w9 ⟨⟨vr, rfl, ob⟩, s9⟩
            obtain ⟨Ar, cr, rfl, hr1, hr2, hr3⟩ := own_formB ob
            have nd := ND.out
            subst nd
            have OB := Lib.hid ob
            obtain ⟨gy, hgy⟩ : ∃ gy, gy = w9.heap.size := ⟨_, rfl⟩
            obtain ⟨ez, hez⟩ : ∃ ez, ez = entV 0 (List.replicate 32 0) (.slice none 0 0) := ⟨_, rfl⟩
            have EZ := Lib.hid (show (Tryz.prog.info? 44).map (fun i => (i.zero, i.size)) = some (some (.agg ez), 34) by rw [hez]; exact zeroEn)
            have EZS := Lib.hid (show ez.size = 34 by rw [hez]; exact entV_size _ _ _ (by simp))
            obtain ⟨w10, hw10⟩ : ∃ w10, w10 = (w9.alloc (.cells ez 44)).setRow gy (entV y.x.t y.x.K (.slice Ar y.x.D.length cr)) := ⟨_, rfl⟩
            have NB9 := Lib.hid (Blk.new w9 44 ez)
            have s910 : Still w9 w10 := by rw [hw10]; exact below_setRow ((Still.refl _).alloc (Nat.le_refl _) _) (by rw [hgy]; exact Nat.le_refl _) _
            have BY := Lib.hid (show w10.rangeAt gy 0 (entL y.x.t y.x.K (.slice Ar y.x.D.length cr)) by rw [hw10, hgy]; exact rangeAt_blk (setRow_heap _ _ _ _ _ _ (Blk.new w9 _ _)))
            have S910 := Lib.hid s910
            have S10 := Lib.hid (Still.trans s9 s910)
            have HW10 := Lib.hid hw10
            have HGY := Lib.hid hgy
            clear hw10 hgy s910 s9 ob hez
            go_upto_region 40 with (first
              | (guard_target =~ wpList _ _ _ (Oper.mk (some 18) (Op.alloc _) _ _ _ _ :: _) _ _; go_must (refine wpList_alloc_arr rfl 44 rfl (some 18) rfl ez 34 EZ.out ?_))
              | (guard_target =~ wpList _ _ _ (Oper.mk none (Op.store _ _ _) _ _ _ _ :: _) _ _; go_must (refine wpList_store_rowTo rfl 44 (.tmp 18) (.tmp 148) rfl rfl w9.heap.size (entV y.x.t y.x.K (.slice Ar y.x.D.length cr)) rfl rfl 44 _ NB9.out (by rw [sizeEnt, entV_size _ _ _ KXY.out]) (by rw [entV_size _ _ _ KXY.out, EZS.out]) (entV_one _ _ _ rfl) ?_); rw [← HGY.out, ← HW10.out]))
            have FF := Lib.hid (fun W (s : Still w10 W) => show W.rangeAt gy 0 (entL y.x.t y.x.K (.slice Ar y.x.D.length cr)) ∧ W.rangeAt gs (k * 37 + 3) (entL y.x.t y.x.K (.slice A3 y.x.D.length c3)) from ⟨rangeAt_still BY.out s, (EY.out W (Still.trans S10.out s)).2⟩)
            have SE := Lib.hid (fun W (s : Still w10 W) => sameE_yes y.x.t y.x.K y.x.D Ar A3 y.x.D.length cr c3 W _ _ KXY.out ((Reads.of_own OB.out).still (Nat.le_refl _) (Still.trans S910.out s)) (R3.out.1.still (Nat.le_refl _) (Still.trans (Still.trans KX2.out.st SI.out) (Still.trans S10.out s))) (Still.trans S910.out s).size (Still.trans (Still.trans KX2.out.st SI.out) (Still.trans S10.out s)).size (by have := R3.out.2; omega))
            clear HGY HW10 NB9 EZ EZS
            refine wp_region_held_drew (S := fun W => W.rangeAt gy 0 (entL y.x.t y.x.K (.slice Ar y.x.D.length cr)) ∧ W.rangeAt gs (k * 37 + 3) (entL y.x.t y.x.K (.slice A3 y.x.D.length c3))) (by kernel_rfl) (FF.out _ ((Still.refl _).drew)) (fun hHeld => ?_)
            obtain ⟨wa, hwa⟩ : ∃ wa, wa = w10.drew := ⟨_, rfl⟩
            have SA := Lib.hid (show Still w10 wa by rw [hwa]; exact (Still.refl _).drew)
            try rw [← hwa] at hHeld
            rw [← hwa]
            clear hwa
            try simp only [Act.put, List.setIfInBounds_toArray, List.set_cons_zero, List.set_cons_succ]
            refine wpAnyH_take (i := 0) (v := .int .i64 0) rfl (by kernel_rfl) (by kernel_rfl) (by kernel_rfl) (fun _ _ _ h => h) (Or.inl ⟨by kernel_rfl, fun W hS => by obtain ⟨h0, h1⟩ := hS; go_simp⟩) (by assumption) ?_
            try simp only [Act.put, List.setIfInBounds_toArray, List.set_cons_zero, List.set_cons_succ]
            refine wpAnyH_take (i := 1) (v := .bool false) rfl (by kernel_rfl) (by kernel_rfl) (by kernel_rfl) (fun _ _ _ h => h) (Or.inl ⟨by kernel_rfl, fun W hS => by obtain ⟨h0, h1⟩ := hS; go_simp⟩) (by assumption) ?_
            try simp only [Act.put, List.setIfInBounds_toArray, List.set_cons_zero, List.set_cons_succ]
            refine wpAnyH_take (i := 2) (v := .bool false) rfl (by kernel_rfl) (by kernel_rfl) (by kernel_rfl) (fun _ _ _ h => h) (Or.inl ⟨by kernel_rfl, fun W hS => by obtain ⟨h0, h1⟩ := hS; go_simp⟩) (by assumption) ?_
            try simp only [Act.put, List.setIfInBounds_toArray, List.set_cons_zero, List.set_cons_succ]
            refine wpAnyH_take (i := 3) (oi := ⟨some 153, .load 44 (.tmp 18), _, _, _, _⟩) (v := .agg (entV y.x.t y.x.K (.slice Ar y.x.D.length cr))) rfl (by kernel_rfl) (by kernel_rfl) (by kernel_rfl) (fun _ _ _ h => h) ?hy3 (by assumption) ?_
            case hy3 =>
              refine yieldsIf_load_mid ?hw 44 (.tmp 18) ?ho gy (0) ?hx (entL y.x.t y.x.K (.slice Ar y.x.D.length cr)) _ (fun W h => h.1) HU.out rfl (by rw [sizeEnt, entL_len0 _ _ _ KXY.out])
              case hw => kernel_rfl
              case ho => rfl
              case hx => kernel_rfl
            try simp only [Act.put, List.setIfInBounds_toArray, List.set_cons_zero, List.set_cons_succ]
            refine wpAnyH_take (i := 4) (v := .slice (some ⟨gs, 0, none⟩) q cu) rfl (by kernel_rfl) (by kernel_rfl) (by kernel_rfl) (fun _ _ _ h => h) (Or.inl ⟨by kernel_rfl, fun W hS => by obtain ⟨h0, h1⟩ := hS; go_simp⟩) (by assumption) ?_
            try simp only [Act.put, List.setIfInBounds_toArray, List.set_cons_zero, List.set_cons_succ]
            refine wpAnyH_take (i := 5) (v := .int .i64 (k : Int)) rfl (by kernel_rfl) (by kernel_rfl) (by kernel_rfl) (fun _ _ _ h => h) (Or.inl ⟨by kernel_rfl, fun W hS => by obtain ⟨h0, h1⟩ := hS; go_simp⟩) (by assumption) ?_
            try simp only [Act.put, List.setIfInBounds_toArray, List.set_cons_zero, List.set_cons_succ]
            refine wpAnyH_take (i := 6) (v := .pointer (some ⟨gs, k * 37, none⟩)) rfl (by kernel_rfl) (by kernel_rfl) (by kernel_rfl) (fun _ _ _ h => h) (Or.inl ⟨by kernel_rfl, fun W hS => by obtain ⟨h0, h1⟩ := hS; go_simp⟩) (by assumption) ?_
            try simp only [Act.put, List.setIfInBounds_toArray, List.set_cons_zero, List.set_cons_succ]
            refine wpAnyH_take (i := 7) (v := .pointer (some ⟨gs, k * 37 + 3, none⟩)) rfl (by kernel_rfl) (by kernel_rfl) (by kernel_rfl) (fun _ _ _ h => h) (Or.inl ⟨by kernel_rfl, fun W hS => by obtain ⟨h0, h1⟩ := hS; go_simp⟩) (by assumption) ?_
            try simp only [Act.put, List.setIfInBounds_toArray, List.set_cons_zero, List.set_cons_succ]
            refine wpAnyH_take (i := 8) (oi := ⟨some 158, .load 44 (.tmp 157), _, _, _, _⟩) (v := .agg (entV y.x.t y.x.K (.slice A3 y.x.D.length c3))) rfl (by kernel_rfl) (by kernel_rfl) (by kernel_rfl) (fun _ _ _ h => h) ?hy8 (by assumption) ?_
            case hy8 =>
              refine yieldsIf_load_mid ?hw 44 (.tmp 157) ?ho gs (k * 37 + 3) ?hx (entL y.x.t y.x.K (.slice A3 y.x.D.length c3)) _ (fun W h => h.2) HU.out rfl (by rw [sizeEnt, entL_len0 _ _ _ KXY.out])
              case hw => kernel_rfl
              case ho => rfl
              case hx => kernel_rfl
            try simp only [Act.put, List.setIfInBounds_toArray, List.set_cons_zero, List.set_cons_succ]
            refine wpAnyH_ready (rs := [9]) (by kernel_rfl) (by simp) ?_
            refine AllReadyH.cons (o := ⟨some 159, .call { callee := .value (.func 36), args := #[.tmp 153, .tmp 158], argTypes := #[44, 44] }, _, _, _, _⟩) rfl (fun K' hK' => ?_) AllReadyH.nil
            have HK' := Lib.hid hK'
            clear hK'
            go_simp
            go_wp2_with (go_at_call 36; refine (SE.out _ SA.out).mono ?_; rintro e w11 ⟨rfl, s11⟩; have S11 := Lib.hid (SA.out.trans s11))
            refine HK'.out.out _ _ (FF.out _ S11.out) (fun hHeld => ?_)
            clear HK' K'
            try simp only [Act.put, List.setIfInBounds_toArray, List.set_cons_zero, List.set_cons_succ]
            refine wpAnyH_take (i := 10) (v := .bool false) rfl (by kernel_rfl) (by kernel_rfl) (by kernel_rfl) (fun _ _ _ h => h) (Or.inl ⟨by kernel_rfl, fun W hS => by obtain ⟨h0, h1⟩ := hS; go_simp⟩) (by assumption) ?_
            try simp only [Act.put, List.setIfInBounds_toArray, List.set_cons_zero, List.set_cons_succ]
            refine wpAnyH_take (i := 11) (v := .bool false) rfl (by kernel_rfl) (by kernel_rfl) (by kernel_rfl) (fun _ _ _ h => h) (Or.inl ⟨by kernel_rfl, fun W hS => by obtain ⟨h0, h1⟩ := hS; go_simp⟩) (by assumption) ?_
            try simp only [Act.put, List.setIfInBounds_toArray, List.set_cons_zero, List.set_cons_succ]
            refine wpAnyH_done (by kernel_rfl) ?_ _
            have SN := Lib.hid (Still.trans SI.out (Still.trans S10.out S11.out))
            clear FF SE SA hHeld
            go_simp
            go_wp2_with fail
            go_roundw
            case rel => exact ⟨k + 1, by omega, by go_num, SN⟩
            case measure => simp [intOf]; omega
          · have NXT := Lib.hid (show KAll w4' wr g gl2 (.slice Au Qs.length cu) (.slice none 0 0) (i + 1) from ⟨own1, lo2, MC, S2, Qs, [], xs', [], KX2.out.still SI.out, KC.out.1⟩)
            rw [← HQ.out] at NXT
            obtain rfl : q = k := by omega
            go_wp2_with fail
            go_roundw
            case rel => exact ⟨i + 1, gl2, _, _, rfl, rfl, rfl, by omega, by go_num, NXT⟩
            case measure => simp [intOf]; omega
      by_cases e0 : x.k = 0
      · rw [e0] at k0
        have APP := Lib.hid (append_any (w0 := w4') (t := x.t) (K := x.K) (D := x.D) (A := Ax) (n := nx) (c := cx) KX0.out.lm KM0.out.sok KM0.out.gd (by omega) (HT.out _ S4.out) KX0.out.st (Nat.le_refl _) KXX.out (RX.out.still (Nat.le_refl _) KX0.out.st) KX0.out.st.size B3.out (by have := NX.out; omega))
        have EX0 := Lib.hid (EX.out wr KX0.out.st)
        clear e0 e1 e2 e3 e5 e6 PX
        go_wp2_with (guard_target =~ wpList _ _ _ (Oper.mk (some 59) _ _ _ _ _ :: _) _ _; go_must (refine wpList_load_mid rfl 44 (.tmp 58) rfl gr (i * 40 + 1) (by kernel_rfl) (entL x.t x.K (.slice Ax nx cx)) _ EX0.out HU.out rfl (by rw [sizeEnt, entL_len0 _ _ _ KXX.out]) ?_))
        refine APP.out.mono ?_
        rintro e w7 ⟨gf, hgf, rfl, l7⟩
        obtain ⟨own', lo', kx'⟩ := KX0.out.left l7
        have ka := KM0.out.append KX0.out.lm.med hgf ⟨x.t, x.K, x.D⟩ KXX.out
        dsimp only at ka
        obtain ⟨R, hR⟩ : ∃ R, R = appendL M S (encE x.t x.K x.D) gf := ⟨_, rfl⟩
        rw [← hR] at kx' ka ⊢
        obtain ⟨⟨pa, pb, pc⟩, er, M3, S3⟩ := R
        dsimp only at kx' ka ⊢
        obtain ⟨w8, hw8⟩ : ∃ w8, w8 = (w7.alloc (.cells #[.int .i64 0, .int .i64 0, .int .i64 0] 39)).setRow w7.heap.size #[.int .i64 (pa : Int), .int .i64 (pb : Int), .int .i64 (pc : Int)] := ⟨_, rfl⟩
        have s78 : Still w7 w8 := by rw [hw8]; exact below_setRow ((Still.refl _).alloc (Nat.le_refl _) _) (Nat.le_refl _) _
        have PB8 := Lib.hid (show w8.rangeAt w7.heap.size 0 [.int .i64 (pa : Int), .int .i64 (pb : Int), .int .i64 (pc : Int)] by rw [hw8]; exact rangeAt_blk (l := [.int .i64 (pa : Int), .int .i64 (pb : Int), .int .i64 (pc : Int)]) (setRow_heap _ _ _ _ _ _ (Blk.new w7 _ _)))
        have HW8 := Lib.hid hw8
        have KX8 := Lib.hid (kx'.still s78)
        have KA := Lib.hid ka
        have NOX := Lib.hid (show ∀ b, vo.ownBlock = some b → b < w7.heap.size ∧ w4'.heap.size ≤ b from fun b hb => ⟨own_block_lt kx'.ro b hb, own_block_ge kx'.ro b hb⟩)
        have NOG := Lib.hid (show gr < w4'.heap.size from World.block_lt_of_cell? _ _ ((EX.out w4' (Still.refl _)) 0 (.int .i64 x.t) rfl))
        obtain ⟨gx, hgx⟩ : ∃ gx, gx = w7.heap.size := ⟨_, rfl⟩
        have HGX := Lib.hid hgx
        have HGX2 := Lib.hid hgx.symm
        clear hR hw8 s78 kx' ka l7 hgf APP hgx
        go_upto_region 14 with (first
          | (guard_target =~ wpList _ _ _ (Oper.mk (some 12) (Op.alloc _) _ _ _ _ :: _) _ _; go_must (refine wpList_alloc_arr rfl 39 rfl (some 12) rfl #[.int .i64 0, .int .i64 0, .int .i64 0] 3 zeroPl ?_))
          | (guard_target =~ wpList _ _ _ (Oper.mk none (Op.store _ _ _) _ _ _ _ :: _) _ _; go_must (refine wpList_store_rowTo rfl 39 (.tmp 12) (.tmp 61) rfl rfl w7.heap.size #[.int .i64 (pa : Int), .int .i64 (pb : Int), .int .i64 (pc : Int)] rfl rfl 39 _ (Blk.new w7 _ _) (sizePl.trans rfl) rfl (by simp [Value.oneCell']) ?_); rw [← HW8.out]))
        rw [← HGX.out]
        have PBX := Lib.hid (show w8.rangeAt gx 0 [.int .i64 (pa : Int), .int .i64 (pb : Int), .int .i64 (pc : Int)] by rw [HGX.out]; exact PB8.out)
        clear HW8 PB8 HGX
        by_cases ze : er = 0
        · subst ze
          obtain ⟨kd, hkd⟩ : ∃ kd, kd = kpL ⟨pa, pb, pc, ⟨x.t, x.K, x.D⟩⟩ (.slice Ax nx cx) := ⟨_, rfl⟩
          have BK := Lib.hid (show Tryz.prog.built 72 [(0, .agg #[.int .i64 (pa : Int), .int .i64 (pb : Int), .int .i64 (pc : Int)]), (1, .agg (entV x.t x.K (.slice Ax nx cx)))] = some kd.toArray by rw [hkd]; exact builtKp ⟨pa, pb, pc, ⟨x.t, x.K, x.D⟩⟩ _ KXX.out)
          have KL := Lib.hid (show kd.length = 37 ∧ ∀ u ∈ kd, u.oneCell' = true by rw [hkd]; exact ⟨kpL_len KXX.out, kpL_one⟩)
          have ONE := Lib.hid (show HasK w4' w4'.heap.size [⟨pa, pb, pc, ⟨x.t, x.K, x.D⟩⟩] kd by rw [hkd]; exact HasK.one KXX.out RX.out NX.out)
          have FF := Lib.hid (fun W (s : Still w8 W) => show W.rangeAt gx 0 [.int .i64 (pa : Int), .int .i64 (pb : Int), .int .i64 (pc : Int)] ∧ W.rangeAt gr (i * 40 + 1) (entL x.t x.K (.slice Ax nx cx)) from ⟨rangeAt_still PBX.out s, EX.out W (Still.trans KX8.out.st s)⟩)
          have LE := Lib.hid (show Qo.length ≤ 40 from by have := KM0.out.len; omega)
          clear hkd
          go_upto_region 15 with fail
          refine wp_region_held_drew (S := fun W => W.rangeAt gx 0 [.int .i64 (pa : Int), .int .i64 (pb : Int), .int .i64 (pc : Int)] ∧ W.rangeAt gr (i * 40 + 1) (entL x.t x.K (.slice Ax nx cx))) (by kernel_rfl) (FF.out _ ((Still.refl _).drew)) (fun hHeld => ?_)
          obtain ⟨wa, hwa⟩ : ∃ wa, wa = w8.drew := ⟨_, rfl⟩
          have SA := Lib.hid (show Still w8 wa by rw [hwa]; exact (Still.refl _).drew)
          try rw [← hwa] at hHeld
          rw [← hwa]
          clear hwa
          try simp only [Act.put, List.setIfInBounds_toArray, List.set_cons_zero, List.set_cons_succ]
          have RW8 := Lib.hid (still_own (still_own KX8.out.ro SA.out) ((Still.refl wa).alloc (Nat.le_refl _) (.cells kd.toArray 72)))
          have NB8 := Lib.hid (Blk.new wa 72 kd.toArray)
          have SB := Lib.hid (show Still w8 (wa.alloc (.cells kd.toArray 72)) from SA.out.alloc SA.out.size _)
          have GP := Lib.hid (Nat.le_trans KX8.out.st.size SB.out.size)
          refine wpAnyH_take (i := 0) (v := vo) rfl (by kernel_rfl) (by kernel_rfl) (by kernel_rfl) (fun _ _ _ h => h) (Or.inl ⟨by kernel_rfl, fun W hS => by obtain ⟨h0, h1⟩ := hS; go_simp⟩) (by assumption) ?_
          try simp only [Act.put, List.setIfInBounds_toArray, List.set_cons_zero, List.set_cons_succ]
          refine wpAnyH_take (i := 1) (oi := ⟨some 66, .load 39 (.tmp 12), _, _, _, _⟩) (v := .agg #[.int .i64 (pa : Int), .int .i64 (pb : Int), .int .i64 (pc : Int)]) rfl (by kernel_rfl) (by kernel_rfl) (by kernel_rfl) (fun _ _ _ h => h) ?hyP (by assumption) ?_
          case hyP =>
            refine yieldsIf_load_mid ?hw 39 (.tmp 12) ?ho gx 0 ?hx [.int .i64 (pa : Int), .int .i64 (pb : Int), .int .i64 (pc : Int)] _ (fun W h => h.1) UP.out rfl (sizePl.trans rfl)
            case hw => kernel_rfl
            case ho => rfl
            case hx => kernel_rfl
          try simp only [Act.put, List.setIfInBounds_toArray, List.set_cons_zero, List.set_cons_succ]
          refine wpAnyH_take (i := 2) (v := .slice (some ⟨gr, 0, none⟩) N co) rfl (by kernel_rfl) (by kernel_rfl) (by kernel_rfl) (fun _ _ _ h => h) (Or.inl ⟨by kernel_rfl, fun W hS => by obtain ⟨h0, h1⟩ := hS; go_simp⟩) (by assumption) ?_
          try simp only [Act.put, List.setIfInBounds_toArray, List.set_cons_zero, List.set_cons_succ]
          refine wpAnyH_take (i := 3) (v := .int .i64 (i : Int)) rfl (by kernel_rfl) (by kernel_rfl) (by kernel_rfl) (fun _ _ _ h => h) (Or.inl ⟨by kernel_rfl, fun W hS => by obtain ⟨h0, h1⟩ := hS; go_simp⟩) (by assumption) ?_
          try simp only [Act.put, List.setIfInBounds_toArray, List.set_cons_zero, List.set_cons_succ]
          refine wpAnyH_take (i := 4) (v := .pointer (some ⟨gr, i * 40, none⟩)) rfl (by kernel_rfl) (by kernel_rfl) (by kernel_rfl) (fun _ _ _ h => h) (Or.inl ⟨by kernel_rfl, fun W hS => by obtain ⟨h0, h1⟩ := hS; go_simp⟩) (by assumption) ?_
          try simp only [Act.put, List.setIfInBounds_toArray, List.set_cons_zero, List.set_cons_succ]
          refine wpAnyH_take (i := 5) (v := .pointer (some ⟨gr, i * 40 + 1, none⟩)) rfl (by kernel_rfl) (by kernel_rfl) (by kernel_rfl) (fun _ _ _ h => h) (Or.inl ⟨by kernel_rfl, fun W hS => by obtain ⟨h0, h1⟩ := hS; go_simp⟩) (by assumption) ?_
          try simp only [Act.put, List.setIfInBounds_toArray, List.set_cons_zero, List.set_cons_succ]
          refine wpAnyH_take (i := 6) (oi := ⟨some 71, .load 44 (.tmp 70), _, _, _, _⟩) (v := .agg (entV x.t x.K (.slice Ax nx cx))) rfl (by kernel_rfl) (by kernel_rfl) (by kernel_rfl) (fun _ _ _ h => h) ?hy6 (by assumption) ?_
          case hy6 =>
            refine yieldsIf_load_mid ?hw 44 (.tmp 70) ?ho gr (i * 40 + 1) ?hx (entL x.t x.K (.slice Ax nx cx)) _ (fun W h => h.2) HU.out rfl (by rw [sizeEnt, entL_len0 _ _ _ KXX.out])
            case hw => kernel_rfl
            case ho => rfl
            case hx => kernel_rfl
          try simp only [Act.put, List.setIfInBounds_toArray, List.set_cons_zero, List.set_cons_succ]
          refine wpAnyH_ready (rs := [7]) (by kernel_rfl) (by simp) ?_
          refine AllReadyH.cons (o := ⟨some 72, .build 72 #[(0, .tmp 66), (1, .tmp 71)], _, _, _, _⟩) rfl (fun K' hK' => ?_) AllReadyH.nil
          have HK' := Lib.hid hK'
          clear hK'
          try rw [if_pos (by kernel_rfl)]
          refine wp_buildTo' 72 #[(0, .tmp 66), (1, .tmp 71)] rfl kd.toArray (Eq.trans (congrArg (Tryz.prog.built 72) (by kernel_rfl)) BK.out) ?_
          refine HK'.out.out _ _ (FF.out _ SA.out) (fun hHeld => ?_)
          clear HK' K'
          try simp only [Act.put, List.setIfInBounds_toArray, List.set_cons_zero, List.set_cons_succ]
          refine wpAnyH_ready (rs := [8]) (by kernel_rfl) (by simp) ?_
          refine AllReadyH.cons (o := ⟨some 73, .buildSlice 70 1 #[(0, .tmp 72)], _, _, _, _⟩) rfl (fun K' hK' => ?_) AllReadyH.nil
          have HK' := Lib.hid hK'
          clear hK'
          try rw [if_pos (by kernel_rfl)]
          refine step_boxStr 70 72 37 88 _ infoKp Tryz.underlying70 (by decide) (by decide) wa (.tmp 72) rfl (.agg kd.toArray) (by kernel_rfl) (by show kd.toArray.size = 37; rw [List.size_toArray, KL.out.1]) ?_
          refine HK'.out.out _ _ (FF.out _ SB.out) (fun hHeld => ?_)
          clear HK' K'
          try simp only [Act.put, List.setIfInBounds_toArray, List.set_cons_zero, List.set_cons_succ]
          refine wpAnyH_ready (rs := [9]) (by kernel_rfl) (by simp) ?_
          refine AllReadyH.cons (o := ⟨some 74, .call { callee := .builtin .append, args := #[.tmp 65, .tmp 73], argTypes := #[70, 70] }, _, _, _, _⟩) rfl (fun K' hK' => ?_) AllReadyH.nil
          have HK' := Lib.hid hK'
          clear hK'
          try rw [if_pos (by kernel_rfl)]
          refine step_pushStr 70 72 37 88 _ infoKp Tryz.underlying70 (by decide) (by rfl) (wa.alloc (.cells kd.toArray 72)) (.tmp 65) (.tmp 73) rfl w4'.heap.size vo Qo.length ys' (by kernel_rfl) RW8.out ⟨wa.heap.size, 0, none⟩ 1 1 kd (by kernel_rfl) (fun j u hj => by rw [Addr.add_mid]; exact rangeAt_blk NB8.out j u hj) (by rw [KL.out.1]) KL.out.2 (by have := LE.out; omega) (by have := LE.out; omega) GP.out ?_
          intro v8 w9 own8 gr8 hv8
          have OG8 := Lib.hid (And.intro own8 (And.intro gr8 hv8))
          have S89 := Lib.hid (And.intro (grown_range gr8 (FF.out _ SB.out).1 (fun e => by have := (NOX.out _ e).1; rw [HGX2.out] at this; omega)) (grown_range gr8 (FF.out _ SB.out).2 (fun e => by have := (NOX.out _ e).2; have := NOG.out; omega)))
          clear own8 gr8 hv8
          refine HK'.out.out _ _ (S89.out) (fun hHeld => ?_)
          clear HK' K'
          try simp only [Act.put, List.setIfInBounds_toArray, List.set_cons_zero, List.set_cons_succ]
          refine wpAnyH_take (i := 10) (v := v8) rfl (by kernel_rfl) (by kernel_rfl) (by kernel_rfl) (fun _ _ _ h => h) (Or.inl ⟨by kernel_rfl, fun W hS => by obtain ⟨h0, h1⟩ := hS; go_simp⟩) (by assumption) ?_
          try simp only [Act.put, List.setIfInBounds_toArray, List.set_cons_zero, List.set_cons_succ]
          refine wpAnyH_done (by kernel_rfl) ?_ _
          have NXT := Lib.hid (show KAll w4' w9 g gl vs v8 (i + 1) from ⟨own', lo', M3, S3, Qs, _, xs', _, (KX8.out.still SA.out).push ONE.out OG8.out.1 OG8.out.2.1 OG8.out.2.2, KA.out.2 rfl⟩)
          clear FF SA hHeld BK KL ONE OG8
          go_simp
          go_wp2_with fail
          go_roundw
          case rel => exact ⟨i + 1, gl, vs, v8, rfl, rfl, rfl, by omega, by go_num, NXT⟩
          case measure => simp [intOf]; omega
        · have bz : (er == 0) = false := by simpa using ze
          have NXT := Lib.hid (show KAll w4' w8 g gl vs vo (i + 1) from ⟨own', lo', M3, S3, Qs, Qo, xs', ys', KX8.out, KA.out.1 ze⟩)
          clear ze PBX
          go_wp2_with fail
          go_roundw
          case rel => exact ⟨i + 1, gl, vs, vo, rfl, rfl, rfl, by omega, by go_num, NXT⟩
          case measure => simp [intOf]; omega
      · have b0 : (x.k == 0) = false := by simpa using e0
        have b1 : (x.k == 1) = false := by simpa using e1
        have b2 : (x.k == 2) = false := by simpa using e2
        have b3 : (x.k == 3) = false := by simpa using e3
        have b5 : (x.k == 5) = false := by simpa using e5
        have b6 : (x.k == 6) = false := by simpa using e6
        have NXT := Lib.hid (show KAll w4' wr g gl vs vo (i + 1) from ⟨own, lo, M, S, Qs, Qo, xs', ys', KX0.out, KM0.out.mono⟩)
        clear e0 e1 e2 e3 e5 e6 PX
        go_wp2_with fail
        go_roundw
        case rel => exact ⟨i + 1, gl, vs, vo, rfl, rfl, rfl, by omega, by go_num, NXT⟩
        case measure => simp [intOf]; omega
    · obtain rfl : N = i := by omega
      have WE := Lib.hid (show Still w4' wr ∧ SgT w4' from by obtain ⟨own, lo, M, S, Qs, Qo, xs', ys', kx, _⟩ := hh.out; exact ⟨kx.st, HT.out _ S4.out⟩)
      have LV := Lib.hid (sgLives wr (HT.out _ (Still.trans S4.out WE.out.1)))
      clear hh
      go_wp2_with fail
      refine LV.out.mono ?_
      rintro e w20 ⟨rfl, s20⟩
      have FIN := Lib.hid (Still.trans S4.out (Still.trans WE.out.1 s20))
      go_wp2_with fail
      go_ret
      exact ⟨rfl, FIN.out⟩
end Go.Proofs.YtfneloobfidckaaGreatDoor
