/- The walk of SegsWhole: it returns true, and nothing that was there turns. -/
import Derived.Test.YtfneloobfidckaaGreatDoorSf43
import Derived.Test.YtfneloobfidckaaGreatDoorSf36
import Derived.Test.YtfneloobfidckaaGreatDoorSf37
import Derived.Test.YtfneloobfidckaaGreatDoorSf29
import Derived.Test.YtfneloobfidckaaGreatDoorSf44
import Derived.Test.YtfneloobfidckaaGreatDoorSf45
import Derived.Deep.RegionHeld
namespace Go.Proofs.YtfneloobfidckaaGreatDoor
open Go.RowKit Go.Maps Go.WideMaps Go.Sort
set_option linter.unusedVariables false
set_option linter.unusedSimpArgs false

theorem D14In.stillW {W W' : World} {B : Nat} {A : Option Addr} {L : List C14} (h : D14In W B A L) (hB : B ≤ W.heap.size) (s : Still W W') : D14In W' B A L := fun i x hx => by
  obtain ⟨b, o, A1, n, c, A2, n2, c2, e, r⟩ := h i x hx
  exact ⟨b, o, A1, n, c, A2, n2, c2, e, r.still hB s⟩
theorem zeroE0 : (Tryz.prog.info? 44).map (fun i => (i.zero, i.size)) = some (some (.agg (entV 0 (List.replicate 32 0) (.slice none 0 0))), 34) := by kernel_rfl
theorem builtCm : Tryz.prog.built 44 [(0, .int .i64 2)] = some (entV 2 (List.replicate 32 0) (.slice none 0 0)) := by kernel_rfl
/-- Of the first i calls, one that is bad. -/
def badN (X : List C14) (i : Nat) : Prop := ∃ (j : Nat) (x : C14), X[j]? = some x ∧ j < i ∧ x.k ≠ 1 ∧ x.t = 2
theorem badN.mono {X : List C14} {i : Nat} (h : badN X i) : badN X (i + 1) := by
  obtain ⟨j, x, a, b, c⟩ := h
  exact ⟨j, x, a, by omega, c⟩
theorem flat_at : ∀ {Z : Sz} {i : Nat} {z : Nat × List Ee} {k : Nat} {x : Ee}, Z[i]? = some z → z.2[k]? = some x → (Z.flatMap (·.2))[((Z.take i).flatMap (·.2)).length + k]? = some x
  | [], i, z, k, x, hz, _ => by simp at hz
  | y :: Z, 0, z, k, x, hz, hk => by
    simp only [List.getElem?_cons_zero, Option.some.injEq] at hz
    subst hz
    rw [List.flatMap_cons, List.take_zero]
    show (y.2 ++ _)[0 + k]? = _
    rw [Nat.zero_add, List.getElem?_append_left (List.getElem?_eq_some_iff.1 hk).1]
    exact hk
  | y :: Z, i + 1, z, k, x, hz, hk => by
    have h := flat_at (Z := Z) (i := i) (z := z) (k := k) (x := x) (by simpa using hz) hk
    rw [List.flatMap_cons, List.take_succ_cons, List.flatMap_cons, List.length_append, List.getElem?_append_right (by omega), ← h]
    congr 1
    omega
theorem flat_take {Z : Sz} {i : Nat} {z : Nat × List Ee} (hz : Z[i]? = some z) : ((Z.take (i + 1)).flatMap (·.2)).length = ((Z.take i).flatMap (·.2)).length + z.2.length := by
  have h : Z.take (i + 1) = Z.take i ++ [z] := by rw [List.take_add_one, hz]; rfl
  rw [h, List.flatMap_append, List.length_append]
  simp
set_option maxRecDepth 100000 in
set_option maxHeartbeats 25600000 in
theorem segsWhole_walk (a0 : Int) (A : Option Addr) (n c : Nat) (L : List C14) (w : World) (hin : Do14Row w A n c L) (T : SgT w) :
    Calls Tryz.prog 5 #[.int .i64 a0, .slice A n c] w fun e w' => e = .returned (.bool true) ∧ Still w w' := by
  have HT := Lib.hid (fun W (s : Still w W) => T.still s)
  obtain ⟨fs, hu⟩ := underEnt
  have HU := Lib.hid hu
  have UP := Lib.hid (show Tryz.prog.underlying 39 = some _ from Tryz.underlying39)
  have FEW := Lib.hid (few14_any A n c 40 L w w.heap.size hin.ins (Nat.le_refl _) hin.len hin.fit hin.cap (by omega))
  rw [show ((40 : Nat) : Int) = 40 from rfl] at FEW
  have WI1 := Lib.hid (fun W => within_any a0 128 2000 W (by decide))
  obtain ⟨X, hX⟩ : ∃ X, X = (L.take 40).map cut14 := ⟨_, rfl⟩
  obtain ⟨N, hN⟩ : ∃ N, N = min n 40 := ⟨_, rfl⟩
  have hXN : X.length = N := by rw [hX, List.length_map, List.length_take, hin.len, hN]; omega
  rw [← hX, ← hN] at FEW
  have XN := Lib.hid hXN
  have hN40 : N ≤ 40 := by omega
  clear hu T hin hX hN hXN
  go_enter Tryz.func5, Tryz.ntmps5
  go_wp2_with fail
  refine FEW.out.mono ?_
  rintro e w4 ⟨⟨ov, xs, rfl, o4, has4⟩, s4⟩
  obtain ⟨Ao, co, rfl, hco1, hco2, hco3⟩ := own_formB o4
  have O4 := Lib.hid o4
  have HD4 := Lib.hid has4
  have S4 := Lib.hid s4
  have VF := Lib.hid (show 0 < N → ∃ b, Ao = some ⟨b, 0, none⟩ from fun h0 => by
    rcases o4.2 with ⟨_, h⟩ | ⟨q, cap, cur, h, _⟩
    · omega
    · injection h with q1; exact ⟨q, q1⟩)
  clear o4 has4 s4 FEW
  go_wp2_with fail
  refine (WI1.out w4).mono ?_
  rintro e w4' ⟨⟨lim, hl0, hl1, rfl⟩, hww⟩
  have hww' := hww.symm
  subst hww'
  clear hww WI1
  have NW := Lib.hid (new_I 1048576 w4' ⟨by decide, by decide⟩)
  go_wp2_with fail
  refine NW.out.mono ?_
  rintro e w5 ⟨g, own, rfl, hg, med, s5⟩
  have OPN := Lib.hid (open_any (k := 0) med (Me.new_good ⟨by decide, by decide⟩) (by omega) (HT.out w5 (Still.trans S4.out s5)) lim rfl (fun p hp => by cases hp))
  have S5 := Lib.hid s5
  clear med s5 hg NW
  go_wp2_with fail
  refine OPN.out.mono ?_
  rintro e w6 ⟨s6, ⟨h, _⟩ | ⟨_, h, _⟩ | ⟨_, _, gl, rfl, lo, lm, _, _, _⟩⟩
  · exact absurd h (by decide)
  · exact absurd ⟨by omega, by omega⟩ h
  have ST0 := Lib.hid (show ∃ own lo M S Z G xs, WSt w4' w6 g gl (badN X 0) lim 0 (.slice none 0 0) own lo M S Z G xs from ⟨own, lo, Me.new 1048576, logOf lim [], [], [], [], lm, AZ.new ⟨by decide, by decide⟩ ⟨by omega, by omega⟩, Me.new_good ⟨by decide, by decide⟩, Still.trans S5.out s6, by decide, Nat.le_refl _, rfl, rfl, Nat.le_refl _, World.ownsRow_nil _ _ _ _, HasS.nil, fun b hb => by simp [Value.ownBlock] at hb⟩)
  have LIM := Lib.hid (And.intro hl0 hl1)
  clear lm s6 OPN
  go_wp2_with fail
  go_loopw [9, 10] (fun av iv wr => ∃ (i : Nat) (v : Value), v = av ∧ i ≤ N ∧ iv = .int .i64 i ∧ Hid (∃ own lo M S Z G xs, WSt w4' wr g gl (badN X i) lim i v own lo M S Z G xs)) (fun _ iv _ => N - (intOf iv).toNat)
  case atStart => exact ⟨0, _, rfl, Nat.zero_le _, rfl, ST0⟩
  case round =>
    clear ST0
    obtain ⟨i, v, rfl, hi, rfl, hh⟩ := hrel
    by_cases hlt : i < N
    · obtain ⟨gr, rfl⟩ := VF.out (by omega)
      obtain ⟨x, hx⟩ : ∃ x, X[i]? = some x := ⟨_, List.getElem?_eq_getElem (by have := XN.out; omega)⟩
      obtain ⟨Ax, nx, cx, A2, n2, c2, hK, rngx, ownx, hnx, _⟩ := HD4.out.at_ O4.out hx hlt
      obtain ⟨own, lo, M, S, Z, G, ys, hs⟩ := hh.out
      have PX := Lib.hid ((d14_parts hK).1 (rangeAt_still rngx hs.st))
      have k0 := PX.out.1
      have EX := Lib.hid (fun W (s : Still w4' W) => ((d14_parts hK).1 (rangeAt_still rngx s)).2.1)
      have RX := Lib.hid (Reads.of_own ownx)
      obtain ⟨hb1, hb2, hb3⟩ := (show nx ≤ cx ∧ cx ≤ 9223372036854775807 ∧ (Ax = none → nx = 0 ∧ cx = 0) from by
        obtain ⟨A', c', e, q1, q2, q3⟩ := own_formB ownx
        injection e with e1 e2 e3
        subst e1 e3
        exact ⟨q1, q2, q3⟩)
      have HS := Lib.hid hs
      have KX := Lib.hid hK
      have HXI := Lib.hid hx
      have NX := Lib.hid hnx
      have B3 := Lib.hid hb3
      have z3 : (0 : Int) ≤ (i : Int) := by omega
      have z4 : (i : Int) < (N : Int) := by omega
      have JB := Lib.hid (show (G.length + 1) * 64 ≤ 140737488355328 ∧ G.length + 1 ≤ 9223372036854775807 by have := hs.le; omega)
      clear hh hs rngx ownx hx hb1 hb2 hb3 hK hnx PX
      by_cases hk : x.k = 1
      · have COM := Lib.hid (commit_any (w0 := w4') HS.out.lm HS.out.az.ab.sok HS.out.gd (by omega) (HT.out _ S4.out) HS.out.st (Nat.le_refl _))
        rw [hk] at k0
        go_wp2_with fail
        refine COM.out.mono ?_
        rintro e w7 ⟨gf, hgf, rfl, l7⟩
        have h0 := HS.out.az.commit_ok HS.out.gd (by omega) (by have := HS.out.us; omega) (by have := HS.out.zl; omega) hgf
        obtain ⟨az', us', li'⟩ := HS.out.az.commit hgf h0
        have gd' := (commitL_good HS.out.lm.med HS.out.gd HS.out.az.ab.sok gf).2
        obtain ⟨R, hR⟩ : ∃ R, R = commitL M S gf := ⟨_, rfl⟩
        rw [← hR] at l7 h0 az' us' li' gd' ⊢
        obtain ⟨pn, er, M3, S3⟩ := R
        dsimp only at l7 h0 az' us' li' gd' ⊢
        subst h0
        obtain ⟨s7, row7, own7, lo7, lm7, ap7⟩ := HS.out.left l7
        have W7 := Lib.hid (And.intro s7 (And.intro row7 (And.intro lm7 ap7)))
        have AZ7 := Lib.hid (And.intro az' (And.intro us' (And.intro li' gd')))
        have V0 := Lib.hid (show ∃ A n c, Value.slice none 0 0 = Value.slice A n c from ⟨_, _, _, rfl⟩)
        have cmlen : (byE cmX).length ≤ 16425 := by rw [← cmE_by]; have := cmE_ok.2; have := encE_len (t := 2) (K := List.replicate 32 0) (D := []) (by simp); unfold cmE; omega
        have CML := Lib.hid (show (byE cmX).length = 9 by
          have := (szE_len cmX_ok.1 cmX_ok.2).1
          show (bytE cmX.t cmX.K cmX.D).length = 9
          rw [this]
          unfold szE
          rw [if_neg (by rw [cmX_ok.2]; decide)]
          rfl)
        obtain ⟨ec, hec⟩ : ∃ ec, ec = entV 2 (List.replicate 32 0) (.slice none 0 0) := ⟨_, rfl⟩
        have ES := Lib.hid (show ec.size = 34 ∧ (∀ u ∈ ec.toList, u.oneCell' = true) ∧ ec.toList = entL 2 (List.replicate 32 0) (.slice none 0 0) by
          rw [hec]
          exact ⟨entV_size _ _ _ (by simp), entL_one _ _ _ rfl, rfl⟩)
        have BC := Lib.hid (show Tryz.prog.built 44 [(0, .int .i64 2)] = some ec by rw [hec]; exact builtCm)
        have RW8 := Lib.hid (still_own row7 ((Still.refl w7).alloc (Nat.le_refl _) (.cells ec 44)))
        have NB8 := Lib.hid (Blk.new w7 44 ec)
        have GP := Lib.hid (Nat.le_trans s7.size ((Still.refl w7).alloc (Nat.le_refl _) (.cells ec 44)).size)
        clear hR hec COM l7 hgf s7 row7 lm7 ap7 az' us' li' gd' cmlen
        go_wp2_with (first
          | (guard_target =~ wpList _ _ _ (Oper.mk (some 62) _ _ _ _ _ :: _) _ _; go_must (refine wpList_buildTo rfl 44 #[(0, .const (.int .i64 2))] rfl (some 62) rfl ec (Eq.trans (congrArg (Tryz.prog.built 44) (by kernel_rfl)) BC.out) ?_))
          | (guard_target =~ wpList _ _ _ (Oper.mk (some 63) _ _ _ _ _ :: _) _ _; go_must (refine wpList_boxStr 75 44 34 64 _ Tryz.infoEnt Tryz.underlying75 (by decide) (by decide) w7 rfl (.tmp 62) rfl (.agg ec) rfl (by show ec.size = 34; exact ES.out.1) ?_))
          | (guard_target =~ wpList _ _ _ (Oper.mk (some 64) _ _ _ _ _ :: _) _ _; go_must (refine wpList_pushStr 75 44 34 64 _ Tryz.infoEnt Tryz.underlying75 (by decide) (by rfl) (w7.alloc (.cells ec 44)) rfl (.tmp 61) (.tmp 63) rfl w4'.heap.size v G.length ys rfl RW8.out ⟨w7.heap.size, 0, none⟩ 1 1 ec.toList rfl (fun q u hq => by rw [Addr.add_mid]; exact rangeAt_blk (l := ec.toList) NB8.out q u hq) (by rw [Array.length_toList, ES.out.1]) ES.out.2.1 JB.out.1 JB.out.2 GP.out ?_); intro v8 w8 own8 gr8 hv8; have OG8 := Lib.hid (And.intro own8 (And.intro gr8 hv8)); clear own8 gr8 hv8))
        have hst : ∃ own lo M S Z G xs, WSt w4' w8 g gl (badN X (i + 1)) lim (i + 1) v8 own lo M S Z G xs := by
          obtain ⟨own8, gr8, hv8⟩ := OG8.out
          obtain ⟨s7, row7, lm7, ap7⟩ := W7.out
          obtain ⟨az', us', li', gd'⟩ := AZ7.out
          obtain ⟨lm8, ap8⟩ := lm7.beside ap7 gr8 hv8
          have hle := HS.out.le
          rw [ES.out.2.2] at own8
          refine ⟨own7, lo7, M3, S3, layZ S Z cmX, G ++ [cmX], _, lm8, az'.mono (fun h => h.mono), gd'.mono (by omega), still_push (s7.alloc s7.size _) RW8.out (Nat.le_refl _) gr8, by have := HS.out.us; have := CML.out; omega, by have := layZ_len S Z cmX; have := HS.out.zl; omega, li'.trans HS.out.li, by rw [flat_layZ, HS.out.fl], by rw [List.length_append, List.length_singleton]; omega, by rw [List.length_append, List.length_singleton]; exact own8, HS.out.has.snoc cmX none 0 0 cmX_ok.1 Reads.nil0 (by omega), ap8⟩
        have RST := Lib.hid hst
        clear hst OG8 W7 AZ7 ES BC RW8 NB8 V0
        go_wp2_with fail
        go_roundw
        case rel => exact ⟨i + 1, v8, rfl, by omega, by go_num, RST.out⟩
        case measure => simp [intOf]; omega
      · have bk : (x.k == 1) = false := by simpa using hk
        have APP := Lib.hid (append_any (w0 := w4') (t := x.t) (K := x.K) (D := x.D) (A := Ax) (n := nx) (c := cx) HS.out.lm HS.out.az.ab.sok HS.out.gd (by omega) (HT.out _ S4.out) HS.out.st (Nat.le_refl _) KX.out (RX.out.still (Nat.le_refl _) HS.out.st) HS.out.st.size (fun e => (B3.out e).2) (by have := NX.out; omega))
        have EX0 := Lib.hid (EX.out wr HS.out.st)
        clear hk
        go_wp2_with (guard_target =~ wpList _ _ _ (Oper.mk (some 71) _ _ _ _ _ :: _) _ _; go_must (refine wpList_load_mid rfl 44 (.tmp 70) rfl gr (i * 40 + 1) (by kernel_rfl) (entL x.t x.K (.slice Ax nx cx)) _ EX0.out HU.out rfl (by rw [sizeEnt, entL_len0 _ _ _ KX.out]) ?_))
        refine APP.out.mono ?_
        rintro e w7 ⟨gf, hgf, rfl, l7⟩
        obtain ⟨s7, row7, own7, lo7, lm7, ap7⟩ := HS.out.left l7
        have hfail := fun h => HS.out.az.fail hgf ⟨x.t, x.K, x.D⟩ KX.out h
        have happ := fun h => HS.out.az.append hgf ⟨x.t, x.K, x.D⟩ KX.out h
        have gd' := (appendL_all (E := encE x.t x.K x.D) HS.out.lm.med HS.out.gd HS.out.az.ab.sok (by have := encE_len (t := x.t) (D := x.D) KX.out; omega) gf).2
        obtain ⟨R, hR⟩ : ∃ R, R = appendL M S (encE x.t x.K x.D) gf := ⟨_, rfl⟩
        rw [← hR] at lm7 hfail happ gd' ⊢
        obtain ⟨⟨pa, pb, pc⟩, er, M3, S3⟩ := R
        dsimp only at lm7 hfail happ gd' ⊢
        obtain ⟨w8, hw8⟩ : ∃ w8, w8 = (w7.alloc (.cells #[.int .i64 0, .int .i64 0, .int .i64 0] 39)).setRow w7.heap.size #[.int .i64 (pa : Int), .int .i64 (pb : Int), .int .i64 (pc : Int)] := ⟨_, rfl⟩
        have s78 : Still w7 w8 := by rw [hw8]; exact below_setRow ((Still.refl _).alloc (Nat.le_refl _) _) (Nat.le_refl _) _
        have PB8 := Lib.hid (show Blk w8 w7.heap.size 39 #[.int .i64 (pa : Int), .int .i64 (pb : Int), .int .i64 (pc : Int)] by rw [hw8]; exact setRow_heap _ _ _ _ _ _ (Blk.new w7 _ _))
        have HW8 := Lib.hid hw8
        have W8 := Lib.hid (And.intro (Still.trans s7 s78) (And.intro (still_own row7 s78) (And.intro (lm7.still s78) ap7)))
        have HF := Lib.hid hfail
        have HA := Lib.hid happ
        have GD7 := Lib.hid gd'
        obtain ⟨gx, hgx⟩ : ∃ gx, gx = w7.heap.size := ⟨_, rfl⟩
        have HGX := Lib.hid hgx
        clear hR hw8 s78 s7 row7 lm7 ap7 hfail happ gd' l7 hgf APP hgx
        go_upto_region 17 with (first
          | (guard_target =~ wpList _ _ _ (Oper.mk (some 13) (Op.alloc _) _ _ _ _ :: _) _ _; go_must (refine wpList_alloc_arr rfl 39 rfl (some 13) rfl #[.int .i64 0, .int .i64 0, .int .i64 0] 3 zeroPl ?_))
          | (guard_target =~ wpList _ _ _ (Oper.mk none (Op.store _ _ _) _ _ _ _ :: _) _ _; go_must (refine wpList_store_rowTo rfl 39 (.tmp 13) (.tmp 73) rfl rfl w7.heap.size #[.int .i64 (pa : Int), .int .i64 (pb : Int), .int .i64 (pc : Int)] rfl rfl 39 _ (Blk.new w7 _ _) (sizePl.trans rfl) rfl (by simp [Value.oneCell']) ?_); rw [← HW8.out]))
        rw [← HGX.out]
        have PBX := Lib.hid (show Blk w8 gx 39 #[.int .i64 (pa : Int), .int .i64 (pb : Int), .int .i64 (pc : Int)] by rw [HGX.out]; exact PB8.out)
        clear HW8 PB8 HGX
        by_cases z0 : er = 0
        · subst z0
          obtain ⟨xe, hxe⟩ : ∃ xe : Ee, xe = ⟨x.t, x.K, x.D⟩ := ⟨_, rfl⟩
          have ha := HA.out rfl
          rw [← hxe] at ha
          obtain ⟨hokx, az', hpl, us', li'⟩ := ha
          obtain ⟨zz, hz1, hz2, hz3⟩ := placeZ az'.ab
          have hzm : zz ∈ layZ S Z xe := List.mem_of_getLast? hz1
          have hk2 : zz.2[zz.2.length - 1]? = some xe := by rw [← List.getLast?_eq_getElem?]; exact hz2
          have hrd := az'.read hzm hk2
          rw [hz3] at hpl
          injection hpl with hp1 hp2
          injection hp2 with hp2 hp3
          rw [← hp1, ← hp2, ← hp3] at hrd
          have hbl : (byE xe).length ≤ 16425 := by have := szE_len hokx.1 hokx.2; show (bytE xe.t xe.K xe.D).length ≤ _; omega
          have RD := Lib.hid (lread_any (w0 := w4') W8.out.2.2.1 az'.ab.sok GD7.out (HT.out _ S4.out) W8.out.1 (pa : Int) (pb : Int) (pc : Int) (by
            rw [hp2]
            have hX := az'.ab.num (List.mem_map.2 ⟨zz, hzm, rfl⟩)
            have : atE zz.2 (zz.2.length - 1) ≤ 8 + (segB zz.2).length := by
              unfold atE
              have h1 := List.take_append_drop (zz.2.length - 1) zz.2
              have h2 := congrArg (fun l => (segB l).length) h1
              rw [segB_app, List.length_append] at h2
              omega
            have h3 := hX.2
            rw [mlen] at h3
            omega) (by
            unfold opRead
            split
            · simp
            · split
              · simp
              · split
                · simp
                · show ((_ : List UInt8).take _).length ≤ _
                  rw [List.length_take]
                  rw [hp3]
                  omega))
          rw [hrd, hxe] at RD
          dsimp only at RD
          have HXE := Lib.hid hxe
          have AZ8 := Lib.hid (And.intro az' (And.intro us' li'))
          have OKX := Lib.hid hokx
          have HBL := Lib.hid hbl
          have nDx : x.D.length = nx := RX.out.1
          subst nDx
          clear hokx az' us' li' hz1 hz2 hz3 hzm hk2 hrd hp1 hp2 hp3 hbl HF HA hxe
          go_wp2_with (guard_target =~ wpList _ _ _ (Oper.mk (some 79) _ _ _ _ _ :: _) _ _; go_must (refine wpList_load_row rfl 39 (.tmp 13) rfl gx rfl _ _ _ _ PBX.out UP.out rfl (sizePl.trans rfl) ?_))
          refine RD.out.mono ?_
          rintro e w9 ⟨⟨vr, rfl, ob⟩, s9⟩
          obtain ⟨Ar, cr, rfl, hr1, hr2, hr3⟩ := own_formB ob
          have OB := Lib.hid ob
          obtain ⟨gy, hgy⟩ : ∃ gy, gy = w9.heap.size := ⟨_, rfl⟩
          obtain ⟨ez, hez⟩ : ∃ ez, ez = entV 0 (List.replicate 32 0) (.slice none 0 0) := ⟨_, rfl⟩
          have EZ := Lib.hid (show (Tryz.prog.info? 44).map (fun i => (i.zero, i.size)) = some (some (.agg ez), 34) by rw [hez]; exact zeroE0)
          have EZS := Lib.hid (show ez.size = 34 by rw [hez]; exact entV_size _ _ _ (by simp))
          obtain ⟨w10, hw10⟩ : ∃ w10, w10 = (w9.alloc (.cells ez 44)).setRow gy (entV x.t x.K (.slice Ar x.D.length cr)) := ⟨_, rfl⟩
          have NB9 := Lib.hid (Blk.new w9 44 ez)
          have s910 : Still w9 w10 := by rw [hw10]; exact below_setRow ((Still.refl _).alloc (Nat.le_refl _) _) (by rw [hgy]; exact Nat.le_refl _) _
          have BY := Lib.hid (show w10.rangeAt gy 0 (entL x.t x.K (.slice Ar x.D.length cr)) by rw [hw10, hgy]; exact rangeAt_blk (setRow_heap _ _ _ _ _ _ (Blk.new w9 _ _)))
          have S910 := Lib.hid s910
          have W10 := Lib.hid (And.intro (Still.trans W8.out.1 (Still.trans s9 s910)) (And.intro (still_own W8.out.2.1 (Still.trans s9 s910)) (And.intro (W8.out.2.2.1.still (Still.trans s9 s910)) W8.out.2.2.2)))
          have HW10 := Lib.hid hw10
          have HGY := Lib.hid hgy
          clear hw10 hgy s910 s9 ob hez
          go_upto_region 19 with (first
            | (guard_target =~ wpList _ _ _ (Oper.mk (some 15) (Op.alloc _) _ _ _ _ :: _) _ _; go_must (refine wpList_alloc_arr rfl 44 rfl (some 15) rfl ez 34 EZ.out ?_))
            | (guard_target =~ wpList _ _ _ (Oper.mk none (Op.store _ _ _) _ _ _ _ :: _) _ _; go_must (refine wpList_store_rowTo rfl 44 (.tmp 15) (.tmp 81) rfl rfl w9.heap.size (entV x.t x.K (.slice Ar x.D.length cr)) rfl rfl 44 _ NB9.out (by rw [sizeEnt, entV_size _ _ _ KX.out]) (by rw [entV_size _ _ _ KX.out, EZS.out]) (entV_one _ _ _ rfl) ?_); rw [← HGY.out, ← HW10.out]))
          have FF := Lib.hid (fun W (s : Still w10 W) => show W.rangeAt gy 0 (entL x.t x.K (.slice Ar x.D.length cr)) ∧ W.rangeAt gr (i * 40 + 1) (entL x.t x.K (.slice Ax x.D.length cx)) from ⟨rangeAt_still BY.out s, EX.out W (Still.trans W10.out.1 s)⟩)
          have SE := Lib.hid (fun W (s : Still w10 W) => sameE_yes x.t x.K x.D Ar Ax x.D.length cr cx W _ _ KX.out ((Reads.of_own OB.out).still (Nat.le_refl _) (Still.trans S910.out s)) (RX.out.still (Nat.le_refl _) (Still.trans W10.out.1 s)) (Still.trans S910.out s).size (Still.trans W10.out.1 s).size (by have := NX.out; omega))
          clear HGY HW10 NB9 EZ EZS
          refine wp_region_held_drew (S := fun W => W.rangeAt gy 0 (entL x.t x.K (.slice Ar x.D.length cr)) ∧ W.rangeAt gr (i * 40 + 1) (entL x.t x.K (.slice Ax x.D.length cx))) (by kernel_rfl) (FF.out _ ((Still.refl _).drew)) (fun hHeld => ?_)
          obtain ⟨wa, hwa⟩ : ∃ wa, wa = w10.drew := ⟨_, rfl⟩
          have SA := Lib.hid (show Still w10 wa by rw [hwa]; exact (Still.refl _).drew)
          try rw [← hwa] at hHeld
          rw [← hwa]
          clear hwa
          try simp only [Act.put, List.setIfInBounds_toArray, List.set_cons_zero, List.set_cons_succ]
          refine wpAnyH_take (i := 0) (v := .int .i64 0) rfl (by kernel_rfl) (by kernel_rfl) (by kernel_rfl) (fun _ _ _ h => h) (Or.inl ⟨by kernel_rfl, fun W hS => by obtain ⟨h0, h1⟩ := hS; go_simp⟩) (by assumption) ?_
          try simp only [Act.put, List.setIfInBounds_toArray, List.set_cons_zero, List.set_cons_succ]
          refine wpAnyH_take (i := 1) (v := .bool false) rfl (by kernel_rfl) (by kernel_rfl) (by kernel_rfl) (fun _ _ _ h => h) (Or.inl ⟨by kernel_rfl, fun W hS => by obtain ⟨h0, h1⟩ := hS; go_simp⟩) (by assumption) ?_
          try simp only [Act.put, List.setIfInBounds_toArray, List.set_cons_zero, List.set_cons_succ]
          refine wpAnyH_take (i := 2) (v := .bool false) rfl (by kernel_rfl) (by kernel_rfl) (by kernel_rfl) (fun _ _ _ h => h) (Or.inl ⟨by kernel_rfl, fun W hS => by obtain ⟨h0, h1⟩ := hS; go_simp⟩) (by assumption) ?_
          try simp only [Act.put, List.setIfInBounds_toArray, List.set_cons_zero, List.set_cons_succ]
          refine wpAnyH_take (i := 3) (oi := ⟨some 86, .load 44 (.tmp 15), _, _, _, _⟩) (v := .agg (entV x.t x.K (.slice Ar x.D.length cr))) rfl (by kernel_rfl) (by kernel_rfl) (by kernel_rfl) (fun _ _ _ h => h) ?hy3 (by assumption) ?_
          case hy3 =>
            refine yieldsIf_load_mid ?hw 44 (.tmp 15) ?ho gy (0) ?hx (entL x.t x.K (.slice Ar x.D.length cr)) _ (fun W h => h.1) HU.out rfl (by rw [sizeEnt, entL_len0 _ _ _ KX.out])
            case hw => kernel_rfl
            case ho => rfl
            case hx => kernel_rfl
          try simp only [Act.put, List.setIfInBounds_toArray, List.set_cons_zero, List.set_cons_succ]
          refine wpAnyH_take (i := 4) (v := .slice (some ⟨gr, 0, none⟩) N co) rfl (by kernel_rfl) (by kernel_rfl) (by kernel_rfl) (fun _ _ _ h => h) (Or.inl ⟨by kernel_rfl, fun W hS => by obtain ⟨h0, h1⟩ := hS; go_simp⟩) (by assumption) ?_
          try simp only [Act.put, List.setIfInBounds_toArray, List.set_cons_zero, List.set_cons_succ]
          refine wpAnyH_take (i := 5) (v := .int .i64 (i : Int)) rfl (by kernel_rfl) (by kernel_rfl) (by kernel_rfl) (fun _ _ _ h => h) (Or.inl ⟨by kernel_rfl, fun W hS => by obtain ⟨h0, h1⟩ := hS; go_simp⟩) (by assumption) ?_
          try simp only [Act.put, List.setIfInBounds_toArray, List.set_cons_zero, List.set_cons_succ]
          refine wpAnyH_take (i := 6) (v := .pointer (some ⟨gr, i * 40, none⟩)) rfl (by kernel_rfl) (by kernel_rfl) (by kernel_rfl) (fun _ _ _ h => h) (Or.inl ⟨by kernel_rfl, fun W hS => by obtain ⟨h0, h1⟩ := hS; go_simp⟩) (by assumption) ?_
          try simp only [Act.put, List.setIfInBounds_toArray, List.set_cons_zero, List.set_cons_succ]
          refine wpAnyH_take (i := 7) (v := .pointer (some ⟨gr, i * 40 + 1, none⟩)) rfl (by kernel_rfl) (by kernel_rfl) (by kernel_rfl) (fun _ _ _ h => h) (Or.inl ⟨by kernel_rfl, fun W hS => by obtain ⟨h0, h1⟩ := hS; go_simp⟩) (by assumption) ?_
          try simp only [Act.put, List.setIfInBounds_toArray, List.set_cons_zero, List.set_cons_succ]
          refine wpAnyH_take (i := 8) (oi := ⟨some 91, .load 44 (.tmp 90), _, _, _, _⟩) (v := .agg (entV x.t x.K (.slice Ax x.D.length cx))) rfl (by kernel_rfl) (by kernel_rfl) (by kernel_rfl) (fun _ _ _ h => h) ?hy8 (by assumption) ?_
          case hy8 =>
            refine yieldsIf_load_mid ?hw 44 (.tmp 90) ?ho gr (i * 40 + 1) ?hx (entL x.t x.K (.slice Ax x.D.length cx)) _ (fun W h => h.2) HU.out rfl (by rw [sizeEnt, entL_len0 _ _ _ KX.out])
            case hw => kernel_rfl
            case ho => rfl
            case hx => kernel_rfl
          try simp only [Act.put, List.setIfInBounds_toArray, List.set_cons_zero, List.set_cons_succ]
          refine wpAnyH_ready (rs := [9]) (by kernel_rfl) (by simp) ?_
          refine AllReadyH.cons (o := ⟨some 92, .call { callee := .value (.func 36), args := #[.tmp 86, .tmp 91], argTypes := #[44, 44] }, _, _, _, _⟩) rfl (fun K' hK' => ?_) AllReadyH.nil
          have HK' := Lib.hid hK'
          clear hK'
          go_simp
          go_wp2_with (go_at_call 36; refine (SE.out _ SA.out).mono ?_; rintro e w11 ⟨rfl, s11⟩; have S11 := Lib.hid (SA.out.trans s11))
          refine HK'.out.out _ _ (FF.out _ S11.out) (fun hHeld => ?_)
          clear HK' K'
          try simp only [Act.put, List.setIfInBounds_toArray, List.set_cons_zero, List.set_cons_succ]
          refine wpAnyH_take (i := 10) (v := .bool false) rfl (by kernel_rfl) (by kernel_rfl) (by kernel_rfl) (fun _ _ _ h => h) (Or.inl ⟨by kernel_rfl, fun W hS => by obtain ⟨h0, h1⟩ := hS; go_simp⟩) (by assumption) ?_
          try simp only [Act.put, List.setIfInBounds_toArray, List.set_cons_zero, List.set_cons_succ]
          refine wpAnyH_take (i := 11) (v := .bool false) rfl (by kernel_rfl) (by kernel_rfl) (by kernel_rfl) (fun _ _ _ h => h) (Or.inl ⟨by kernel_rfl, fun W hS => by obtain ⟨h0, h1⟩ := hS; go_simp⟩) (by assumption) ?_
          try simp only [Act.put, List.setIfInBounds_toArray, List.set_cons_zero, List.set_cons_succ]
          refine wpAnyH_done (by kernel_rfl) ?_ _
          clear FF SE SA hHeld
          go_simp
          have EX11 := Lib.hid (EX.out _ (Still.trans W10.out.1 S11.out))
          have RW12 := Lib.hid (still_own (still_own W10.out.2.1 S11.out) ((Still.refl w11).alloc (Nat.le_refl _) (.cells (entV x.t x.K (.slice Ax x.D.length cx)) 44)))
          have NB12 := Lib.hid (Blk.new w11 44 (entV x.t x.K (.slice Ax x.D.length cx)))
          have GP := Lib.hid (Nat.le_trans W10.out.1.size (Nat.le_trans S11.out.size ((Still.refl w11).alloc (Nat.le_refl _) (.cells (entV x.t x.K (.slice Ax x.D.length cx)) 44)).size))
          have EL := Lib.hid (show (entL x.t x.K (.slice Ax x.D.length cx)).length = 34 ∧ ∀ u ∈ entL x.t x.K (.slice Ax x.D.length cx), u.oneCell' = true from ⟨entL_len0 _ _ _ KX.out, entL_one _ _ _ rfl⟩)
          go_wp2_with (first
            | (guard_target =~ wpList _ _ _ (Oper.mk (some 100) _ _ _ _ _ :: _) _ _; go_must (refine wpList_load_mid rfl 44 (.tmp 99) rfl gr (i * 40 + 1) (by kernel_rfl) (entL x.t x.K (.slice Ax x.D.length cx)) _ EX11.out HU.out rfl (by rw [sizeEnt, entL_len0 _ _ _ KX.out]) ?_))
            | (guard_target =~ wpList _ _ _ (Oper.mk (some 101) _ _ _ _ _ :: _) _ _; go_must (refine wpList_boxStr 75 44 34 64 _ Tryz.infoEnt Tryz.underlying75 (by decide) (by decide) w11 rfl (.tmp 100) rfl (.agg (entV x.t x.K (.slice Ax x.D.length cx))) rfl (entV_size _ _ _ KX.out) ?_))
            | (guard_target =~ wpList _ _ _ (Oper.mk (some 102) _ _ _ _ _ :: _) _ _; go_must (refine wpList_pushStr 75 44 34 64 _ Tryz.infoEnt Tryz.underlying75 (by decide) (by rfl) (w11.alloc (.cells (entV x.t x.K (.slice Ax x.D.length cx)) 44)) rfl (.tmp 95) (.tmp 101) rfl w4'.heap.size v G.length ys rfl RW12.out ⟨w11.heap.size, 0, none⟩ 1 1 (entL x.t x.K (.slice Ax x.D.length cx)) rfl (fun q u hq => by rw [Addr.add_mid]; exact rangeAt_blk NB12.out q u hq) (by rw [EL.out.1]) EL.out.2 JB.out.1 JB.out.2 GP.out ?_); intro v8 w13 own8 gr8 hv8; have OG8 := Lib.hid (And.intro own8 (And.intro gr8 hv8)); clear own8 gr8 hv8))
          have hst : ∃ own lo M S Z G xs, WSt w4' w13 g gl (badN X (i + 1)) lim (i + 1) v8 own lo M S Z G xs := by
            obtain ⟨own8, gr8, hv8⟩ := OG8.out
            obtain ⟨s10, row10, lm10, ap10⟩ := W10.out
            obtain ⟨az', us', li'⟩ := AZ8.out
            obtain ⟨lm8, ap8⟩ := (lm10.still S11.out).beside ap10 gr8 hv8
            have hle := HS.out.le
            have hbl := HBL.out
            have hx3 : (⟨x.t, x.K, x.D⟩ : Ee) = xe := HXE.out.symm
            have hK2 : xe.K.length = 32 := by rw [← hx3]; exact KX.out
            have hhs := HS.out.has.snoc xe Ax x.D.length cx hK2 (by rw [← hx3]; exact RX.out) NX.out
            have e3 : entL xe.t xe.K (.slice Ax x.D.length cx) = entL x.t x.K (.slice Ax x.D.length cx) := by rw [← hx3]
            rw [e3] at hhs
            have hbd : badN X i ∨ x.t = 2 → badN X (i + 1) := fun h => by
              rcases h with h | h
              · exact h.mono
              · exact ⟨i, x, HXI.out, by omega, by intro e; rw [e] at bk; exact absurd bk (by decide), h⟩
            have us3 : M3.used ≤ 400 * (i + 1) := by
              have h1 := HS.out.us
              have h2 : (byE xe).length ≤ 41 + x.D.length := by
                have h3 := szE_len OKX.out.1 OKX.out.2
                have h4 : (byE xe).length = szE xe.t xe.K xe.D.length := h3.1
                have h5 : xe.D.length = x.D.length := by rw [← hx3]
                have h6 : szE xe.t xe.K xe.D.length ≤ 41 + xe.D.length := by
                  unfold szE
                  split
                  · omega
                  · split <;> omega
                omega
              have := NX.out
              omega
            refine ⟨own7, lo7, M3, S3, layZ S Z xe, G ++ [xe], _, lm8, az'.mono hbd, GD7.out.mono (by omega), still_push ((Still.trans s10 S11.out).alloc (Still.trans s10 S11.out).size _) RW12.out (Nat.le_refl _) gr8, us3, by have := layZ_len S Z xe; have := HS.out.zl; omega, li'.trans HS.out.li, by rw [flat_layZ, HS.out.fl], by rw [List.length_append, List.length_singleton]; omega, by rw [List.length_append, List.length_singleton]; exact own8, hhs, ap8⟩
          have RST := Lib.hid hst
          clear hst OG8 RW12 NB12 EL W10 AZ8
          go_wp2_with fail
          go_roundw
          case rel => exact ⟨i + 1, v8, rfl, by omega, by go_num, RST.out⟩
          case measure => simp [intOf]; omega
        · have bz : (er == 0) = false := by simpa using z0
          have hst : ∃ own lo M S Z G xs, WSt w4' w8 g gl (badN X (i + 1)) lim (i + 1) v own lo M S Z G xs := by
            obtain ⟨az', us', li'⟩ := HF.out z0
            obtain ⟨s8, row8, lm8, ap8⟩ := W8.out
            exact ⟨own7, lo7, M3, S3, Z, G, ys, lm8, az'.mono (fun h => h.mono), GD7.out.mono (by omega), s8, by rw [us']; have := HS.out.us; omega, by have := HS.out.zl; omega, li'.trans HS.out.li, HS.out.fl, by have := HS.out.le; omega, row8, HS.out.has, ap8⟩
          have RST := Lib.hid hst
          clear hst W8 HF HA PBX
          go_wp2_with fail
          go_roundw
          case rel => exact ⟨i + 1, v, rfl, by omega, by go_num, RST.out⟩
          case measure => simp [intOf]; omega
    · obtain rfl : i = N := by omega
      obtain ⟨own, lo, M, S, Z, G, ys, hs⟩ := hh.out
      obtain ⟨Aa, ca, rfl, hca1, hca2, hca3⟩ := own_formB hs.row
      have HS := Lib.hid hs
      obtain ⟨sv, hl⟩ := hs.lm.log
      have SEG := Lib.hid (lsegments_any hl hs.az.ab.sok)
      obtain ⟨q, hq⟩ : ∃ q, q = Z.length := ⟨_, rfl⟩
      have hsl : S.segs.length = q := by rw [hs.az.ab.segs, hq]; unfold toXz; rw [List.length_map, List.length_map]
      obtain ⟨nums, hnums⟩ : ∃ nums : List Int, nums = Z.map fun z => (z.1 : Int) := ⟨_, rfl⟩
      have hnum : numV S.segs = nums.map (Value.int .i64) := by
        unfold numV
        rw [hs.az.ab.segs, hnums]
        unfold toXz
        rw [List.map_map, List.map_map, List.map_map]
        rfl
      rw [hsl, hnum] at SEG
      have NMS := Lib.hid (fun (k : Nat) (hk : k < q) => show nums[k]? = some (k : Int) from by
        rw [hnums, List.getElem?_map]
        have h1 : (Z.map (·.1))[k]? = (List.range Z.length)[k]? := by rw [hs.az.num]
        rw [List.getElem?_map, List.getElem?_range (by omega)] at h1
        cases hz : Z[k]? with
        | none => rw [hz] at h1; cases h1
        | some z =>
          rw [hz] at h1
          injection h1 with h1
          show some ((z.1 : Nat) : Int) = _
          rw [show z.1 = k from h1])
      have hq40 : q ≤ 40 := by have := hs.zl; omega
      have QZ := Lib.hid hq
      have LV := Lib.hid (fun W (s : Still w4' W) => sgLives W (HT.out W (Still.trans S4.out s)))
      obtain ⟨na, hna⟩ : ∃ na, na = G.length := ⟨_, rfl⟩
      rw [← hna] at hca1 ⊢
      have hna40 : na ≤ 40 := by have := hs.le; omega
      have HNA := Lib.hid hna
      clear hh hs hl hsl hnum hnums hq hna
      go_wp2_with fail
      refine SEG.out.mono ?_
      rintro e w10 ⟨⟨vs, rfl, os⟩, s10⟩
      obtain ⟨As, cs, rfl, hs1, hs2, hs3⟩ := own_formB os
      have SL := Lib.hid (show ∃ own lo, LM w10 w4'.heap.size g gl own lo M S ∧ Still w4' w10 ∧ w10.ownsRow w4'.heap.size 44 34 (.slice Aa na ca) na ys ∧ w10.ownsRow w4'.heap.size 3 1 (.slice As q cs) q (nums.map (Value.int .i64)) ∧ (∀ b, (Value.slice Aa na ca).ownBlock = some b → own b = none ∧ lo b = none) ∧ (∀ b, (Value.slice As q cs).ownBlock = some b → own b = none ∧ lo b = none) from by
        refine ⟨own, lo, HS.out.lm.still s10, Still.trans HS.out.st s10, by have := still_own HS.out.row s10; rw [← HNA.out] at this; exact this, own_base os HS.out.st.size, by have := HS.out.ap; rw [← HNA.out] at this; exact this, fun b hb => HS.out.lm.above (own_block_ge os b hb)⟩)
      clear os s10 SEG
      go_wp2_with fail
      go_loopw [17, 19] (fun tv iv wr => ∃ (i' : Nat) (tt : Nat), tv = .int .i64 tt ∧ i' ≤ q ∧ iv = .int .i64 i' ∧ tt = ((Z.take i').flatMap (·.2)).length ∧ Hid (∃ own lo, LM wr w4'.heap.size g gl own lo M S ∧ Still w4' wr ∧ wr.ownsRow w4'.heap.size 44 34 (.slice Aa na ca) na ys ∧ wr.ownsRow w4'.heap.size 3 1 (.slice As q cs) q (nums.map (Value.int .i64)) ∧ (∀ b, (Value.slice Aa na ca).ownBlock = some b → own b = none ∧ lo b = none) ∧ (∀ b, (Value.slice As q cs).ownBlock = some b → own b = none ∧ lo b = none))) (fun _ iv _ => q - (intOf iv).toNat)
      case atStart => exact ⟨0, 0, rfl, Nat.zero_le _, rfl, rfl, SL⟩
      case round =>
        clear SL
        obtain ⟨i', tt, rfl, hi', rfl, htt, hh⟩ := hrel
        by_cases hlt : i' < q
        · obtain ⟨z, hz⟩ : ∃ z, Z[i']? = some z := ⟨_, List.getElem?_eq_getElem (by have := QZ.out; omega)⟩
          have hzm := List.mem_of_getElem? hz
          obtain ⟨own, lo, lm, st, rowa, rows, apa, aps⟩ := hh.out
          obtain ⟨bs, rfl⟩ : ∃ b, As = some ⟨b, 0, none⟩ := by
            rcases rows.2 with ⟨_, h⟩ | ⟨b, cap, cur, h, _⟩
            · omega
            · injection h with q1
              exact ⟨b, q1⟩
          have hn1 := NMS.out i' hlt
          have hzi : z.1 = i' := by
            have h1 : (Z.map (·.1))[i']? = (List.range Z.length)[i']? := by rw [HS.out.az.num]
            rw [List.getElem?_map, hz, List.getElem?_range (by have := QZ.out; omega)] at h1
            exact Option.some.inj h1
          have hXi : (toXz Z)[i']? = some (z.1, magicL ++ segB z.2) := by unfold toXz; rw [List.getElem?_map, hz]; rfl
          have BY := Lib.hid (lbytes_any (w0 := w4') lm HS.out.az.ab.sok HS.out.gd (HT.out _ S4.out) st (i' : Int))
          have hbl : bytesL M S (i' : Int) = (magicL ++ segB z.2, 0) := by
            have hs2 : S.segs[i']? = some (z.1, (magicL ++ segB z.2).length) := by rw [HS.out.az.ab.segs, List.getElem?_map, hXi]; rfl
            unfold bytesL
            rw [← hzi]
            rw [hzi] at hs2 ⊢
            rw [findL_some HS.out.az.ab.sok hs2 rfl]
            have := HS.out.az.ab.bytes (List.mem_of_getElem? hXi)
            rw [hzi] at this
            exact this
          rw [hbl] at BY
          have SZL := Lib.hid (fun W (s : Still wr W) => lSize_any (w0 := w4') (lm.still s) HS.out.az.ab.sok HS.out.gd (HT.out _ S4.out) (Still.trans st s) (i' : Int))
          have hsz : szL M S (i' : Int) = ((magicL ++ segB z.2).length, S) := by
            have hs2 : S.segs[i']? = some (z.1, (magicL ++ segB z.2).length) := by rw [HS.out.az.ab.segs, List.getElem?_map, hXi]; rfl
            unfold szL
            rw [hzi] at hs2
            rw [findL_some HS.out.az.ab.sok hs2 rfl]
            exact HS.out.az.ab.size hXi
          rw [hsz] at SZL
          have d0 := rows.cellAt i' (by omega)
          rw [List.getElem?_map, hn1] at d0
          have D0 := Lib.hid (fun W (s : Still wr W) => rangeAt_still (show wr.rangeAt bs i' [.int .i64 (i' : Int)] from fun x u hx => by
            match x, hx with
            | 0, hx => simp only [List.getElem?_cons_zero, Option.some.injEq] at hx; subst hx; exact d0
            | x + 1, hx => simp at hx) s 0 _ rfl)
          obtain ⟨lb, hlb⟩ : ∃ lb, lb = (magicL ++ segB z.2).length := ⟨_, rfl⟩
          obtain ⟨nf, hnf⟩ : ∃ nf, nf = z.2.length := ⟨_, rfl⟩
          have hok := HS.out.az.ok z hzm
          have hnf0 : 0 < nf := by rw [hnf]; exact List.length_pos_iff.2 hok.1
          have hnf40 : nf ≤ 40 := by
            have h1 : nf ≤ G.length := by
              rw [hnf, ← HS.out.fl]
              have h2 := List.take_append_drop i' Z
              rw [List.drop_eq_getElem_cons (List.getElem?_eq_some_iff.1 hz).1] at h2
              rw [← h2, List.flatMap_append, List.flatMap_cons, (List.getElem?_eq_some_iff.1 hz).2]
              simp only [List.length_append]
              omega
            have := HNA.out
            omega
          have hlim := HS.out.az.lim z hzm
          rw [HS.out.li] at hlim
          have hlb8 : lb = 8 + (segB z.2).length := by rw [hlb, mlen]
          have hlbM : lb ≤ 1048576 := by
            rcases hlim with h | h
            · have := LIM.out; omega
            · match hz2 : z.2, h with
              | [y], _ =>
                rw [hlb8, hz2, segB_one]
                have := okE_len (hok.2 y (by rw [hz2]; simp))
                have h3 : (byE y).length = (bytE y.t y.K y.D).length := rfl
                omega
          have SC := Lib.hid (fun W (A' : Option Addr) (c' B' : Nat) (hr : Reads W B' A' lb (magicL ++ segB z.2)) (hB : B' ≤ W.heap.size) (hc : lb ≤ c') (hcm : c' ≤ 9223372036854775807) (T : Tabs W) => scan_any A' lb c' (magicL ++ segB z.2) W B' hr hB hlbM hc hcm T)
          rw [HS.out.az.scan hzm, ← hlb8] at SC
          dsimp only at SC
          rw [fosF_len, ← hnf] at SC
          rw [← hlb] at SZL
          have FIT := Lib.hid (show (lb : Int) ≤ lim ∨ nf = 1 from by
            rcases hlim with h | h
            · left; rw [hlb8]; exact h
            · right; rw [hnf]; exact h)
          have ZZ := Lib.hid (And.intro hz (And.intro hzm (And.intro hnf (And.intro hlb hok))))
          have LMH := Lib.hid (And.intro lm (And.intro st (And.intro rowa (And.intro rows (And.intro apa aps)))))
          have z3 : (0 : Int) ≤ (i' : Int) := by omega
          have z4 : (i' : Int) < (q : Int) := by omega
          rw [Nat.add_zero] at D0
          have d1 := D0.out wr (Still.refl _)
          have HTT := Lib.hid htt
          clear hh lm st rowa rows apa aps hn1 hzi hXi hbl hsz d0 hlb hnf hok hlim hlb8 hz hzm htt
          go_wp2_with fail
          refine BY.out.mono ?_
          rintro e w13 ⟨⟨bv, rfl, ob⟩, s13⟩
          rw [show (magicL ++ segB z.2).length = lb from ZZ.out.2.2.2.1.symm] at ob
          obtain ⟨Ab, cb, rfl, hb1, hb2, hb3⟩ := own_formB ob
          have SC2 := Lib.hid (SC.out w13 Ab cb w13.heap.size (Reads.of_own ob) (Nat.le_refl _) hb1 hb2 (HT.out w13 (Still.trans S4.out (Still.trans LMH.out.2.1 s13))).tabs)
          have S13 := Lib.hid s13
          clear ob s13 BY SC hb3 d1
          go_wp2_with fail
          refine SC2.out.mono ?_
          rintro e w14 ⟨⟨lv, xf, rfl, of, hf⟩, s14⟩
          obtain ⟨Af, cf, rfl, hf1, hf2, hf3⟩ := own_formB of
          have OF := Lib.hid of
          have HFF := Lib.hid hf
          have S14 := Lib.hid (Still.trans S13.out s14)
          have d1 := D0.out w14 S14.out
          have bn : ((nf : Int) == 0) = false := by simp; omega
          clear of hf s14 SC2
          have bsn : ((i' : Int) != (i' : Int)) = false := by simp
          have bl : ((lb : Int) != (lb : Int)) = false := by simp
          have SZ2 := Lib.hid (SZL.out w14 S14.out)
          have W14 := Lib.hid (And.intro (LMH.out.1.still S14.out) (And.intro (Still.trans LMH.out.2.1 S14.out) (And.intro (still_own LMH.out.2.2.1 S14.out) (still_own LMH.out.2.2.2.1 S14.out))))
          have GA := Lib.hid (show ∀ b, w13.heap.size ≤ b → own b = none ∧ lo b = none from fun b hb => LMH.out.1.above (Nat.le_trans S13.out.size hb))
          have AP := Lib.hid (And.intro LMH.out.2.2.2.2.1 LMH.out.2.2.2.2.2)
          obtain ⟨gf, rfl⟩ : ∃ b, Af = some ⟨b, 0, none⟩ := by
            rcases OF.out.2 with ⟨_, h⟩ | ⟨b, cap, cur, h, _⟩
            · omega
            · injection h with q1
              exact ⟨b, q1⟩
          clear SZL S13 LMH
          by_cases hlm : lim < (lb : Int)
          · have hn1 : nf = 1 := by
              rcases FIT.out with h | h
              · omega
              · exact h
            obtain ⟨one, hone⟩ : ∃ one : Nat, one = nf := ⟨_, rfl⟩
            have bg : ¬ (nf : Int) > 1 := by omega
            have bg2 : ¬ (1 : Int) < (nf : Int) := by omega
            clear hone one hn1
            go_wp2_with fail
            refine SZ2.out.mono ?_
            rintro e w15 ⟨rfl, l15⟩
            have W15 := Lib.hid (show ∃ own lo, LM w15 w4'.heap.size g gl own lo M S ∧ Still w4' w15 ∧ w15.ownsRow w4'.heap.size 44 34 (.slice Aa na ca) na ys ∧ w15.ownsRow w4'.heap.size 3 1 (.slice (some ⟨bs, 0, none⟩) q cs) q (nums.map (Value.int .i64)) ∧ (∀ b, (Value.slice Aa na ca).ownBlock = some b → own b = none ∧ lo b = none) ∧ (∀ b, (Value.slice (some ⟨bs, 0, none⟩) q cs).ownBlock = some b → own b = none ∧ lo b = none) ∧ w15.ownsRow w13.heap.size 83 36 (.slice (some ⟨gf, 0, none⟩) nf cf) nf xf ∧ HasF w15 w13.heap.size (fosF 8 z.2) xf from by
              obtain ⟨lm, st, rowa, rows⟩ := W14.out
              obtain ⟨apa, aps⟩ := AP.out
              have low := LLeft.low lm l15 st (Nat.le_refl _)
              obtain ⟨c, own', lo', ho, lm'⟩ := l15
              have ck : ∀ b, own b = none ∧ lo b = none → ¬ (own b ≠ none ∨ lo b ≠ none) := fun b h hh => by
                rcases hh with hh | hh
                · exact hh h.1
                · exact hh h.2
              refine ⟨own', lo', lm', low, c.own rowa (fun b hb => ck b (apa b hb)), c.own rows (fun b hb => ck b (aps b hb)), fun b hb => ?_, fun b hb => ?_, c.own OF.out (fun b hb => ck b (GA.out b (own_block_ge OF.out b hb))), HasF.keep (fun v n l h => c.own h (fun b hb => ck b (GA.out b (own_block_ge h b hb)))) _ _ HFF.out⟩
              · rw [(ho b (own_block_lt rowa b hb)).1, (ho b (own_block_lt rowa b hb)).2]
                exact apa b hb
              · rw [(ho b (own_block_lt rows b hb)).1, (ho b (own_block_lt rows b hb)).2]
                exact aps b hb)
            clear l15 W14 AP GA OF HFF SZ2 bg
            go_wp2_with fail
            go_loopw [17, 25] (fun av kv wr2 => ∃ (k aw : Nat), av = .int .i64 aw ∧ k ≤ nf ∧ kv = .int .i64 k ∧ Hid (aw = tt + k) ∧ Hid (Still w15 wr2)) (fun _ kv _ => nf - (intOf kv).toNat)
            case atStart => exact ⟨0, tt, rfl, Nat.zero_le _, rfl, Lib.hid rfl, Lib.hid (Still.refl _)⟩
            case round =>
              obtain ⟨k, aw, rfl, hk, rfl, HAW, SI⟩ := hrel
              by_cases hkn : k < nf
              · obtain ⟨x, hx⟩ : ∃ x, z.2[k]? = some x := ⟨_, List.getElem?_eq_getElem (by rw [← ZZ.out.2.2.1]; exact hkn)⟩
                have hG : G[aw]? = some x := by rw [← HS.out.fl, HAW.out, HTT.out]; exact flat_at ZZ.out.1 hx
                have han : aw < na := by rw [HNA.out]; exact (List.getElem?_eq_some_iff.1 hG).1
                obtain ⟨own15, lo15, lm15, st15, rowa15, rows15, apa15, aps15, of15, hf15⟩ := W15.out
                obtain ⟨ga, rfl⟩ : ∃ b, Aa = some ⟨b, 0, none⟩ := by
                  rcases rowa15.2 with ⟨_, h⟩ | ⟨b, cap, cur, h, _⟩
                  · omega
                  · injection h with q1
                    exact ⟨b, q1⟩
                obtain ⟨A1, n1, e1, k1, k2, k3, k4⟩ := atF of15 hf15 (fosF_at z.2 8 k x hx) hkn
                obtain ⟨A2, n2, e2, hK2, rng2, red2, hn2⟩ := HS.out.has.at_ rowa15 hG han
                simp only at k1 k2 k3 k4
                obtain rfl : n2 = n1 := by rw [k3]; exact red2.1.symm
                have KX := Lib.hid k1
                have FF := Lib.hid (fun W (s : Still wr W) => show W.rangeAt gf (k * 36) (entL x.t x.K (.slice A1 n2 e1)) ∧ W.rangeAt ga (aw * 34) (entL x.t x.K (.slice A2 n2 e2)) ∧ W.cell? ⟨gf, k * 36, none⟩ = some (.int .i64 x.t) from ⟨rangeAt_still k4.ent (Still.trans SI.out s), rangeAt_still rng2 (Still.trans SI.out s), by have h := (rangeAt_still k4.ent (Still.trans SI.out s)) 0 (.int .i64 x.t) rfl; exact h⟩)
                have SE := Lib.hid (fun W (s : Still wr W) => sameE_yes x.t x.K x.D A1 A2 n2 e1 e2 W _ _ KX.out ((Reads.of_own k2).still (Nat.le_refl _) (Still.trans SI.out s)) (red2.still (Nat.le_refl _) (Still.trans st15 (Still.trans SI.out s))) (Still.trans SI.out s).size (Still.trans st15 (Still.trans SI.out s)).size (by omega))
                have CB := Lib.hid (fun (hb : Bad14 X) W (s : Still wr W) => committed_bad X xs Ao i co _ _ W _ (still_own O4.out (Still.trans st15 (Still.trans SI.out s))) HD4.out XN.out (by omega) hb)
                have CM := Lib.hid (fun (ht : x.t = 2) (hl : k + 1 < nf) => show Bad14 X from by
                  rcases HS.out.az.cm z ZZ.out.2.1 k x hx ht with h | ⟨j, y, a, _, b⟩
                  · exfalso
                    have := ZZ.out.2.2.1
                    omega
                  · exact ⟨j, y, a, b⟩)
                have WN := Lib.hid (show IntKind.i64.wrap ((nf : Int) - 1) = (nf : Int) - 1 by rw [IntKind.wrap_i64]; omega)
                have dA : ¬ (na : Int) ≤ (aw : Int) := by omega
                have dA2 : (aw : Int) < (na : Int) := by omega
                have dK : (k : Int) < (nf : Int) := by omega
                clear hx hG lm15 st15 rowa15 rows15 apa15 aps15 of15 hf15 k1 k2 k3 k4 hK2 rng2 red2 hn2
                by_cases ht : x.t = 2
                · have bt : (x.t == 2) = true := by simpa using ht
                  by_cases hkl : k + 1 < nf
                  · have dL : (k : Int) < (nf : Int) - 1 := by omega
                    replace CB := Lib.hid (CB.out (CM.out ht hkl))
                    clear CM ht
                    go_upto_region 34 with fail
                    refine wp_region_held_drew (S := fun W => W.rangeAt gf (k * 36) (entL x.t x.K (.slice A1 n2 e1)) ∧ W.rangeAt ga (aw * 34) (entL x.t x.K (.slice A2 n2 e2)) ∧ W.cell? ⟨gf, k * 36, none⟩ = some (.int .i64 x.t)) (by kernel_rfl) (FF.out _ ((Still.refl _).drew)) (fun hHeld => ?_)
                    obtain ⟨wa, hwa⟩ : ∃ wa, wa = wr.drew := ⟨_, rfl⟩
                    have SA := Lib.hid (show Still wr wa by rw [hwa]; exact (Still.refl _).drew)
                    try rw [← hwa] at hHeld
                    rw [← hwa]
                    clear hwa
                    try simp only [Act.put, List.setIfInBounds_toArray, List.set_cons_zero, List.set_cons_succ]
                    refine wpAnyH_take (i := 0) (v := .int .i64 (aw : Int)) rfl (by kernel_rfl) (by kernel_rfl) (by kernel_rfl) (fun _ _ _ h => h) (Or.inl ⟨by kernel_rfl, fun W hS => by obtain ⟨h0, h1, h2⟩ := hS; go_simp⟩) (by assumption) ?_
                    try simp only [Act.put, List.setIfInBounds_toArray, List.set_cons_zero, List.set_cons_succ]
                    refine wpAnyH_take (i := 1) (v := .slice (some ⟨ga, 0, none⟩) na ca) rfl (by kernel_rfl) (by kernel_rfl) (by kernel_rfl) (fun _ _ _ h => h) (Or.inl ⟨by kernel_rfl, fun W hS => by obtain ⟨h0, h1, h2⟩ := hS; go_simp⟩) (by assumption) ?_
                    try simp only [Act.put, List.setIfInBounds_toArray, List.set_cons_zero, List.set_cons_succ]
                    refine wpAnyH_take (i := 2) (v := .int .i64 (na : Int)) rfl (by kernel_rfl) (by kernel_rfl) (by kernel_rfl) (fun _ _ _ h => h) (Or.inl ⟨by kernel_rfl, fun W hS => by obtain ⟨h0, h1, h2⟩ := hS; go_simp⟩) (by assumption) ?_
                    try simp only [Act.put, List.setIfInBounds_toArray, List.set_cons_zero, List.set_cons_succ]
                    refine wpAnyH_take (i := 3) (v := .bool false) rfl (by kernel_rfl) (by kernel_rfl) (by kernel_rfl) (fun _ _ _ h => h) (Or.inl ⟨by kernel_rfl, fun W hS => by obtain ⟨h0, h1, h2⟩ := hS; go_simp⟩) (by assumption) ?_
                    try simp only [Act.put, List.setIfInBounds_toArray, List.set_cons_zero, List.set_cons_succ]
                    refine wpAnyH_take (i := 4) (v := .bool false) rfl (by kernel_rfl) (by kernel_rfl) (by kernel_rfl) (fun _ _ _ h => h) (Or.inl ⟨by kernel_rfl, fun W hS => by obtain ⟨h0, h1, h2⟩ := hS; go_simp⟩) (by assumption) ?_
                    try simp only [Act.put, List.setIfInBounds_toArray, List.set_cons_zero, List.set_cons_succ]
                    refine wpAnyH_take (i := 5) (v := .slice (some ⟨gf, 0, none⟩) nf cf) rfl (by kernel_rfl) (by kernel_rfl) (by kernel_rfl) (fun _ _ _ h => h) (Or.inl ⟨by kernel_rfl, fun W hS => by obtain ⟨h0, h1, h2⟩ := hS; go_simp⟩) (by assumption) ?_
                    try simp only [Act.put, List.setIfInBounds_toArray, List.set_cons_zero, List.set_cons_succ]
                    refine wpAnyH_take (i := 6) (v := .int .i64 (k : Int)) rfl (by kernel_rfl) (by kernel_rfl) (by kernel_rfl) (fun _ _ _ h => h) (Or.inl ⟨by kernel_rfl, fun W hS => by obtain ⟨h0, h1, h2⟩ := hS; go_simp⟩) (by assumption) ?_
                    try simp only [Act.put, List.setIfInBounds_toArray, List.set_cons_zero, List.set_cons_succ]
                    refine wpAnyH_take (i := 7) (v := .pointer (some ⟨gf, k * 36, none⟩)) rfl (by kernel_rfl) (by kernel_rfl) (by kernel_rfl) (fun _ _ _ h => h) (Or.inl ⟨by kernel_rfl, fun W hS => by obtain ⟨h0, h1, h2⟩ := hS; go_simp⟩) (by assumption) ?_
                    try simp only [Act.put, List.setIfInBounds_toArray, List.set_cons_zero, List.set_cons_succ]
                    refine wpAnyH_take (i := 8) (v := .pointer (some ⟨gf, k * 36, none⟩)) rfl (by kernel_rfl) (by kernel_rfl) (by kernel_rfl) (fun _ _ _ h => h) (Or.inl ⟨by kernel_rfl, fun W hS => by obtain ⟨h0, h1, h2⟩ := hS; go_simp⟩) (by assumption) ?_
                    try simp only [Act.put, List.setIfInBounds_toArray, List.set_cons_zero, List.set_cons_succ]
                    refine wpAnyH_take (i := 9) (oi := ⟨some 188, .load 44 (.tmp 187), _, _, _, _⟩) (v := .agg (entV x.t x.K (.slice A1 n2 e1))) rfl (by kernel_rfl) (by kernel_rfl) (by kernel_rfl) (fun _ _ _ h => h) ?hy9 (by assumption) ?_
                    case hy9 =>
                      refine yieldsIf_load_mid ?hw 44 (.tmp 187) ?ho gf (k * 36) ?hx (entL x.t x.K (.slice A1 n2 e1)) _ (fun W h => h.1) HU.out rfl (by rw [sizeEnt, entL_len0 _ _ _ KX.out])
                      case hw => kernel_rfl
                      case ho => rfl
                      case hx => kernel_rfl
                    try simp only [Act.put, List.setIfInBounds_toArray, List.set_cons_zero, List.set_cons_succ]
                    refine wpAnyH_take (i := 10) (v := .slice (some ⟨ga, 0, none⟩) na ca) rfl (by kernel_rfl) (by kernel_rfl) (by kernel_rfl) (fun _ _ _ h => h) (Or.inl ⟨by kernel_rfl, fun W hS => by obtain ⟨h0, h1, h2⟩ := hS; go_simp⟩) (by assumption) ?_
                    try simp only [Act.put, List.setIfInBounds_toArray, List.set_cons_zero, List.set_cons_succ]
                    refine wpAnyH_take (i := 11) (v := .int .i64 (aw : Int)) rfl (by kernel_rfl) (by kernel_rfl) (by kernel_rfl) (fun _ _ _ h => h) (Or.inl ⟨by kernel_rfl, fun W hS => by obtain ⟨h0, h1, h2⟩ := hS; go_simp⟩) (by assumption) ?_
                    try simp only [Act.put, List.setIfInBounds_toArray, List.set_cons_zero, List.set_cons_succ]
                    refine wpAnyH_take (i := 12) (v := .pointer (some ⟨ga, aw * 34, none⟩)) rfl (by kernel_rfl) (by kernel_rfl) (by kernel_rfl) (fun _ _ _ h => h) (Or.inl ⟨by kernel_rfl, fun W hS => by obtain ⟨h0, h1, h2⟩ := hS; go_simp⟩) (by assumption) ?_
                    try simp only [Act.put, List.setIfInBounds_toArray, List.set_cons_zero, List.set_cons_succ]
                    refine wpAnyH_take (i := 13) (oi := ⟨some 192, .load 44 (.tmp 191), _, _, _, _⟩) (v := .agg (entV x.t x.K (.slice A2 n2 e2))) rfl (by kernel_rfl) (by kernel_rfl) (by kernel_rfl) (fun _ _ _ h => h) ?hy13 (by assumption) ?_
                    case hy13 =>
                      refine yieldsIf_load_mid ?hw 44 (.tmp 191) ?ho ga (aw * 34) ?hx (entL x.t x.K (.slice A2 n2 e2)) _ (fun W h => h.2.1) HU.out rfl (by rw [sizeEnt, entL_len0 _ _ _ KX.out])
                      case hw => kernel_rfl
                      case ho => rfl
                      case hx => kernel_rfl
                    try simp only [Act.put, List.setIfInBounds_toArray, List.set_cons_zero, List.set_cons_succ]
                    refine wpAnyH_ready (rs := [14]) (by kernel_rfl) (by simp) ?_
                    refine AllReadyH.cons (o := ⟨some 193, .call { callee := .value (.func 36), args := #[.tmp 188, .tmp 192], argTypes := #[44, 44] }, _, _, _, _⟩) rfl (fun K' hK' => ?_) AllReadyH.nil
                    have HK' := Lib.hid hK'
                    clear hK'
                    go_simp
                    go_wp2_with (go_at_call 36; refine (SE.out _ SA.out).mono ?_; rintro e w16 ⟨rfl, s16⟩; have S16 := Lib.hid (SA.out.trans s16))
                    refine HK'.out.out _ _ (FF.out _ S16.out) (fun hHeld => ?_)
                    clear HK' K'
                    try simp only [Act.put, List.setIfInBounds_toArray, List.set_cons_zero, List.set_cons_succ]
                    refine wpAnyH_take (i := 15) (v := .bool false) rfl (by kernel_rfl) (by kernel_rfl) (by kernel_rfl) (fun _ _ _ h => h) (Or.inl ⟨by kernel_rfl, fun W hS => by obtain ⟨h0, h1, h2⟩ := hS; go_simp⟩) (by assumption) ?_
                    try simp only [Act.put, List.setIfInBounds_toArray, List.set_cons_zero, List.set_cons_succ]
                    refine wpAnyH_take (i := 16) (v := .bool false) rfl (by kernel_rfl) (by kernel_rfl) (by kernel_rfl) (fun _ _ _ h => h) (Or.inl ⟨by kernel_rfl, fun W hS => by obtain ⟨h0, h1, h2⟩ := hS; go_simp⟩) (by assumption) ?_
                    try simp only [Act.put, List.setIfInBounds_toArray, List.set_cons_zero, List.set_cons_succ]
                    refine wpAnyH_take (i := 17) (v := .bool false) rfl (by kernel_rfl) (by kernel_rfl) (by kernel_rfl) (fun _ _ _ h => h) (Or.inl ⟨by kernel_rfl, fun W hS => by obtain ⟨h0, h1, h2⟩ := hS; go_simp⟩) (by assumption) ?_
                    try simp only [Act.put, List.setIfInBounds_toArray, List.set_cons_zero, List.set_cons_succ]
                    refine wpAnyH_take (i := 18) (v := .slice (some ⟨gf, 0, none⟩) nf cf) rfl (by kernel_rfl) (by kernel_rfl) (by kernel_rfl) (fun _ _ _ h => h) (Or.inl ⟨by kernel_rfl, fun W hS => by obtain ⟨h0, h1, h2⟩ := hS; go_simp⟩) (by assumption) ?_
                    try simp only [Act.put, List.setIfInBounds_toArray, List.set_cons_zero, List.set_cons_succ]
                    refine wpAnyH_take (i := 19) (v := .int .i64 (k : Int)) rfl (by kernel_rfl) (by kernel_rfl) (by kernel_rfl) (fun _ _ _ h => h) (Or.inl ⟨by kernel_rfl, fun W hS => by obtain ⟨h0, h1, h2⟩ := hS; go_simp⟩) (by assumption) ?_
                    try simp only [Act.put, List.setIfInBounds_toArray, List.set_cons_zero, List.set_cons_succ]
                    refine wpAnyH_take (i := 20) (v := .pointer (some ⟨gf, k * 36, none⟩)) rfl (by kernel_rfl) (by kernel_rfl) (by kernel_rfl) (fun _ _ _ h => h) (Or.inl ⟨by kernel_rfl, fun W hS => by obtain ⟨h0, h1, h2⟩ := hS; go_simp⟩) (by assumption) ?_
                    try simp only [Act.put, List.setIfInBounds_toArray, List.set_cons_zero, List.set_cons_succ]
                    refine wpAnyH_take (i := 21) (v := .pointer (some ⟨gf, k * 36, none⟩)) rfl (by kernel_rfl) (by kernel_rfl) (by kernel_rfl) (fun _ _ _ h => h) (Or.inl ⟨by kernel_rfl, fun W hS => by obtain ⟨h0, h1, h2⟩ := hS; go_simp⟩) (by assumption) ?_
                    try simp only [Act.put, List.setIfInBounds_toArray, List.set_cons_zero, List.set_cons_succ]
                    refine wpAnyH_take (i := 22) (v := .pointer (some ⟨gf, k * 36, none⟩)) rfl (by kernel_rfl) (by kernel_rfl) (by kernel_rfl) (fun _ _ _ h => h) (Or.inl ⟨by kernel_rfl, fun W hS => by obtain ⟨h0, h1, h2⟩ := hS; go_simp⟩) (by assumption) ?_
                    try simp only [Act.put, List.setIfInBounds_toArray, List.set_cons_zero, List.set_cons_succ]
                    refine wpAnyH_take (i := 23) (v := .int .i64 x.t) rfl (by kernel_rfl) (by kernel_rfl) (by kernel_rfl) (fun _ _ _ h => h) (Or.inl ⟨by kernel_rfl, fun W hS => by obtain ⟨h0, h1, h2⟩ := hS; go_simp⟩) (by assumption) ?_
                    try simp only [Act.put, List.setIfInBounds_toArray, List.set_cons_zero, List.set_cons_succ]
                    refine wpAnyH_take (i := 24) (v := .bool true) rfl (by kernel_rfl) (by kernel_rfl) (by kernel_rfl) (fun _ _ _ h => h) (Or.inl ⟨by kernel_rfl, fun W hS => by obtain ⟨h0, h1, h2⟩ := hS; go_simp⟩) (by assumption) ?_
                    try simp only [Act.put, List.setIfInBounds_toArray, List.set_cons_zero, List.set_cons_succ]
                    refine wpAnyH_take (i := 25) (v := .bool true) rfl (by kernel_rfl) (by kernel_rfl) (by kernel_rfl) (fun _ _ _ h => h) (Or.inl ⟨by kernel_rfl, fun W hS => by obtain ⟨h0, h1, h2⟩ := hS; go_simp⟩) (by assumption) ?_
                    try simp only [Act.put, List.setIfInBounds_toArray, List.set_cons_zero, List.set_cons_succ]
                    refine wpAnyH_take (i := 26) (v := .int .i64 (k : Int)) rfl (by kernel_rfl) (by kernel_rfl) (by kernel_rfl) (fun _ _ _ h => h) (Or.inl ⟨by kernel_rfl, fun W hS => by obtain ⟨h0, h1, h2⟩ := hS; go_simp⟩) (by assumption) ?_
                    try simp only [Act.put, List.setIfInBounds_toArray, List.set_cons_zero, List.set_cons_succ]
                    refine wpAnyH_take (i := 27) (v := .slice (some ⟨gf, 0, none⟩) nf cf) rfl (by kernel_rfl) (by kernel_rfl) (by kernel_rfl) (fun _ _ _ h => h) (Or.inl ⟨by kernel_rfl, fun W hS => by obtain ⟨h0, h1, h2⟩ := hS; go_simp⟩) (by assumption) ?_
                    try simp only [Act.put, List.setIfInBounds_toArray, List.set_cons_zero, List.set_cons_succ]
                    refine wpAnyH_take (i := 28) (v := .int .i64 (nf : Int)) rfl (by kernel_rfl) (by kernel_rfl) (by kernel_rfl) (fun _ _ _ h => h) (Or.inl ⟨by kernel_rfl, fun W hS => by obtain ⟨h0, h1, h2⟩ := hS; go_simp⟩) (by assumption) ?_
                    try simp only [Act.put, List.setIfInBounds_toArray, List.set_cons_zero, List.set_cons_succ]
                    refine wpAnyH_take (i := 29) (v := .int .i64 ((nf : Int) - 1)) rfl (by kernel_rfl) (by kernel_rfl) (by kernel_rfl) (fun _ _ _ h => h) (Or.inl ⟨by kernel_rfl, fun W hS => by obtain ⟨h0, h1, h2⟩ := hS; go_simp; exact WN.out⟩) (by assumption) ?_
                    try simp only [Act.put, List.setIfInBounds_toArray, List.set_cons_zero, List.set_cons_succ]
                    refine wpAnyH_take (i := 30) (v := .bool true) rfl (by kernel_rfl) (by kernel_rfl) (by kernel_rfl) (fun _ _ _ h => h) (Or.inl ⟨by kernel_rfl, fun W hS => by obtain ⟨h0, h1, h2⟩ := hS; go_simp⟩) (by assumption) ?_
                    try simp only [Act.put, List.setIfInBounds_toArray, List.set_cons_zero, List.set_cons_succ]
                    refine wpAnyH_take (i := 31) (v := .bool true) rfl (by kernel_rfl) (by kernel_rfl) (by kernel_rfl) (fun _ _ _ h => h) (Or.inl ⟨by kernel_rfl, fun W hS => by obtain ⟨h0, h1, h2⟩ := hS; go_simp⟩) (by assumption) ?_
                    try simp only [Act.put, List.setIfInBounds_toArray, List.set_cons_zero, List.set_cons_succ]
                    refine wpAnyH_take (i := 32) (v := .bool true) rfl (by kernel_rfl) (by kernel_rfl) (by kernel_rfl) (fun _ _ _ h => h) (Or.inl ⟨by kernel_rfl, fun W hS => by obtain ⟨h0, h1, h2⟩ := hS; go_simp⟩) (by assumption) ?_
                    try simp only [Act.put, List.setIfInBounds_toArray, List.set_cons_zero, List.set_cons_succ]
                    refine wpAnyH_take (i := 33) (v := .slice Ao i co) rfl (by kernel_rfl) (by kernel_rfl) (by kernel_rfl) (fun _ _ _ h => h) (Or.inl ⟨by kernel_rfl, fun W hS => by obtain ⟨h0, h1, h2⟩ := hS; go_simp⟩) (by assumption) ?_
                    try simp only [Act.put, List.setIfInBounds_toArray, List.set_cons_zero, List.set_cons_succ]
                    refine wpAnyH_ready (rs := [34]) (by kernel_rfl) (by simp) ?_
                    refine AllReadyH.cons (o := ⟨some 213, .call { callee := .value (.func 44), args := #[.tmp 212], argTypes := #[22] }, _, _, _, _⟩) rfl (fun K' hK' => ?_) AllReadyH.nil
                    have HK' := Lib.hid hK'
                    clear hK'
                    go_simp
                    go_wp2_with (go_at_call 44; refine (CB.out _ S16.out).mono ?_; rintro e w17 ⟨rfl, s17⟩; have S17 := Lib.hid (Still.trans S16.out s17))
                    refine HK'.out.out _ _ (FF.out _ S17.out) (fun hHeld => ?_)
                    clear HK' K'
                    try simp only [Act.put, List.setIfInBounds_toArray, List.set_cons_zero, List.set_cons_succ]
                    refine wpAnyH_take (i := 35) (v := .bool false) rfl (by kernel_rfl) (by kernel_rfl) (by kernel_rfl) (fun _ _ _ h => h) (Or.inl ⟨by kernel_rfl, fun W hS => by obtain ⟨h0, h1, h2⟩ := hS; go_simp⟩) (by assumption) ?_
                    try simp only [Act.put, List.setIfInBounds_toArray, List.set_cons_zero, List.set_cons_succ]
                    refine wpAnyH_take (i := 36) (v := .bool false) rfl (by kernel_rfl) (by kernel_rfl) (by kernel_rfl) (fun _ _ _ h => h) (Or.inl ⟨by kernel_rfl, fun W hS => by obtain ⟨h0, h1, h2⟩ := hS; go_simp⟩) (by assumption) ?_
                    try simp only [Act.put, List.setIfInBounds_toArray, List.set_cons_zero, List.set_cons_succ]
                    refine wpAnyH_done (by kernel_rfl) ?_ _
                    have SN := Lib.hid (Still.trans SI.out S17.out)
                    clear FF SE SA S16 hHeld CB S17
                    go_simp
                    go_wp2_with fail
                    go_roundw
                    case rel => exact ⟨k + 1, aw + 1, by go_num, by omega, by go_num, Lib.hid (by have := HAW.out; omega), SN⟩
                    case measure => simp [intOf]; omega
                  · have dL : ¬ (k : Int) < (nf : Int) - 1 := by omega
                    clear CB CM ht
                    go_upto_region 34 with fail
                    refine wp_region_held_drew (S := fun W => W.rangeAt gf (k * 36) (entL x.t x.K (.slice A1 n2 e1)) ∧ W.rangeAt ga (aw * 34) (entL x.t x.K (.slice A2 n2 e2)) ∧ W.cell? ⟨gf, k * 36, none⟩ = some (.int .i64 x.t)) (by kernel_rfl) (FF.out _ ((Still.refl _).drew)) (fun hHeld => ?_)
                    obtain ⟨wa, hwa⟩ : ∃ wa, wa = wr.drew := ⟨_, rfl⟩
                    have SA := Lib.hid (show Still wr wa by rw [hwa]; exact (Still.refl _).drew)
                    try rw [← hwa] at hHeld
                    rw [← hwa]
                    clear hwa
                    try simp only [Act.put, List.setIfInBounds_toArray, List.set_cons_zero, List.set_cons_succ]
                    refine wpAnyH_take (i := 0) (v := .int .i64 (aw : Int)) rfl (by kernel_rfl) (by kernel_rfl) (by kernel_rfl) (fun _ _ _ h => h) (Or.inl ⟨by kernel_rfl, fun W hS => by obtain ⟨h0, h1, h2⟩ := hS; go_simp⟩) (by assumption) ?_
                    try simp only [Act.put, List.setIfInBounds_toArray, List.set_cons_zero, List.set_cons_succ]
                    refine wpAnyH_take (i := 1) (v := .slice (some ⟨ga, 0, none⟩) na ca) rfl (by kernel_rfl) (by kernel_rfl) (by kernel_rfl) (fun _ _ _ h => h) (Or.inl ⟨by kernel_rfl, fun W hS => by obtain ⟨h0, h1, h2⟩ := hS; go_simp⟩) (by assumption) ?_
                    try simp only [Act.put, List.setIfInBounds_toArray, List.set_cons_zero, List.set_cons_succ]
                    refine wpAnyH_take (i := 2) (v := .int .i64 (na : Int)) rfl (by kernel_rfl) (by kernel_rfl) (by kernel_rfl) (fun _ _ _ h => h) (Or.inl ⟨by kernel_rfl, fun W hS => by obtain ⟨h0, h1, h2⟩ := hS; go_simp⟩) (by assumption) ?_
                    try simp only [Act.put, List.setIfInBounds_toArray, List.set_cons_zero, List.set_cons_succ]
                    refine wpAnyH_take (i := 3) (v := .bool false) rfl (by kernel_rfl) (by kernel_rfl) (by kernel_rfl) (fun _ _ _ h => h) (Or.inl ⟨by kernel_rfl, fun W hS => by obtain ⟨h0, h1, h2⟩ := hS; go_simp⟩) (by assumption) ?_
                    try simp only [Act.put, List.setIfInBounds_toArray, List.set_cons_zero, List.set_cons_succ]
                    refine wpAnyH_take (i := 4) (v := .bool false) rfl (by kernel_rfl) (by kernel_rfl) (by kernel_rfl) (fun _ _ _ h => h) (Or.inl ⟨by kernel_rfl, fun W hS => by obtain ⟨h0, h1, h2⟩ := hS; go_simp⟩) (by assumption) ?_
                    try simp only [Act.put, List.setIfInBounds_toArray, List.set_cons_zero, List.set_cons_succ]
                    refine wpAnyH_take (i := 5) (v := .slice (some ⟨gf, 0, none⟩) nf cf) rfl (by kernel_rfl) (by kernel_rfl) (by kernel_rfl) (fun _ _ _ h => h) (Or.inl ⟨by kernel_rfl, fun W hS => by obtain ⟨h0, h1, h2⟩ := hS; go_simp⟩) (by assumption) ?_
                    try simp only [Act.put, List.setIfInBounds_toArray, List.set_cons_zero, List.set_cons_succ]
                    refine wpAnyH_take (i := 6) (v := .int .i64 (k : Int)) rfl (by kernel_rfl) (by kernel_rfl) (by kernel_rfl) (fun _ _ _ h => h) (Or.inl ⟨by kernel_rfl, fun W hS => by obtain ⟨h0, h1, h2⟩ := hS; go_simp⟩) (by assumption) ?_
                    try simp only [Act.put, List.setIfInBounds_toArray, List.set_cons_zero, List.set_cons_succ]
                    refine wpAnyH_take (i := 7) (v := .pointer (some ⟨gf, k * 36, none⟩)) rfl (by kernel_rfl) (by kernel_rfl) (by kernel_rfl) (fun _ _ _ h => h) (Or.inl ⟨by kernel_rfl, fun W hS => by obtain ⟨h0, h1, h2⟩ := hS; go_simp⟩) (by assumption) ?_
                    try simp only [Act.put, List.setIfInBounds_toArray, List.set_cons_zero, List.set_cons_succ]
                    refine wpAnyH_take (i := 8) (v := .pointer (some ⟨gf, k * 36, none⟩)) rfl (by kernel_rfl) (by kernel_rfl) (by kernel_rfl) (fun _ _ _ h => h) (Or.inl ⟨by kernel_rfl, fun W hS => by obtain ⟨h0, h1, h2⟩ := hS; go_simp⟩) (by assumption) ?_
                    try simp only [Act.put, List.setIfInBounds_toArray, List.set_cons_zero, List.set_cons_succ]
                    refine wpAnyH_take (i := 9) (oi := ⟨some 188, .load 44 (.tmp 187), _, _, _, _⟩) (v := .agg (entV x.t x.K (.slice A1 n2 e1))) rfl (by kernel_rfl) (by kernel_rfl) (by kernel_rfl) (fun _ _ _ h => h) ?hy9 (by assumption) ?_
                    case hy9 =>
                      refine yieldsIf_load_mid ?hw 44 (.tmp 187) ?ho gf (k * 36) ?hx (entL x.t x.K (.slice A1 n2 e1)) _ (fun W h => h.1) HU.out rfl (by rw [sizeEnt, entL_len0 _ _ _ KX.out])
                      case hw => kernel_rfl
                      case ho => rfl
                      case hx => kernel_rfl
                    try simp only [Act.put, List.setIfInBounds_toArray, List.set_cons_zero, List.set_cons_succ]
                    refine wpAnyH_take (i := 10) (v := .slice (some ⟨ga, 0, none⟩) na ca) rfl (by kernel_rfl) (by kernel_rfl) (by kernel_rfl) (fun _ _ _ h => h) (Or.inl ⟨by kernel_rfl, fun W hS => by obtain ⟨h0, h1, h2⟩ := hS; go_simp⟩) (by assumption) ?_
                    try simp only [Act.put, List.setIfInBounds_toArray, List.set_cons_zero, List.set_cons_succ]
                    refine wpAnyH_take (i := 11) (v := .int .i64 (aw : Int)) rfl (by kernel_rfl) (by kernel_rfl) (by kernel_rfl) (fun _ _ _ h => h) (Or.inl ⟨by kernel_rfl, fun W hS => by obtain ⟨h0, h1, h2⟩ := hS; go_simp⟩) (by assumption) ?_
                    try simp only [Act.put, List.setIfInBounds_toArray, List.set_cons_zero, List.set_cons_succ]
                    refine wpAnyH_take (i := 12) (v := .pointer (some ⟨ga, aw * 34, none⟩)) rfl (by kernel_rfl) (by kernel_rfl) (by kernel_rfl) (fun _ _ _ h => h) (Or.inl ⟨by kernel_rfl, fun W hS => by obtain ⟨h0, h1, h2⟩ := hS; go_simp⟩) (by assumption) ?_
                    try simp only [Act.put, List.setIfInBounds_toArray, List.set_cons_zero, List.set_cons_succ]
                    refine wpAnyH_take (i := 13) (oi := ⟨some 192, .load 44 (.tmp 191), _, _, _, _⟩) (v := .agg (entV x.t x.K (.slice A2 n2 e2))) rfl (by kernel_rfl) (by kernel_rfl) (by kernel_rfl) (fun _ _ _ h => h) ?hy13 (by assumption) ?_
                    case hy13 =>
                      refine yieldsIf_load_mid ?hw 44 (.tmp 191) ?ho ga (aw * 34) ?hx (entL x.t x.K (.slice A2 n2 e2)) _ (fun W h => h.2.1) HU.out rfl (by rw [sizeEnt, entL_len0 _ _ _ KX.out])
                      case hw => kernel_rfl
                      case ho => rfl
                      case hx => kernel_rfl
                    try simp only [Act.put, List.setIfInBounds_toArray, List.set_cons_zero, List.set_cons_succ]
                    refine wpAnyH_ready (rs := [14]) (by kernel_rfl) (by simp) ?_
                    refine AllReadyH.cons (o := ⟨some 193, .call { callee := .value (.func 36), args := #[.tmp 188, .tmp 192], argTypes := #[44, 44] }, _, _, _, _⟩) rfl (fun K' hK' => ?_) AllReadyH.nil
                    have HK' := Lib.hid hK'
                    clear hK'
                    go_simp
                    go_wp2_with (go_at_call 36; refine (SE.out _ SA.out).mono ?_; rintro e w16 ⟨rfl, s16⟩; have S16 := Lib.hid (SA.out.trans s16))
                    refine HK'.out.out _ _ (FF.out _ S16.out) (fun hHeld => ?_)
                    clear HK' K'
                    try simp only [Act.put, List.setIfInBounds_toArray, List.set_cons_zero, List.set_cons_succ]
                    refine wpAnyH_take (i := 15) (v := .bool false) rfl (by kernel_rfl) (by kernel_rfl) (by kernel_rfl) (fun _ _ _ h => h) (Or.inl ⟨by kernel_rfl, fun W hS => by obtain ⟨h0, h1, h2⟩ := hS; go_simp⟩) (by assumption) ?_
                    try simp only [Act.put, List.setIfInBounds_toArray, List.set_cons_zero, List.set_cons_succ]
                    refine wpAnyH_take (i := 16) (v := .bool false) rfl (by kernel_rfl) (by kernel_rfl) (by kernel_rfl) (fun _ _ _ h => h) (Or.inl ⟨by kernel_rfl, fun W hS => by obtain ⟨h0, h1, h2⟩ := hS; go_simp⟩) (by assumption) ?_
                    try simp only [Act.put, List.setIfInBounds_toArray, List.set_cons_zero, List.set_cons_succ]
                    refine wpAnyH_take (i := 17) (v := .bool false) rfl (by kernel_rfl) (by kernel_rfl) (by kernel_rfl) (fun _ _ _ h => h) (Or.inl ⟨by kernel_rfl, fun W hS => by obtain ⟨h0, h1, h2⟩ := hS; go_simp⟩) (by assumption) ?_
                    try simp only [Act.put, List.setIfInBounds_toArray, List.set_cons_zero, List.set_cons_succ]
                    refine wpAnyH_take (i := 18) (v := .slice (some ⟨gf, 0, none⟩) nf cf) rfl (by kernel_rfl) (by kernel_rfl) (by kernel_rfl) (fun _ _ _ h => h) (Or.inl ⟨by kernel_rfl, fun W hS => by obtain ⟨h0, h1, h2⟩ := hS; go_simp⟩) (by assumption) ?_
                    try simp only [Act.put, List.setIfInBounds_toArray, List.set_cons_zero, List.set_cons_succ]
                    refine wpAnyH_take (i := 19) (v := .int .i64 (k : Int)) rfl (by kernel_rfl) (by kernel_rfl) (by kernel_rfl) (fun _ _ _ h => h) (Or.inl ⟨by kernel_rfl, fun W hS => by obtain ⟨h0, h1, h2⟩ := hS; go_simp⟩) (by assumption) ?_
                    try simp only [Act.put, List.setIfInBounds_toArray, List.set_cons_zero, List.set_cons_succ]
                    refine wpAnyH_take (i := 20) (v := .pointer (some ⟨gf, k * 36, none⟩)) rfl (by kernel_rfl) (by kernel_rfl) (by kernel_rfl) (fun _ _ _ h => h) (Or.inl ⟨by kernel_rfl, fun W hS => by obtain ⟨h0, h1, h2⟩ := hS; go_simp⟩) (by assumption) ?_
                    try simp only [Act.put, List.setIfInBounds_toArray, List.set_cons_zero, List.set_cons_succ]
                    refine wpAnyH_take (i := 21) (v := .pointer (some ⟨gf, k * 36, none⟩)) rfl (by kernel_rfl) (by kernel_rfl) (by kernel_rfl) (fun _ _ _ h => h) (Or.inl ⟨by kernel_rfl, fun W hS => by obtain ⟨h0, h1, h2⟩ := hS; go_simp⟩) (by assumption) ?_
                    try simp only [Act.put, List.setIfInBounds_toArray, List.set_cons_zero, List.set_cons_succ]
                    refine wpAnyH_take (i := 22) (v := .pointer (some ⟨gf, k * 36, none⟩)) rfl (by kernel_rfl) (by kernel_rfl) (by kernel_rfl) (fun _ _ _ h => h) (Or.inl ⟨by kernel_rfl, fun W hS => by obtain ⟨h0, h1, h2⟩ := hS; go_simp⟩) (by assumption) ?_
                    try simp only [Act.put, List.setIfInBounds_toArray, List.set_cons_zero, List.set_cons_succ]
                    refine wpAnyH_take (i := 23) (v := .int .i64 x.t) rfl (by kernel_rfl) (by kernel_rfl) (by kernel_rfl) (fun _ _ _ h => h) (Or.inl ⟨by kernel_rfl, fun W hS => by obtain ⟨h0, h1, h2⟩ := hS; go_simp⟩) (by assumption) ?_
                    try simp only [Act.put, List.setIfInBounds_toArray, List.set_cons_zero, List.set_cons_succ]
                    refine wpAnyH_take (i := 24) (v := .bool true) rfl (by kernel_rfl) (by kernel_rfl) (by kernel_rfl) (fun _ _ _ h => h) (Or.inl ⟨by kernel_rfl, fun W hS => by obtain ⟨h0, h1, h2⟩ := hS; go_simp⟩) (by assumption) ?_
                    try simp only [Act.put, List.setIfInBounds_toArray, List.set_cons_zero, List.set_cons_succ]
                    refine wpAnyH_take (i := 25) (v := .bool true) rfl (by kernel_rfl) (by kernel_rfl) (by kernel_rfl) (fun _ _ _ h => h) (Or.inl ⟨by kernel_rfl, fun W hS => by obtain ⟨h0, h1, h2⟩ := hS; go_simp⟩) (by assumption) ?_
                    try simp only [Act.put, List.setIfInBounds_toArray, List.set_cons_zero, List.set_cons_succ]
                    refine wpAnyH_take (i := 26) (v := .int .i64 (k : Int)) rfl (by kernel_rfl) (by kernel_rfl) (by kernel_rfl) (fun _ _ _ h => h) (Or.inl ⟨by kernel_rfl, fun W hS => by obtain ⟨h0, h1, h2⟩ := hS; go_simp⟩) (by assumption) ?_
                    try simp only [Act.put, List.setIfInBounds_toArray, List.set_cons_zero, List.set_cons_succ]
                    refine wpAnyH_take (i := 27) (v := .slice (some ⟨gf, 0, none⟩) nf cf) rfl (by kernel_rfl) (by kernel_rfl) (by kernel_rfl) (fun _ _ _ h => h) (Or.inl ⟨by kernel_rfl, fun W hS => by obtain ⟨h0, h1, h2⟩ := hS; go_simp⟩) (by assumption) ?_
                    try simp only [Act.put, List.setIfInBounds_toArray, List.set_cons_zero, List.set_cons_succ]
                    refine wpAnyH_take (i := 28) (v := .int .i64 (nf : Int)) rfl (by kernel_rfl) (by kernel_rfl) (by kernel_rfl) (fun _ _ _ h => h) (Or.inl ⟨by kernel_rfl, fun W hS => by obtain ⟨h0, h1, h2⟩ := hS; go_simp⟩) (by assumption) ?_
                    try simp only [Act.put, List.setIfInBounds_toArray, List.set_cons_zero, List.set_cons_succ]
                    refine wpAnyH_take (i := 29) (v := .int .i64 ((nf : Int) - 1)) rfl (by kernel_rfl) (by kernel_rfl) (by kernel_rfl) (fun _ _ _ h => h) (Or.inl ⟨by kernel_rfl, fun W hS => by obtain ⟨h0, h1, h2⟩ := hS; go_simp; exact WN.out⟩) (by assumption) ?_
                    try simp only [Act.put, List.setIfInBounds_toArray, List.set_cons_zero, List.set_cons_succ]
                    refine wpAnyH_take (i := 30) (v := .bool false) rfl (by kernel_rfl) (by kernel_rfl) (by kernel_rfl) (fun _ _ _ h => h) (Or.inl ⟨by kernel_rfl, fun W hS => by obtain ⟨h0, h1, h2⟩ := hS; go_simp⟩) (by assumption) ?_
                    try simp only [Act.put, List.setIfInBounds_toArray, List.set_cons_zero, List.set_cons_succ]
                    refine wpAnyH_take (i := 31) (v := .bool false) rfl (by kernel_rfl) (by kernel_rfl) (by kernel_rfl) (fun _ _ _ h => h) (Or.inl ⟨by kernel_rfl, fun W hS => by obtain ⟨h0, h1, h2⟩ := hS; go_simp⟩) (by assumption) ?_
                    try simp only [Act.put, List.setIfInBounds_toArray, List.set_cons_zero, List.set_cons_succ]
                    refine wpAnyH_take (i := 32) (v := .bool false) rfl (by kernel_rfl) (by kernel_rfl) (by kernel_rfl) (fun _ _ _ h => h) (Or.inl ⟨by kernel_rfl, fun W hS => by obtain ⟨h0, h1, h2⟩ := hS; go_simp⟩) (by assumption) ?_
                    try simp only [Act.put, List.setIfInBounds_toArray, List.set_cons_zero, List.set_cons_succ]
                    refine wpAnyH_take (i := 33) (v := undef) rfl (by kernel_rfl) (by kernel_rfl) (by kernel_rfl) (fun _ _ _ h => h) (Or.inr ⟨by kernel_rfl, rfl⟩) (by assumption) ?_
                    try simp only [Act.put, List.setIfInBounds_toArray, List.set_cons_zero, List.set_cons_succ]
                    refine wpAnyH_take (i := 34) (v := undef) rfl (by kernel_rfl) (by kernel_rfl) (by kernel_rfl) (fun _ _ _ h => h) (Or.inr ⟨by kernel_rfl, rfl⟩) (by assumption) ?_
                    try simp only [Act.put, List.setIfInBounds_toArray, List.set_cons_zero, List.set_cons_succ]
                    refine wpAnyH_take (i := 35) (v := .bool false) rfl (by kernel_rfl) (by kernel_rfl) (by kernel_rfl) (fun _ _ _ h => h) (Or.inl ⟨by kernel_rfl, fun W hS => by obtain ⟨h0, h1, h2⟩ := hS; go_simp⟩) (by assumption) ?_
                    try simp only [Act.put, List.setIfInBounds_toArray, List.set_cons_zero, List.set_cons_succ]
                    refine wpAnyH_take (i := 36) (v := .bool false) rfl (by kernel_rfl) (by kernel_rfl) (by kernel_rfl) (fun _ _ _ h => h) (Or.inl ⟨by kernel_rfl, fun W hS => by obtain ⟨h0, h1, h2⟩ := hS; go_simp⟩) (by assumption) ?_
                    try simp only [Act.put, List.setIfInBounds_toArray, List.set_cons_zero, List.set_cons_succ]
                    refine wpAnyH_done (by kernel_rfl) ?_ _
                    have SN := Lib.hid (Still.trans SI.out S16.out)
                    clear FF SE SA S16 hHeld
                    go_simp
                    go_wp2_with fail
                    go_roundw
                    case rel => exact ⟨k + 1, aw + 1, by go_num, by omega, by go_num, Lib.hid (by have := HAW.out; omega), SN⟩
                    case measure => simp [intOf]; omega
                · have bt : (x.t == 2) = false := by simpa using ht
                  clear CB CM ht
                  go_upto_region 34 with fail
                  refine wp_region_held_drew (S := fun W => W.rangeAt gf (k * 36) (entL x.t x.K (.slice A1 n2 e1)) ∧ W.rangeAt ga (aw * 34) (entL x.t x.K (.slice A2 n2 e2)) ∧ W.cell? ⟨gf, k * 36, none⟩ = some (.int .i64 x.t)) (by kernel_rfl) (FF.out _ ((Still.refl _).drew)) (fun hHeld => ?_)
                  obtain ⟨wa, hwa⟩ : ∃ wa, wa = wr.drew := ⟨_, rfl⟩
                  have SA := Lib.hid (show Still wr wa by rw [hwa]; exact (Still.refl _).drew)
                  try rw [← hwa] at hHeld
                  rw [← hwa]
                  clear hwa
                  try simp only [Act.put, List.setIfInBounds_toArray, List.set_cons_zero, List.set_cons_succ]
                  refine wpAnyH_take (i := 0) (v := .int .i64 (aw : Int)) rfl (by kernel_rfl) (by kernel_rfl) (by kernel_rfl) (fun _ _ _ h => h) (Or.inl ⟨by kernel_rfl, fun W hS => by obtain ⟨h0, h1, h2⟩ := hS; go_simp⟩) (by assumption) ?_
                  try simp only [Act.put, List.setIfInBounds_toArray, List.set_cons_zero, List.set_cons_succ]
                  refine wpAnyH_take (i := 1) (v := .slice (some ⟨ga, 0, none⟩) na ca) rfl (by kernel_rfl) (by kernel_rfl) (by kernel_rfl) (fun _ _ _ h => h) (Or.inl ⟨by kernel_rfl, fun W hS => by obtain ⟨h0, h1, h2⟩ := hS; go_simp⟩) (by assumption) ?_
                  try simp only [Act.put, List.setIfInBounds_toArray, List.set_cons_zero, List.set_cons_succ]
                  refine wpAnyH_take (i := 2) (v := .int .i64 (na : Int)) rfl (by kernel_rfl) (by kernel_rfl) (by kernel_rfl) (fun _ _ _ h => h) (Or.inl ⟨by kernel_rfl, fun W hS => by obtain ⟨h0, h1, h2⟩ := hS; go_simp⟩) (by assumption) ?_
                  try simp only [Act.put, List.setIfInBounds_toArray, List.set_cons_zero, List.set_cons_succ]
                  refine wpAnyH_take (i := 3) (v := .bool false) rfl (by kernel_rfl) (by kernel_rfl) (by kernel_rfl) (fun _ _ _ h => h) (Or.inl ⟨by kernel_rfl, fun W hS => by obtain ⟨h0, h1, h2⟩ := hS; go_simp⟩) (by assumption) ?_
                  try simp only [Act.put, List.setIfInBounds_toArray, List.set_cons_zero, List.set_cons_succ]
                  refine wpAnyH_take (i := 4) (v := .bool false) rfl (by kernel_rfl) (by kernel_rfl) (by kernel_rfl) (fun _ _ _ h => h) (Or.inl ⟨by kernel_rfl, fun W hS => by obtain ⟨h0, h1, h2⟩ := hS; go_simp⟩) (by assumption) ?_
                  try simp only [Act.put, List.setIfInBounds_toArray, List.set_cons_zero, List.set_cons_succ]
                  refine wpAnyH_take (i := 5) (v := .slice (some ⟨gf, 0, none⟩) nf cf) rfl (by kernel_rfl) (by kernel_rfl) (by kernel_rfl) (fun _ _ _ h => h) (Or.inl ⟨by kernel_rfl, fun W hS => by obtain ⟨h0, h1, h2⟩ := hS; go_simp⟩) (by assumption) ?_
                  try simp only [Act.put, List.setIfInBounds_toArray, List.set_cons_zero, List.set_cons_succ]
                  refine wpAnyH_take (i := 6) (v := .int .i64 (k : Int)) rfl (by kernel_rfl) (by kernel_rfl) (by kernel_rfl) (fun _ _ _ h => h) (Or.inl ⟨by kernel_rfl, fun W hS => by obtain ⟨h0, h1, h2⟩ := hS; go_simp⟩) (by assumption) ?_
                  try simp only [Act.put, List.setIfInBounds_toArray, List.set_cons_zero, List.set_cons_succ]
                  refine wpAnyH_take (i := 7) (v := .pointer (some ⟨gf, k * 36, none⟩)) rfl (by kernel_rfl) (by kernel_rfl) (by kernel_rfl) (fun _ _ _ h => h) (Or.inl ⟨by kernel_rfl, fun W hS => by obtain ⟨h0, h1, h2⟩ := hS; go_simp⟩) (by assumption) ?_
                  try simp only [Act.put, List.setIfInBounds_toArray, List.set_cons_zero, List.set_cons_succ]
                  refine wpAnyH_take (i := 8) (v := .pointer (some ⟨gf, k * 36, none⟩)) rfl (by kernel_rfl) (by kernel_rfl) (by kernel_rfl) (fun _ _ _ h => h) (Or.inl ⟨by kernel_rfl, fun W hS => by obtain ⟨h0, h1, h2⟩ := hS; go_simp⟩) (by assumption) ?_
                  try simp only [Act.put, List.setIfInBounds_toArray, List.set_cons_zero, List.set_cons_succ]
                  refine wpAnyH_take (i := 9) (oi := ⟨some 188, .load 44 (.tmp 187), _, _, _, _⟩) (v := .agg (entV x.t x.K (.slice A1 n2 e1))) rfl (by kernel_rfl) (by kernel_rfl) (by kernel_rfl) (fun _ _ _ h => h) ?hy9 (by assumption) ?_
                  case hy9 =>
                    refine yieldsIf_load_mid ?hw 44 (.tmp 187) ?ho gf (k * 36) ?hx (entL x.t x.K (.slice A1 n2 e1)) _ (fun W h => h.1) HU.out rfl (by rw [sizeEnt, entL_len0 _ _ _ KX.out])
                    case hw => kernel_rfl
                    case ho => rfl
                    case hx => kernel_rfl
                  try simp only [Act.put, List.setIfInBounds_toArray, List.set_cons_zero, List.set_cons_succ]
                  refine wpAnyH_take (i := 10) (v := .slice (some ⟨ga, 0, none⟩) na ca) rfl (by kernel_rfl) (by kernel_rfl) (by kernel_rfl) (fun _ _ _ h => h) (Or.inl ⟨by kernel_rfl, fun W hS => by obtain ⟨h0, h1, h2⟩ := hS; go_simp⟩) (by assumption) ?_
                  try simp only [Act.put, List.setIfInBounds_toArray, List.set_cons_zero, List.set_cons_succ]
                  refine wpAnyH_take (i := 11) (v := .int .i64 (aw : Int)) rfl (by kernel_rfl) (by kernel_rfl) (by kernel_rfl) (fun _ _ _ h => h) (Or.inl ⟨by kernel_rfl, fun W hS => by obtain ⟨h0, h1, h2⟩ := hS; go_simp⟩) (by assumption) ?_
                  try simp only [Act.put, List.setIfInBounds_toArray, List.set_cons_zero, List.set_cons_succ]
                  refine wpAnyH_take (i := 12) (v := .pointer (some ⟨ga, aw * 34, none⟩)) rfl (by kernel_rfl) (by kernel_rfl) (by kernel_rfl) (fun _ _ _ h => h) (Or.inl ⟨by kernel_rfl, fun W hS => by obtain ⟨h0, h1, h2⟩ := hS; go_simp⟩) (by assumption) ?_
                  try simp only [Act.put, List.setIfInBounds_toArray, List.set_cons_zero, List.set_cons_succ]
                  refine wpAnyH_take (i := 13) (oi := ⟨some 192, .load 44 (.tmp 191), _, _, _, _⟩) (v := .agg (entV x.t x.K (.slice A2 n2 e2))) rfl (by kernel_rfl) (by kernel_rfl) (by kernel_rfl) (fun _ _ _ h => h) ?hy13 (by assumption) ?_
                  case hy13 =>
                    refine yieldsIf_load_mid ?hw 44 (.tmp 191) ?ho ga (aw * 34) ?hx (entL x.t x.K (.slice A2 n2 e2)) _ (fun W h => h.2.1) HU.out rfl (by rw [sizeEnt, entL_len0 _ _ _ KX.out])
                    case hw => kernel_rfl
                    case ho => rfl
                    case hx => kernel_rfl
                  try simp only [Act.put, List.setIfInBounds_toArray, List.set_cons_zero, List.set_cons_succ]
                  refine wpAnyH_ready (rs := [14]) (by kernel_rfl) (by simp) ?_
                  refine AllReadyH.cons (o := ⟨some 193, .call { callee := .value (.func 36), args := #[.tmp 188, .tmp 192], argTypes := #[44, 44] }, _, _, _, _⟩) rfl (fun K' hK' => ?_) AllReadyH.nil
                  have HK' := Lib.hid hK'
                  clear hK'
                  go_simp
                  go_wp2_with (go_at_call 36; refine (SE.out _ SA.out).mono ?_; rintro e w16 ⟨rfl, s16⟩; have S16 := Lib.hid (SA.out.trans s16))
                  refine HK'.out.out _ _ (FF.out _ S16.out) (fun hHeld => ?_)
                  clear HK' K'
                  try simp only [Act.put, List.setIfInBounds_toArray, List.set_cons_zero, List.set_cons_succ]
                  refine wpAnyH_take (i := 15) (v := .bool false) rfl (by kernel_rfl) (by kernel_rfl) (by kernel_rfl) (fun _ _ _ h => h) (Or.inl ⟨by kernel_rfl, fun W hS => by obtain ⟨h0, h1, h2⟩ := hS; go_simp⟩) (by assumption) ?_
                  try simp only [Act.put, List.setIfInBounds_toArray, List.set_cons_zero, List.set_cons_succ]
                  refine wpAnyH_take (i := 16) (v := .bool false) rfl (by kernel_rfl) (by kernel_rfl) (by kernel_rfl) (fun _ _ _ h => h) (Or.inl ⟨by kernel_rfl, fun W hS => by obtain ⟨h0, h1, h2⟩ := hS; go_simp⟩) (by assumption) ?_
                  try simp only [Act.put, List.setIfInBounds_toArray, List.set_cons_zero, List.set_cons_succ]
                  refine wpAnyH_take (i := 17) (v := .bool false) rfl (by kernel_rfl) (by kernel_rfl) (by kernel_rfl) (fun _ _ _ h => h) (Or.inl ⟨by kernel_rfl, fun W hS => by obtain ⟨h0, h1, h2⟩ := hS; go_simp⟩) (by assumption) ?_
                  try simp only [Act.put, List.setIfInBounds_toArray, List.set_cons_zero, List.set_cons_succ]
                  refine wpAnyH_take (i := 18) (v := .slice (some ⟨gf, 0, none⟩) nf cf) rfl (by kernel_rfl) (by kernel_rfl) (by kernel_rfl) (fun _ _ _ h => h) (Or.inl ⟨by kernel_rfl, fun W hS => by obtain ⟨h0, h1, h2⟩ := hS; go_simp⟩) (by assumption) ?_
                  try simp only [Act.put, List.setIfInBounds_toArray, List.set_cons_zero, List.set_cons_succ]
                  refine wpAnyH_take (i := 19) (v := .int .i64 (k : Int)) rfl (by kernel_rfl) (by kernel_rfl) (by kernel_rfl) (fun _ _ _ h => h) (Or.inl ⟨by kernel_rfl, fun W hS => by obtain ⟨h0, h1, h2⟩ := hS; go_simp⟩) (by assumption) ?_
                  try simp only [Act.put, List.setIfInBounds_toArray, List.set_cons_zero, List.set_cons_succ]
                  refine wpAnyH_take (i := 20) (v := .pointer (some ⟨gf, k * 36, none⟩)) rfl (by kernel_rfl) (by kernel_rfl) (by kernel_rfl) (fun _ _ _ h => h) (Or.inl ⟨by kernel_rfl, fun W hS => by obtain ⟨h0, h1, h2⟩ := hS; go_simp⟩) (by assumption) ?_
                  try simp only [Act.put, List.setIfInBounds_toArray, List.set_cons_zero, List.set_cons_succ]
                  refine wpAnyH_take (i := 21) (v := .pointer (some ⟨gf, k * 36, none⟩)) rfl (by kernel_rfl) (by kernel_rfl) (by kernel_rfl) (fun _ _ _ h => h) (Or.inl ⟨by kernel_rfl, fun W hS => by obtain ⟨h0, h1, h2⟩ := hS; go_simp⟩) (by assumption) ?_
                  try simp only [Act.put, List.setIfInBounds_toArray, List.set_cons_zero, List.set_cons_succ]
                  refine wpAnyH_take (i := 22) (v := .pointer (some ⟨gf, k * 36, none⟩)) rfl (by kernel_rfl) (by kernel_rfl) (by kernel_rfl) (fun _ _ _ h => h) (Or.inl ⟨by kernel_rfl, fun W hS => by obtain ⟨h0, h1, h2⟩ := hS; go_simp⟩) (by assumption) ?_
                  try simp only [Act.put, List.setIfInBounds_toArray, List.set_cons_zero, List.set_cons_succ]
                  refine wpAnyH_take (i := 23) (v := .int .i64 x.t) rfl (by kernel_rfl) (by kernel_rfl) (by kernel_rfl) (fun _ _ _ h => h) (Or.inl ⟨by kernel_rfl, fun W hS => by obtain ⟨h0, h1, h2⟩ := hS; go_simp⟩) (by assumption) ?_
                  try simp only [Act.put, List.setIfInBounds_toArray, List.set_cons_zero, List.set_cons_succ]
                  refine wpAnyH_take (i := 24) (v := .bool false) rfl (by kernel_rfl) (by kernel_rfl) (by kernel_rfl) (fun _ _ _ h => h) (Or.inl ⟨by kernel_rfl, fun W hS => by obtain ⟨h0, h1, h2⟩ := hS; go_simp⟩) (by assumption) ?_
                  try simp only [Act.put, List.setIfInBounds_toArray, List.set_cons_zero, List.set_cons_succ]
                  refine wpAnyH_take (i := 25) (v := .bool false) rfl (by kernel_rfl) (by kernel_rfl) (by kernel_rfl) (fun _ _ _ h => h) (Or.inl ⟨by kernel_rfl, fun W hS => by obtain ⟨h0, h1, h2⟩ := hS; go_simp⟩) (by assumption) ?_
                  try simp only [Act.put, List.setIfInBounds_toArray, List.set_cons_zero, List.set_cons_succ]
                  refine wpAnyH_take (i := 26) (v := undef) rfl (by kernel_rfl) (by kernel_rfl) (by kernel_rfl) (fun _ _ _ h => h) (Or.inr ⟨by kernel_rfl, rfl⟩) (by assumption) ?_
                  try simp only [Act.put, List.setIfInBounds_toArray, List.set_cons_zero, List.set_cons_succ]
                  refine wpAnyH_take (i := 27) (v := undef) rfl (by kernel_rfl) (by kernel_rfl) (by kernel_rfl) (fun _ _ _ h => h) (Or.inr ⟨by kernel_rfl, rfl⟩) (by assumption) ?_
                  try simp only [Act.put, List.setIfInBounds_toArray, List.set_cons_zero, List.set_cons_succ]
                  refine wpAnyH_take (i := 28) (v := undef) rfl (by kernel_rfl) (by kernel_rfl) (by kernel_rfl) (fun _ _ _ h => h) (Or.inr ⟨by kernel_rfl, rfl⟩) (by assumption) ?_
                  try simp only [Act.put, List.setIfInBounds_toArray, List.set_cons_zero, List.set_cons_succ]
                  refine wpAnyH_take (i := 29) (v := undef) rfl (by kernel_rfl) (by kernel_rfl) (by kernel_rfl) (fun _ _ _ h => h) (Or.inr ⟨by kernel_rfl, rfl⟩) (by assumption) ?_
                  try simp only [Act.put, List.setIfInBounds_toArray, List.set_cons_zero, List.set_cons_succ]
                  refine wpAnyH_take (i := 30) (v := undef) rfl (by kernel_rfl) (by kernel_rfl) (by kernel_rfl) (fun _ _ _ h => h) (Or.inr ⟨by kernel_rfl, rfl⟩) (by assumption) ?_
                  try simp only [Act.put, List.setIfInBounds_toArray, List.set_cons_zero, List.set_cons_succ]
                  refine wpAnyH_take (i := 31) (v := .bool false) rfl (by kernel_rfl) (by kernel_rfl) (by kernel_rfl) (fun _ _ _ h => h) (Or.inl ⟨by kernel_rfl, fun W hS => by obtain ⟨h0, h1, h2⟩ := hS; go_simp⟩) (by assumption) ?_
                  try simp only [Act.put, List.setIfInBounds_toArray, List.set_cons_zero, List.set_cons_succ]
                  refine wpAnyH_take (i := 32) (v := .bool false) rfl (by kernel_rfl) (by kernel_rfl) (by kernel_rfl) (fun _ _ _ h => h) (Or.inl ⟨by kernel_rfl, fun W hS => by obtain ⟨h0, h1, h2⟩ := hS; go_simp⟩) (by assumption) ?_
                  try simp only [Act.put, List.setIfInBounds_toArray, List.set_cons_zero, List.set_cons_succ]
                  refine wpAnyH_take (i := 33) (v := undef) rfl (by kernel_rfl) (by kernel_rfl) (by kernel_rfl) (fun _ _ _ h => h) (Or.inr ⟨by kernel_rfl, rfl⟩) (by assumption) ?_
                  try simp only [Act.put, List.setIfInBounds_toArray, List.set_cons_zero, List.set_cons_succ]
                  refine wpAnyH_take (i := 34) (v := undef) rfl (by kernel_rfl) (by kernel_rfl) (by kernel_rfl) (fun _ _ _ h => h) (Or.inr ⟨by kernel_rfl, rfl⟩) (by assumption) ?_
                  try simp only [Act.put, List.setIfInBounds_toArray, List.set_cons_zero, List.set_cons_succ]
                  refine wpAnyH_take (i := 35) (v := .bool false) rfl (by kernel_rfl) (by kernel_rfl) (by kernel_rfl) (fun _ _ _ h => h) (Or.inl ⟨by kernel_rfl, fun W hS => by obtain ⟨h0, h1, h2⟩ := hS; go_simp⟩) (by assumption) ?_
                  try simp only [Act.put, List.setIfInBounds_toArray, List.set_cons_zero, List.set_cons_succ]
                  refine wpAnyH_take (i := 36) (v := .bool false) rfl (by kernel_rfl) (by kernel_rfl) (by kernel_rfl) (fun _ _ _ h => h) (Or.inl ⟨by kernel_rfl, fun W hS => by obtain ⟨h0, h1, h2⟩ := hS; go_simp⟩) (by assumption) ?_
                  try simp only [Act.put, List.setIfInBounds_toArray, List.set_cons_zero, List.set_cons_succ]
                  refine wpAnyH_done (by kernel_rfl) ?_ _
                  have SN := Lib.hid (Still.trans SI.out S16.out)
                  clear FF SE SA S16 hHeld
                  go_simp
                  go_wp2_with fail
                  go_roundw
                  case rel => exact ⟨k + 1, aw + 1, by go_num, by omega, by go_num, Lib.hid (by have := HAW.out; omega), SN⟩
                  case measure => simp [intOf]; omega
              · obtain rfl : nf = k := by omega
                have NXT := Lib.hid (show aw = ((Z.take (i' + 1)).flatMap (·.2)).length from by rw [flat_take ZZ.out.1, ← HTT.out, ← ZZ.out.2.2.1]; exact HAW.out)
                have SLN := Lib.hid (show ∃ own lo, LM wr w4'.heap.size g gl own lo M S ∧ Still w4' wr ∧ wr.ownsRow w4'.heap.size 44 34 (.slice Aa na ca) na ys ∧ wr.ownsRow w4'.heap.size 3 1 (.slice (some ⟨bs, 0, none⟩) q cs) q (nums.map (Value.int .i64)) ∧ (∀ b, (Value.slice Aa na ca).ownBlock = some b → own b = none ∧ lo b = none) ∧ (∀ b, (Value.slice (some ⟨bs, 0, none⟩) q cs).ownBlock = some b → own b = none ∧ lo b = none) from by
                  obtain ⟨own15, lo15, lm15, st15, rowa15, rows15, apa15, aps15, _, _⟩ := W15.out
                  exact ⟨own15, lo15, lm15.still SI.out, Still.trans st15 SI.out, still_own rowa15 SI.out, still_own rows15 SI.out, apa15, aps15⟩)
                clear W15
                go_wp2_with fail
                go_roundw
                case rel => exact ⟨i' + 1, aw, rfl, by omega, by go_num, NXT.out, SLN⟩
                case measure => simp [intOf]; omega
          · have bg : ¬ (lb : Int) > lim := by omega
            go_wp2_with fail
            refine SZ2.out.mono ?_
            rintro e w15 ⟨rfl, l15⟩
            have W15 := Lib.hid (show ∃ own lo, LM w15 w4'.heap.size g gl own lo M S ∧ Still w4' w15 ∧ w15.ownsRow w4'.heap.size 44 34 (.slice Aa na ca) na ys ∧ w15.ownsRow w4'.heap.size 3 1 (.slice (some ⟨bs, 0, none⟩) q cs) q (nums.map (Value.int .i64)) ∧ (∀ b, (Value.slice Aa na ca).ownBlock = some b → own b = none ∧ lo b = none) ∧ (∀ b, (Value.slice (some ⟨bs, 0, none⟩) q cs).ownBlock = some b → own b = none ∧ lo b = none) ∧ w15.ownsRow w13.heap.size 83 36 (.slice (some ⟨gf, 0, none⟩) nf cf) nf xf ∧ HasF w15 w13.heap.size (fosF 8 z.2) xf from by
              obtain ⟨lm, st, rowa, rows⟩ := W14.out
              obtain ⟨apa, aps⟩ := AP.out
              have low := LLeft.low lm l15 st (Nat.le_refl _)
              obtain ⟨c, own', lo', ho, lm'⟩ := l15
              have ck : ∀ b, own b = none ∧ lo b = none → ¬ (own b ≠ none ∨ lo b ≠ none) := fun b h hh => by
                rcases hh with hh | hh
                · exact hh h.1
                · exact hh h.2
              refine ⟨own', lo', lm', low, c.own rowa (fun b hb => ck b (apa b hb)), c.own rows (fun b hb => ck b (aps b hb)), fun b hb => ?_, fun b hb => ?_, c.own OF.out (fun b hb => ck b (GA.out b (own_block_ge OF.out b hb))), HasF.keep (fun v n l h => c.own h (fun b hb => ck b (GA.out b (own_block_ge h b hb)))) _ _ HFF.out⟩
              · rw [(ho b (own_block_lt rowa b hb)).1, (ho b (own_block_lt rowa b hb)).2]
                exact apa b hb
              · rw [(ho b (own_block_lt rows b hb)).1, (ho b (own_block_lt rows b hb)).2]
                exact aps b hb)
            clear l15 W14 AP GA OF HFF SZ2 bg
            go_wp2_with fail
            go_loopw [17, 25] (fun av kv wr2 => ∃ (k aw : Nat), av = .int .i64 aw ∧ k ≤ nf ∧ kv = .int .i64 k ∧ Hid (aw = tt + k) ∧ Hid (Still w15 wr2)) (fun _ kv _ => nf - (intOf kv).toNat)
            case atStart => exact ⟨0, tt, rfl, Nat.zero_le _, rfl, Lib.hid rfl, Lib.hid (Still.refl _)⟩
            case round =>
              obtain ⟨k, aw, rfl, hk, rfl, HAW, SI⟩ := hrel
              by_cases hkn : k < nf
              · obtain ⟨x, hx⟩ : ∃ x, z.2[k]? = some x := ⟨_, List.getElem?_eq_getElem (by rw [← ZZ.out.2.2.1]; exact hkn)⟩
                have hG : G[aw]? = some x := by rw [← HS.out.fl, HAW.out, HTT.out]; exact flat_at ZZ.out.1 hx
                have han : aw < na := by rw [HNA.out]; exact (List.getElem?_eq_some_iff.1 hG).1
                obtain ⟨own15, lo15, lm15, st15, rowa15, rows15, apa15, aps15, of15, hf15⟩ := W15.out
                obtain ⟨ga, rfl⟩ : ∃ b, Aa = some ⟨b, 0, none⟩ := by
                  rcases rowa15.2 with ⟨_, h⟩ | ⟨b, cap, cur, h, _⟩
                  · omega
                  · injection h with q1
                    exact ⟨b, q1⟩
                obtain ⟨A1, n1, e1, k1, k2, k3, k4⟩ := atF of15 hf15 (fosF_at z.2 8 k x hx) hkn
                obtain ⟨A2, n2, e2, hK2, rng2, red2, hn2⟩ := HS.out.has.at_ rowa15 hG han
                simp only at k1 k2 k3 k4
                obtain rfl : n2 = n1 := by rw [k3]; exact red2.1.symm
                have KX := Lib.hid k1
                have FF := Lib.hid (fun W (s : Still wr W) => show W.rangeAt gf (k * 36) (entL x.t x.K (.slice A1 n2 e1)) ∧ W.rangeAt ga (aw * 34) (entL x.t x.K (.slice A2 n2 e2)) ∧ W.cell? ⟨gf, k * 36, none⟩ = some (.int .i64 x.t) from ⟨rangeAt_still k4.ent (Still.trans SI.out s), rangeAt_still rng2 (Still.trans SI.out s), by have h := (rangeAt_still k4.ent (Still.trans SI.out s)) 0 (.int .i64 x.t) rfl; exact h⟩)
                have SE := Lib.hid (fun W (s : Still wr W) => sameE_yes x.t x.K x.D A1 A2 n2 e1 e2 W _ _ KX.out ((Reads.of_own k2).still (Nat.le_refl _) (Still.trans SI.out s)) (red2.still (Nat.le_refl _) (Still.trans st15 (Still.trans SI.out s))) (Still.trans SI.out s).size (Still.trans st15 (Still.trans SI.out s)).size (by omega))
                have CB := Lib.hid (fun (hb : Bad14 X) W (s : Still wr W) => committed_bad X xs Ao i co _ _ W _ (still_own O4.out (Still.trans st15 (Still.trans SI.out s))) HD4.out XN.out (by omega) hb)
                have CM := Lib.hid (fun (ht : x.t = 2) (hl : k + 1 < nf) => show Bad14 X from by
                  rcases HS.out.az.cm z ZZ.out.2.1 k x hx ht with h | ⟨j, y, a, _, b⟩
                  · exfalso
                    have := ZZ.out.2.2.1
                    omega
                  · exact ⟨j, y, a, b⟩)
                have WN := Lib.hid (show IntKind.i64.wrap ((nf : Int) - 1) = (nf : Int) - 1 by rw [IntKind.wrap_i64]; omega)
                have dA : ¬ (na : Int) ≤ (aw : Int) := by omega
                have dA2 : (aw : Int) < (na : Int) := by omega
                have dK : (k : Int) < (nf : Int) := by omega
                clear hx hG lm15 st15 rowa15 rows15 apa15 aps15 of15 hf15 k1 k2 k3 k4 hK2 rng2 red2 hn2
                by_cases ht : x.t = 2
                · have bt : (x.t == 2) = true := by simpa using ht
                  by_cases hkl : k + 1 < nf
                  · have dL : (k : Int) < (nf : Int) - 1 := by omega
                    replace CB := Lib.hid (CB.out (CM.out ht hkl))
                    clear CM ht
                    go_upto_region 34 with fail
                    refine wp_region_held_drew (S := fun W => W.rangeAt gf (k * 36) (entL x.t x.K (.slice A1 n2 e1)) ∧ W.rangeAt ga (aw * 34) (entL x.t x.K (.slice A2 n2 e2)) ∧ W.cell? ⟨gf, k * 36, none⟩ = some (.int .i64 x.t)) (by kernel_rfl) (FF.out _ ((Still.refl _).drew)) (fun hHeld => ?_)
                    obtain ⟨wa, hwa⟩ : ∃ wa, wa = wr.drew := ⟨_, rfl⟩
                    have SA := Lib.hid (show Still wr wa by rw [hwa]; exact (Still.refl _).drew)
                    try rw [← hwa] at hHeld
                    rw [← hwa]
                    clear hwa
                    try simp only [Act.put, List.setIfInBounds_toArray, List.set_cons_zero, List.set_cons_succ]
                    refine wpAnyH_take (i := 0) (v := .int .i64 (aw : Int)) rfl (by kernel_rfl) (by kernel_rfl) (by kernel_rfl) (fun _ _ _ h => h) (Or.inl ⟨by kernel_rfl, fun W hS => by obtain ⟨h0, h1, h2⟩ := hS; go_simp⟩) (by assumption) ?_
                    try simp only [Act.put, List.setIfInBounds_toArray, List.set_cons_zero, List.set_cons_succ]
                    refine wpAnyH_take (i := 1) (v := .slice (some ⟨ga, 0, none⟩) na ca) rfl (by kernel_rfl) (by kernel_rfl) (by kernel_rfl) (fun _ _ _ h => h) (Or.inl ⟨by kernel_rfl, fun W hS => by obtain ⟨h0, h1, h2⟩ := hS; go_simp⟩) (by assumption) ?_
                    try simp only [Act.put, List.setIfInBounds_toArray, List.set_cons_zero, List.set_cons_succ]
                    refine wpAnyH_take (i := 2) (v := .int .i64 (na : Int)) rfl (by kernel_rfl) (by kernel_rfl) (by kernel_rfl) (fun _ _ _ h => h) (Or.inl ⟨by kernel_rfl, fun W hS => by obtain ⟨h0, h1, h2⟩ := hS; go_simp⟩) (by assumption) ?_
                    try simp only [Act.put, List.setIfInBounds_toArray, List.set_cons_zero, List.set_cons_succ]
                    refine wpAnyH_take (i := 3) (v := .bool false) rfl (by kernel_rfl) (by kernel_rfl) (by kernel_rfl) (fun _ _ _ h => h) (Or.inl ⟨by kernel_rfl, fun W hS => by obtain ⟨h0, h1, h2⟩ := hS; go_simp⟩) (by assumption) ?_
                    try simp only [Act.put, List.setIfInBounds_toArray, List.set_cons_zero, List.set_cons_succ]
                    refine wpAnyH_take (i := 4) (v := .bool false) rfl (by kernel_rfl) (by kernel_rfl) (by kernel_rfl) (fun _ _ _ h => h) (Or.inl ⟨by kernel_rfl, fun W hS => by obtain ⟨h0, h1, h2⟩ := hS; go_simp⟩) (by assumption) ?_
                    try simp only [Act.put, List.setIfInBounds_toArray, List.set_cons_zero, List.set_cons_succ]
                    refine wpAnyH_take (i := 5) (v := .slice (some ⟨gf, 0, none⟩) nf cf) rfl (by kernel_rfl) (by kernel_rfl) (by kernel_rfl) (fun _ _ _ h => h) (Or.inl ⟨by kernel_rfl, fun W hS => by obtain ⟨h0, h1, h2⟩ := hS; go_simp⟩) (by assumption) ?_
                    try simp only [Act.put, List.setIfInBounds_toArray, List.set_cons_zero, List.set_cons_succ]
                    refine wpAnyH_take (i := 6) (v := .int .i64 (k : Int)) rfl (by kernel_rfl) (by kernel_rfl) (by kernel_rfl) (fun _ _ _ h => h) (Or.inl ⟨by kernel_rfl, fun W hS => by obtain ⟨h0, h1, h2⟩ := hS; go_simp⟩) (by assumption) ?_
                    try simp only [Act.put, List.setIfInBounds_toArray, List.set_cons_zero, List.set_cons_succ]
                    refine wpAnyH_take (i := 7) (v := .pointer (some ⟨gf, k * 36, none⟩)) rfl (by kernel_rfl) (by kernel_rfl) (by kernel_rfl) (fun _ _ _ h => h) (Or.inl ⟨by kernel_rfl, fun W hS => by obtain ⟨h0, h1, h2⟩ := hS; go_simp⟩) (by assumption) ?_
                    try simp only [Act.put, List.setIfInBounds_toArray, List.set_cons_zero, List.set_cons_succ]
                    refine wpAnyH_take (i := 8) (v := .pointer (some ⟨gf, k * 36, none⟩)) rfl (by kernel_rfl) (by kernel_rfl) (by kernel_rfl) (fun _ _ _ h => h) (Or.inl ⟨by kernel_rfl, fun W hS => by obtain ⟨h0, h1, h2⟩ := hS; go_simp⟩) (by assumption) ?_
                    try simp only [Act.put, List.setIfInBounds_toArray, List.set_cons_zero, List.set_cons_succ]
                    refine wpAnyH_take (i := 9) (oi := ⟨some 188, .load 44 (.tmp 187), _, _, _, _⟩) (v := .agg (entV x.t x.K (.slice A1 n2 e1))) rfl (by kernel_rfl) (by kernel_rfl) (by kernel_rfl) (fun _ _ _ h => h) ?hy9 (by assumption) ?_
                    case hy9 =>
                      refine yieldsIf_load_mid ?hw 44 (.tmp 187) ?ho gf (k * 36) ?hx (entL x.t x.K (.slice A1 n2 e1)) _ (fun W h => h.1) HU.out rfl (by rw [sizeEnt, entL_len0 _ _ _ KX.out])
                      case hw => kernel_rfl
                      case ho => rfl
                      case hx => kernel_rfl
                    try simp only [Act.put, List.setIfInBounds_toArray, List.set_cons_zero, List.set_cons_succ]
                    refine wpAnyH_take (i := 10) (v := .slice (some ⟨ga, 0, none⟩) na ca) rfl (by kernel_rfl) (by kernel_rfl) (by kernel_rfl) (fun _ _ _ h => h) (Or.inl ⟨by kernel_rfl, fun W hS => by obtain ⟨h0, h1, h2⟩ := hS; go_simp⟩) (by assumption) ?_
                    try simp only [Act.put, List.setIfInBounds_toArray, List.set_cons_zero, List.set_cons_succ]
                    refine wpAnyH_take (i := 11) (v := .int .i64 (aw : Int)) rfl (by kernel_rfl) (by kernel_rfl) (by kernel_rfl) (fun _ _ _ h => h) (Or.inl ⟨by kernel_rfl, fun W hS => by obtain ⟨h0, h1, h2⟩ := hS; go_simp⟩) (by assumption) ?_
                    try simp only [Act.put, List.setIfInBounds_toArray, List.set_cons_zero, List.set_cons_succ]
                    refine wpAnyH_take (i := 12) (v := .pointer (some ⟨ga, aw * 34, none⟩)) rfl (by kernel_rfl) (by kernel_rfl) (by kernel_rfl) (fun _ _ _ h => h) (Or.inl ⟨by kernel_rfl, fun W hS => by obtain ⟨h0, h1, h2⟩ := hS; go_simp⟩) (by assumption) ?_
                    try simp only [Act.put, List.setIfInBounds_toArray, List.set_cons_zero, List.set_cons_succ]
                    refine wpAnyH_take (i := 13) (oi := ⟨some 192, .load 44 (.tmp 191), _, _, _, _⟩) (v := .agg (entV x.t x.K (.slice A2 n2 e2))) rfl (by kernel_rfl) (by kernel_rfl) (by kernel_rfl) (fun _ _ _ h => h) ?hy13 (by assumption) ?_
                    case hy13 =>
                      refine yieldsIf_load_mid ?hw 44 (.tmp 191) ?ho ga (aw * 34) ?hx (entL x.t x.K (.slice A2 n2 e2)) _ (fun W h => h.2.1) HU.out rfl (by rw [sizeEnt, entL_len0 _ _ _ KX.out])
                      case hw => kernel_rfl
                      case ho => rfl
                      case hx => kernel_rfl
                    try simp only [Act.put, List.setIfInBounds_toArray, List.set_cons_zero, List.set_cons_succ]
                    refine wpAnyH_ready (rs := [14]) (by kernel_rfl) (by simp) ?_
                    refine AllReadyH.cons (o := ⟨some 193, .call { callee := .value (.func 36), args := #[.tmp 188, .tmp 192], argTypes := #[44, 44] }, _, _, _, _⟩) rfl (fun K' hK' => ?_) AllReadyH.nil
                    have HK' := Lib.hid hK'
                    clear hK'
                    go_simp
                    go_wp2_with (go_at_call 36; refine (SE.out _ SA.out).mono ?_; rintro e w16 ⟨rfl, s16⟩; have S16 := Lib.hid (SA.out.trans s16))
                    refine HK'.out.out _ _ (FF.out _ S16.out) (fun hHeld => ?_)
                    clear HK' K'
                    try simp only [Act.put, List.setIfInBounds_toArray, List.set_cons_zero, List.set_cons_succ]
                    refine wpAnyH_take (i := 15) (v := .bool false) rfl (by kernel_rfl) (by kernel_rfl) (by kernel_rfl) (fun _ _ _ h => h) (Or.inl ⟨by kernel_rfl, fun W hS => by obtain ⟨h0, h1, h2⟩ := hS; go_simp⟩) (by assumption) ?_
                    try simp only [Act.put, List.setIfInBounds_toArray, List.set_cons_zero, List.set_cons_succ]
                    refine wpAnyH_take (i := 16) (v := .bool false) rfl (by kernel_rfl) (by kernel_rfl) (by kernel_rfl) (fun _ _ _ h => h) (Or.inl ⟨by kernel_rfl, fun W hS => by obtain ⟨h0, h1, h2⟩ := hS; go_simp⟩) (by assumption) ?_
                    try simp only [Act.put, List.setIfInBounds_toArray, List.set_cons_zero, List.set_cons_succ]
                    refine wpAnyH_take (i := 17) (v := .bool false) rfl (by kernel_rfl) (by kernel_rfl) (by kernel_rfl) (fun _ _ _ h => h) (Or.inl ⟨by kernel_rfl, fun W hS => by obtain ⟨h0, h1, h2⟩ := hS; go_simp⟩) (by assumption) ?_
                    try simp only [Act.put, List.setIfInBounds_toArray, List.set_cons_zero, List.set_cons_succ]
                    refine wpAnyH_take (i := 18) (v := .slice (some ⟨gf, 0, none⟩) nf cf) rfl (by kernel_rfl) (by kernel_rfl) (by kernel_rfl) (fun _ _ _ h => h) (Or.inl ⟨by kernel_rfl, fun W hS => by obtain ⟨h0, h1, h2⟩ := hS; go_simp⟩) (by assumption) ?_
                    try simp only [Act.put, List.setIfInBounds_toArray, List.set_cons_zero, List.set_cons_succ]
                    refine wpAnyH_take (i := 19) (v := .int .i64 (k : Int)) rfl (by kernel_rfl) (by kernel_rfl) (by kernel_rfl) (fun _ _ _ h => h) (Or.inl ⟨by kernel_rfl, fun W hS => by obtain ⟨h0, h1, h2⟩ := hS; go_simp⟩) (by assumption) ?_
                    try simp only [Act.put, List.setIfInBounds_toArray, List.set_cons_zero, List.set_cons_succ]
                    refine wpAnyH_take (i := 20) (v := .pointer (some ⟨gf, k * 36, none⟩)) rfl (by kernel_rfl) (by kernel_rfl) (by kernel_rfl) (fun _ _ _ h => h) (Or.inl ⟨by kernel_rfl, fun W hS => by obtain ⟨h0, h1, h2⟩ := hS; go_simp⟩) (by assumption) ?_
                    try simp only [Act.put, List.setIfInBounds_toArray, List.set_cons_zero, List.set_cons_succ]
                    refine wpAnyH_take (i := 21) (v := .pointer (some ⟨gf, k * 36, none⟩)) rfl (by kernel_rfl) (by kernel_rfl) (by kernel_rfl) (fun _ _ _ h => h) (Or.inl ⟨by kernel_rfl, fun W hS => by obtain ⟨h0, h1, h2⟩ := hS; go_simp⟩) (by assumption) ?_
                    try simp only [Act.put, List.setIfInBounds_toArray, List.set_cons_zero, List.set_cons_succ]
                    refine wpAnyH_take (i := 22) (v := .pointer (some ⟨gf, k * 36, none⟩)) rfl (by kernel_rfl) (by kernel_rfl) (by kernel_rfl) (fun _ _ _ h => h) (Or.inl ⟨by kernel_rfl, fun W hS => by obtain ⟨h0, h1, h2⟩ := hS; go_simp⟩) (by assumption) ?_
                    try simp only [Act.put, List.setIfInBounds_toArray, List.set_cons_zero, List.set_cons_succ]
                    refine wpAnyH_take (i := 23) (v := .int .i64 x.t) rfl (by kernel_rfl) (by kernel_rfl) (by kernel_rfl) (fun _ _ _ h => h) (Or.inl ⟨by kernel_rfl, fun W hS => by obtain ⟨h0, h1, h2⟩ := hS; go_simp⟩) (by assumption) ?_
                    try simp only [Act.put, List.setIfInBounds_toArray, List.set_cons_zero, List.set_cons_succ]
                    refine wpAnyH_take (i := 24) (v := .bool true) rfl (by kernel_rfl) (by kernel_rfl) (by kernel_rfl) (fun _ _ _ h => h) (Or.inl ⟨by kernel_rfl, fun W hS => by obtain ⟨h0, h1, h2⟩ := hS; go_simp⟩) (by assumption) ?_
                    try simp only [Act.put, List.setIfInBounds_toArray, List.set_cons_zero, List.set_cons_succ]
                    refine wpAnyH_take (i := 25) (v := .bool true) rfl (by kernel_rfl) (by kernel_rfl) (by kernel_rfl) (fun _ _ _ h => h) (Or.inl ⟨by kernel_rfl, fun W hS => by obtain ⟨h0, h1, h2⟩ := hS; go_simp⟩) (by assumption) ?_
                    try simp only [Act.put, List.setIfInBounds_toArray, List.set_cons_zero, List.set_cons_succ]
                    refine wpAnyH_take (i := 26) (v := .int .i64 (k : Int)) rfl (by kernel_rfl) (by kernel_rfl) (by kernel_rfl) (fun _ _ _ h => h) (Or.inl ⟨by kernel_rfl, fun W hS => by obtain ⟨h0, h1, h2⟩ := hS; go_simp⟩) (by assumption) ?_
                    try simp only [Act.put, List.setIfInBounds_toArray, List.set_cons_zero, List.set_cons_succ]
                    refine wpAnyH_take (i := 27) (v := .slice (some ⟨gf, 0, none⟩) nf cf) rfl (by kernel_rfl) (by kernel_rfl) (by kernel_rfl) (fun _ _ _ h => h) (Or.inl ⟨by kernel_rfl, fun W hS => by obtain ⟨h0, h1, h2⟩ := hS; go_simp⟩) (by assumption) ?_
                    try simp only [Act.put, List.setIfInBounds_toArray, List.set_cons_zero, List.set_cons_succ]
                    refine wpAnyH_take (i := 28) (v := .int .i64 (nf : Int)) rfl (by kernel_rfl) (by kernel_rfl) (by kernel_rfl) (fun _ _ _ h => h) (Or.inl ⟨by kernel_rfl, fun W hS => by obtain ⟨h0, h1, h2⟩ := hS; go_simp⟩) (by assumption) ?_
                    try simp only [Act.put, List.setIfInBounds_toArray, List.set_cons_zero, List.set_cons_succ]
                    refine wpAnyH_take (i := 29) (v := .int .i64 ((nf : Int) - 1)) rfl (by kernel_rfl) (by kernel_rfl) (by kernel_rfl) (fun _ _ _ h => h) (Or.inl ⟨by kernel_rfl, fun W hS => by obtain ⟨h0, h1, h2⟩ := hS; go_simp; exact WN.out⟩) (by assumption) ?_
                    try simp only [Act.put, List.setIfInBounds_toArray, List.set_cons_zero, List.set_cons_succ]
                    refine wpAnyH_take (i := 30) (v := .bool true) rfl (by kernel_rfl) (by kernel_rfl) (by kernel_rfl) (fun _ _ _ h => h) (Or.inl ⟨by kernel_rfl, fun W hS => by obtain ⟨h0, h1, h2⟩ := hS; go_simp⟩) (by assumption) ?_
                    try simp only [Act.put, List.setIfInBounds_toArray, List.set_cons_zero, List.set_cons_succ]
                    refine wpAnyH_take (i := 31) (v := .bool true) rfl (by kernel_rfl) (by kernel_rfl) (by kernel_rfl) (fun _ _ _ h => h) (Or.inl ⟨by kernel_rfl, fun W hS => by obtain ⟨h0, h1, h2⟩ := hS; go_simp⟩) (by assumption) ?_
                    try simp only [Act.put, List.setIfInBounds_toArray, List.set_cons_zero, List.set_cons_succ]
                    refine wpAnyH_take (i := 32) (v := .bool true) rfl (by kernel_rfl) (by kernel_rfl) (by kernel_rfl) (fun _ _ _ h => h) (Or.inl ⟨by kernel_rfl, fun W hS => by obtain ⟨h0, h1, h2⟩ := hS; go_simp⟩) (by assumption) ?_
                    try simp only [Act.put, List.setIfInBounds_toArray, List.set_cons_zero, List.set_cons_succ]
                    refine wpAnyH_take (i := 33) (v := .slice Ao i co) rfl (by kernel_rfl) (by kernel_rfl) (by kernel_rfl) (fun _ _ _ h => h) (Or.inl ⟨by kernel_rfl, fun W hS => by obtain ⟨h0, h1, h2⟩ := hS; go_simp⟩) (by assumption) ?_
                    try simp only [Act.put, List.setIfInBounds_toArray, List.set_cons_zero, List.set_cons_succ]
                    refine wpAnyH_ready (rs := [34]) (by kernel_rfl) (by simp) ?_
                    refine AllReadyH.cons (o := ⟨some 213, .call { callee := .value (.func 44), args := #[.tmp 212], argTypes := #[22] }, _, _, _, _⟩) rfl (fun K' hK' => ?_) AllReadyH.nil
                    have HK' := Lib.hid hK'
                    clear hK'
                    go_simp
                    go_wp2_with (go_at_call 44; refine (CB.out _ S16.out).mono ?_; rintro e w17 ⟨rfl, s17⟩; have S17 := Lib.hid (Still.trans S16.out s17))
                    refine HK'.out.out _ _ (FF.out _ S17.out) (fun hHeld => ?_)
                    clear HK' K'
                    try simp only [Act.put, List.setIfInBounds_toArray, List.set_cons_zero, List.set_cons_succ]
                    refine wpAnyH_take (i := 35) (v := .bool false) rfl (by kernel_rfl) (by kernel_rfl) (by kernel_rfl) (fun _ _ _ h => h) (Or.inl ⟨by kernel_rfl, fun W hS => by obtain ⟨h0, h1, h2⟩ := hS; go_simp⟩) (by assumption) ?_
                    try simp only [Act.put, List.setIfInBounds_toArray, List.set_cons_zero, List.set_cons_succ]
                    refine wpAnyH_take (i := 36) (v := .bool false) rfl (by kernel_rfl) (by kernel_rfl) (by kernel_rfl) (fun _ _ _ h => h) (Or.inl ⟨by kernel_rfl, fun W hS => by obtain ⟨h0, h1, h2⟩ := hS; go_simp⟩) (by assumption) ?_
                    try simp only [Act.put, List.setIfInBounds_toArray, List.set_cons_zero, List.set_cons_succ]
                    refine wpAnyH_done (by kernel_rfl) ?_ _
                    have SN := Lib.hid (Still.trans SI.out S17.out)
                    clear FF SE SA S16 hHeld CB S17
                    go_simp
                    go_wp2_with fail
                    go_roundw
                    case rel => exact ⟨k + 1, aw + 1, by go_num, by omega, by go_num, Lib.hid (by have := HAW.out; omega), SN⟩
                    case measure => simp [intOf]; omega
                  · have dL : ¬ (k : Int) < (nf : Int) - 1 := by omega
                    clear CB CM ht
                    go_upto_region 34 with fail
                    refine wp_region_held_drew (S := fun W => W.rangeAt gf (k * 36) (entL x.t x.K (.slice A1 n2 e1)) ∧ W.rangeAt ga (aw * 34) (entL x.t x.K (.slice A2 n2 e2)) ∧ W.cell? ⟨gf, k * 36, none⟩ = some (.int .i64 x.t)) (by kernel_rfl) (FF.out _ ((Still.refl _).drew)) (fun hHeld => ?_)
                    obtain ⟨wa, hwa⟩ : ∃ wa, wa = wr.drew := ⟨_, rfl⟩
                    have SA := Lib.hid (show Still wr wa by rw [hwa]; exact (Still.refl _).drew)
                    try rw [← hwa] at hHeld
                    rw [← hwa]
                    clear hwa
                    try simp only [Act.put, List.setIfInBounds_toArray, List.set_cons_zero, List.set_cons_succ]
                    refine wpAnyH_take (i := 0) (v := .int .i64 (aw : Int)) rfl (by kernel_rfl) (by kernel_rfl) (by kernel_rfl) (fun _ _ _ h => h) (Or.inl ⟨by kernel_rfl, fun W hS => by obtain ⟨h0, h1, h2⟩ := hS; go_simp⟩) (by assumption) ?_
                    try simp only [Act.put, List.setIfInBounds_toArray, List.set_cons_zero, List.set_cons_succ]
                    refine wpAnyH_take (i := 1) (v := .slice (some ⟨ga, 0, none⟩) na ca) rfl (by kernel_rfl) (by kernel_rfl) (by kernel_rfl) (fun _ _ _ h => h) (Or.inl ⟨by kernel_rfl, fun W hS => by obtain ⟨h0, h1, h2⟩ := hS; go_simp⟩) (by assumption) ?_
                    try simp only [Act.put, List.setIfInBounds_toArray, List.set_cons_zero, List.set_cons_succ]
                    refine wpAnyH_take (i := 2) (v := .int .i64 (na : Int)) rfl (by kernel_rfl) (by kernel_rfl) (by kernel_rfl) (fun _ _ _ h => h) (Or.inl ⟨by kernel_rfl, fun W hS => by obtain ⟨h0, h1, h2⟩ := hS; go_simp⟩) (by assumption) ?_
                    try simp only [Act.put, List.setIfInBounds_toArray, List.set_cons_zero, List.set_cons_succ]
                    refine wpAnyH_take (i := 3) (v := .bool false) rfl (by kernel_rfl) (by kernel_rfl) (by kernel_rfl) (fun _ _ _ h => h) (Or.inl ⟨by kernel_rfl, fun W hS => by obtain ⟨h0, h1, h2⟩ := hS; go_simp⟩) (by assumption) ?_
                    try simp only [Act.put, List.setIfInBounds_toArray, List.set_cons_zero, List.set_cons_succ]
                    refine wpAnyH_take (i := 4) (v := .bool false) rfl (by kernel_rfl) (by kernel_rfl) (by kernel_rfl) (fun _ _ _ h => h) (Or.inl ⟨by kernel_rfl, fun W hS => by obtain ⟨h0, h1, h2⟩ := hS; go_simp⟩) (by assumption) ?_
                    try simp only [Act.put, List.setIfInBounds_toArray, List.set_cons_zero, List.set_cons_succ]
                    refine wpAnyH_take (i := 5) (v := .slice (some ⟨gf, 0, none⟩) nf cf) rfl (by kernel_rfl) (by kernel_rfl) (by kernel_rfl) (fun _ _ _ h => h) (Or.inl ⟨by kernel_rfl, fun W hS => by obtain ⟨h0, h1, h2⟩ := hS; go_simp⟩) (by assumption) ?_
                    try simp only [Act.put, List.setIfInBounds_toArray, List.set_cons_zero, List.set_cons_succ]
                    refine wpAnyH_take (i := 6) (v := .int .i64 (k : Int)) rfl (by kernel_rfl) (by kernel_rfl) (by kernel_rfl) (fun _ _ _ h => h) (Or.inl ⟨by kernel_rfl, fun W hS => by obtain ⟨h0, h1, h2⟩ := hS; go_simp⟩) (by assumption) ?_
                    try simp only [Act.put, List.setIfInBounds_toArray, List.set_cons_zero, List.set_cons_succ]
                    refine wpAnyH_take (i := 7) (v := .pointer (some ⟨gf, k * 36, none⟩)) rfl (by kernel_rfl) (by kernel_rfl) (by kernel_rfl) (fun _ _ _ h => h) (Or.inl ⟨by kernel_rfl, fun W hS => by obtain ⟨h0, h1, h2⟩ := hS; go_simp⟩) (by assumption) ?_
                    try simp only [Act.put, List.setIfInBounds_toArray, List.set_cons_zero, List.set_cons_succ]
                    refine wpAnyH_take (i := 8) (v := .pointer (some ⟨gf, k * 36, none⟩)) rfl (by kernel_rfl) (by kernel_rfl) (by kernel_rfl) (fun _ _ _ h => h) (Or.inl ⟨by kernel_rfl, fun W hS => by obtain ⟨h0, h1, h2⟩ := hS; go_simp⟩) (by assumption) ?_
                    try simp only [Act.put, List.setIfInBounds_toArray, List.set_cons_zero, List.set_cons_succ]
                    refine wpAnyH_take (i := 9) (oi := ⟨some 188, .load 44 (.tmp 187), _, _, _, _⟩) (v := .agg (entV x.t x.K (.slice A1 n2 e1))) rfl (by kernel_rfl) (by kernel_rfl) (by kernel_rfl) (fun _ _ _ h => h) ?hy9 (by assumption) ?_
                    case hy9 =>
                      refine yieldsIf_load_mid ?hw 44 (.tmp 187) ?ho gf (k * 36) ?hx (entL x.t x.K (.slice A1 n2 e1)) _ (fun W h => h.1) HU.out rfl (by rw [sizeEnt, entL_len0 _ _ _ KX.out])
                      case hw => kernel_rfl
                      case ho => rfl
                      case hx => kernel_rfl
                    try simp only [Act.put, List.setIfInBounds_toArray, List.set_cons_zero, List.set_cons_succ]
                    refine wpAnyH_take (i := 10) (v := .slice (some ⟨ga, 0, none⟩) na ca) rfl (by kernel_rfl) (by kernel_rfl) (by kernel_rfl) (fun _ _ _ h => h) (Or.inl ⟨by kernel_rfl, fun W hS => by obtain ⟨h0, h1, h2⟩ := hS; go_simp⟩) (by assumption) ?_
                    try simp only [Act.put, List.setIfInBounds_toArray, List.set_cons_zero, List.set_cons_succ]
                    refine wpAnyH_take (i := 11) (v := .int .i64 (aw : Int)) rfl (by kernel_rfl) (by kernel_rfl) (by kernel_rfl) (fun _ _ _ h => h) (Or.inl ⟨by kernel_rfl, fun W hS => by obtain ⟨h0, h1, h2⟩ := hS; go_simp⟩) (by assumption) ?_
                    try simp only [Act.put, List.setIfInBounds_toArray, List.set_cons_zero, List.set_cons_succ]
                    refine wpAnyH_take (i := 12) (v := .pointer (some ⟨ga, aw * 34, none⟩)) rfl (by kernel_rfl) (by kernel_rfl) (by kernel_rfl) (fun _ _ _ h => h) (Or.inl ⟨by kernel_rfl, fun W hS => by obtain ⟨h0, h1, h2⟩ := hS; go_simp⟩) (by assumption) ?_
                    try simp only [Act.put, List.setIfInBounds_toArray, List.set_cons_zero, List.set_cons_succ]
                    refine wpAnyH_take (i := 13) (oi := ⟨some 192, .load 44 (.tmp 191), _, _, _, _⟩) (v := .agg (entV x.t x.K (.slice A2 n2 e2))) rfl (by kernel_rfl) (by kernel_rfl) (by kernel_rfl) (fun _ _ _ h => h) ?hy13 (by assumption) ?_
                    case hy13 =>
                      refine yieldsIf_load_mid ?hw 44 (.tmp 191) ?ho ga (aw * 34) ?hx (entL x.t x.K (.slice A2 n2 e2)) _ (fun W h => h.2.1) HU.out rfl (by rw [sizeEnt, entL_len0 _ _ _ KX.out])
                      case hw => kernel_rfl
                      case ho => rfl
                      case hx => kernel_rfl
                    try simp only [Act.put, List.setIfInBounds_toArray, List.set_cons_zero, List.set_cons_succ]
                    refine wpAnyH_ready (rs := [14]) (by kernel_rfl) (by simp) ?_
                    refine AllReadyH.cons (o := ⟨some 193, .call { callee := .value (.func 36), args := #[.tmp 188, .tmp 192], argTypes := #[44, 44] }, _, _, _, _⟩) rfl (fun K' hK' => ?_) AllReadyH.nil
                    have HK' := Lib.hid hK'
                    clear hK'
                    go_simp
                    go_wp2_with (go_at_call 36; refine (SE.out _ SA.out).mono ?_; rintro e w16 ⟨rfl, s16⟩; have S16 := Lib.hid (SA.out.trans s16))
                    refine HK'.out.out _ _ (FF.out _ S16.out) (fun hHeld => ?_)
                    clear HK' K'
                    try simp only [Act.put, List.setIfInBounds_toArray, List.set_cons_zero, List.set_cons_succ]
                    refine wpAnyH_take (i := 15) (v := .bool false) rfl (by kernel_rfl) (by kernel_rfl) (by kernel_rfl) (fun _ _ _ h => h) (Or.inl ⟨by kernel_rfl, fun W hS => by obtain ⟨h0, h1, h2⟩ := hS; go_simp⟩) (by assumption) ?_
                    try simp only [Act.put, List.setIfInBounds_toArray, List.set_cons_zero, List.set_cons_succ]
                    refine wpAnyH_take (i := 16) (v := .bool false) rfl (by kernel_rfl) (by kernel_rfl) (by kernel_rfl) (fun _ _ _ h => h) (Or.inl ⟨by kernel_rfl, fun W hS => by obtain ⟨h0, h1, h2⟩ := hS; go_simp⟩) (by assumption) ?_
                    try simp only [Act.put, List.setIfInBounds_toArray, List.set_cons_zero, List.set_cons_succ]
                    refine wpAnyH_take (i := 17) (v := .bool false) rfl (by kernel_rfl) (by kernel_rfl) (by kernel_rfl) (fun _ _ _ h => h) (Or.inl ⟨by kernel_rfl, fun W hS => by obtain ⟨h0, h1, h2⟩ := hS; go_simp⟩) (by assumption) ?_
                    try simp only [Act.put, List.setIfInBounds_toArray, List.set_cons_zero, List.set_cons_succ]
                    refine wpAnyH_take (i := 18) (v := .slice (some ⟨gf, 0, none⟩) nf cf) rfl (by kernel_rfl) (by kernel_rfl) (by kernel_rfl) (fun _ _ _ h => h) (Or.inl ⟨by kernel_rfl, fun W hS => by obtain ⟨h0, h1, h2⟩ := hS; go_simp⟩) (by assumption) ?_
                    try simp only [Act.put, List.setIfInBounds_toArray, List.set_cons_zero, List.set_cons_succ]
                    refine wpAnyH_take (i := 19) (v := .int .i64 (k : Int)) rfl (by kernel_rfl) (by kernel_rfl) (by kernel_rfl) (fun _ _ _ h => h) (Or.inl ⟨by kernel_rfl, fun W hS => by obtain ⟨h0, h1, h2⟩ := hS; go_simp⟩) (by assumption) ?_
                    try simp only [Act.put, List.setIfInBounds_toArray, List.set_cons_zero, List.set_cons_succ]
                    refine wpAnyH_take (i := 20) (v := .pointer (some ⟨gf, k * 36, none⟩)) rfl (by kernel_rfl) (by kernel_rfl) (by kernel_rfl) (fun _ _ _ h => h) (Or.inl ⟨by kernel_rfl, fun W hS => by obtain ⟨h0, h1, h2⟩ := hS; go_simp⟩) (by assumption) ?_
                    try simp only [Act.put, List.setIfInBounds_toArray, List.set_cons_zero, List.set_cons_succ]
                    refine wpAnyH_take (i := 21) (v := .pointer (some ⟨gf, k * 36, none⟩)) rfl (by kernel_rfl) (by kernel_rfl) (by kernel_rfl) (fun _ _ _ h => h) (Or.inl ⟨by kernel_rfl, fun W hS => by obtain ⟨h0, h1, h2⟩ := hS; go_simp⟩) (by assumption) ?_
                    try simp only [Act.put, List.setIfInBounds_toArray, List.set_cons_zero, List.set_cons_succ]
                    refine wpAnyH_take (i := 22) (v := .pointer (some ⟨gf, k * 36, none⟩)) rfl (by kernel_rfl) (by kernel_rfl) (by kernel_rfl) (fun _ _ _ h => h) (Or.inl ⟨by kernel_rfl, fun W hS => by obtain ⟨h0, h1, h2⟩ := hS; go_simp⟩) (by assumption) ?_
                    try simp only [Act.put, List.setIfInBounds_toArray, List.set_cons_zero, List.set_cons_succ]
                    refine wpAnyH_take (i := 23) (v := .int .i64 x.t) rfl (by kernel_rfl) (by kernel_rfl) (by kernel_rfl) (fun _ _ _ h => h) (Or.inl ⟨by kernel_rfl, fun W hS => by obtain ⟨h0, h1, h2⟩ := hS; go_simp⟩) (by assumption) ?_
                    try simp only [Act.put, List.setIfInBounds_toArray, List.set_cons_zero, List.set_cons_succ]
                    refine wpAnyH_take (i := 24) (v := .bool true) rfl (by kernel_rfl) (by kernel_rfl) (by kernel_rfl) (fun _ _ _ h => h) (Or.inl ⟨by kernel_rfl, fun W hS => by obtain ⟨h0, h1, h2⟩ := hS; go_simp⟩) (by assumption) ?_
                    try simp only [Act.put, List.setIfInBounds_toArray, List.set_cons_zero, List.set_cons_succ]
                    refine wpAnyH_take (i := 25) (v := .bool true) rfl (by kernel_rfl) (by kernel_rfl) (by kernel_rfl) (fun _ _ _ h => h) (Or.inl ⟨by kernel_rfl, fun W hS => by obtain ⟨h0, h1, h2⟩ := hS; go_simp⟩) (by assumption) ?_
                    try simp only [Act.put, List.setIfInBounds_toArray, List.set_cons_zero, List.set_cons_succ]
                    refine wpAnyH_take (i := 26) (v := .int .i64 (k : Int)) rfl (by kernel_rfl) (by kernel_rfl) (by kernel_rfl) (fun _ _ _ h => h) (Or.inl ⟨by kernel_rfl, fun W hS => by obtain ⟨h0, h1, h2⟩ := hS; go_simp⟩) (by assumption) ?_
                    try simp only [Act.put, List.setIfInBounds_toArray, List.set_cons_zero, List.set_cons_succ]
                    refine wpAnyH_take (i := 27) (v := .slice (some ⟨gf, 0, none⟩) nf cf) rfl (by kernel_rfl) (by kernel_rfl) (by kernel_rfl) (fun _ _ _ h => h) (Or.inl ⟨by kernel_rfl, fun W hS => by obtain ⟨h0, h1, h2⟩ := hS; go_simp⟩) (by assumption) ?_
                    try simp only [Act.put, List.setIfInBounds_toArray, List.set_cons_zero, List.set_cons_succ]
                    refine wpAnyH_take (i := 28) (v := .int .i64 (nf : Int)) rfl (by kernel_rfl) (by kernel_rfl) (by kernel_rfl) (fun _ _ _ h => h) (Or.inl ⟨by kernel_rfl, fun W hS => by obtain ⟨h0, h1, h2⟩ := hS; go_simp⟩) (by assumption) ?_
                    try simp only [Act.put, List.setIfInBounds_toArray, List.set_cons_zero, List.set_cons_succ]
                    refine wpAnyH_take (i := 29) (v := .int .i64 ((nf : Int) - 1)) rfl (by kernel_rfl) (by kernel_rfl) (by kernel_rfl) (fun _ _ _ h => h) (Or.inl ⟨by kernel_rfl, fun W hS => by obtain ⟨h0, h1, h2⟩ := hS; go_simp; exact WN.out⟩) (by assumption) ?_
                    try simp only [Act.put, List.setIfInBounds_toArray, List.set_cons_zero, List.set_cons_succ]
                    refine wpAnyH_take (i := 30) (v := .bool false) rfl (by kernel_rfl) (by kernel_rfl) (by kernel_rfl) (fun _ _ _ h => h) (Or.inl ⟨by kernel_rfl, fun W hS => by obtain ⟨h0, h1, h2⟩ := hS; go_simp⟩) (by assumption) ?_
                    try simp only [Act.put, List.setIfInBounds_toArray, List.set_cons_zero, List.set_cons_succ]
                    refine wpAnyH_take (i := 31) (v := .bool false) rfl (by kernel_rfl) (by kernel_rfl) (by kernel_rfl) (fun _ _ _ h => h) (Or.inl ⟨by kernel_rfl, fun W hS => by obtain ⟨h0, h1, h2⟩ := hS; go_simp⟩) (by assumption) ?_
                    try simp only [Act.put, List.setIfInBounds_toArray, List.set_cons_zero, List.set_cons_succ]
                    refine wpAnyH_take (i := 32) (v := .bool false) rfl (by kernel_rfl) (by kernel_rfl) (by kernel_rfl) (fun _ _ _ h => h) (Or.inl ⟨by kernel_rfl, fun W hS => by obtain ⟨h0, h1, h2⟩ := hS; go_simp⟩) (by assumption) ?_
                    try simp only [Act.put, List.setIfInBounds_toArray, List.set_cons_zero, List.set_cons_succ]
                    refine wpAnyH_take (i := 33) (v := undef) rfl (by kernel_rfl) (by kernel_rfl) (by kernel_rfl) (fun _ _ _ h => h) (Or.inr ⟨by kernel_rfl, rfl⟩) (by assumption) ?_
                    try simp only [Act.put, List.setIfInBounds_toArray, List.set_cons_zero, List.set_cons_succ]
                    refine wpAnyH_take (i := 34) (v := undef) rfl (by kernel_rfl) (by kernel_rfl) (by kernel_rfl) (fun _ _ _ h => h) (Or.inr ⟨by kernel_rfl, rfl⟩) (by assumption) ?_
                    try simp only [Act.put, List.setIfInBounds_toArray, List.set_cons_zero, List.set_cons_succ]
                    refine wpAnyH_take (i := 35) (v := .bool false) rfl (by kernel_rfl) (by kernel_rfl) (by kernel_rfl) (fun _ _ _ h => h) (Or.inl ⟨by kernel_rfl, fun W hS => by obtain ⟨h0, h1, h2⟩ := hS; go_simp⟩) (by assumption) ?_
                    try simp only [Act.put, List.setIfInBounds_toArray, List.set_cons_zero, List.set_cons_succ]
                    refine wpAnyH_take (i := 36) (v := .bool false) rfl (by kernel_rfl) (by kernel_rfl) (by kernel_rfl) (fun _ _ _ h => h) (Or.inl ⟨by kernel_rfl, fun W hS => by obtain ⟨h0, h1, h2⟩ := hS; go_simp⟩) (by assumption) ?_
                    try simp only [Act.put, List.setIfInBounds_toArray, List.set_cons_zero, List.set_cons_succ]
                    refine wpAnyH_done (by kernel_rfl) ?_ _
                    have SN := Lib.hid (Still.trans SI.out S16.out)
                    clear FF SE SA S16 hHeld
                    go_simp
                    go_wp2_with fail
                    go_roundw
                    case rel => exact ⟨k + 1, aw + 1, by go_num, by omega, by go_num, Lib.hid (by have := HAW.out; omega), SN⟩
                    case measure => simp [intOf]; omega
                · have bt : (x.t == 2) = false := by simpa using ht
                  clear CB CM ht
                  go_upto_region 34 with fail
                  refine wp_region_held_drew (S := fun W => W.rangeAt gf (k * 36) (entL x.t x.K (.slice A1 n2 e1)) ∧ W.rangeAt ga (aw * 34) (entL x.t x.K (.slice A2 n2 e2)) ∧ W.cell? ⟨gf, k * 36, none⟩ = some (.int .i64 x.t)) (by kernel_rfl) (FF.out _ ((Still.refl _).drew)) (fun hHeld => ?_)
                  obtain ⟨wa, hwa⟩ : ∃ wa, wa = wr.drew := ⟨_, rfl⟩
                  have SA := Lib.hid (show Still wr wa by rw [hwa]; exact (Still.refl _).drew)
                  try rw [← hwa] at hHeld
                  rw [← hwa]
                  clear hwa
                  try simp only [Act.put, List.setIfInBounds_toArray, List.set_cons_zero, List.set_cons_succ]
                  refine wpAnyH_take (i := 0) (v := .int .i64 (aw : Int)) rfl (by kernel_rfl) (by kernel_rfl) (by kernel_rfl) (fun _ _ _ h => h) (Or.inl ⟨by kernel_rfl, fun W hS => by obtain ⟨h0, h1, h2⟩ := hS; go_simp⟩) (by assumption) ?_
                  try simp only [Act.put, List.setIfInBounds_toArray, List.set_cons_zero, List.set_cons_succ]
                  refine wpAnyH_take (i := 1) (v := .slice (some ⟨ga, 0, none⟩) na ca) rfl (by kernel_rfl) (by kernel_rfl) (by kernel_rfl) (fun _ _ _ h => h) (Or.inl ⟨by kernel_rfl, fun W hS => by obtain ⟨h0, h1, h2⟩ := hS; go_simp⟩) (by assumption) ?_
                  try simp only [Act.put, List.setIfInBounds_toArray, List.set_cons_zero, List.set_cons_succ]
                  refine wpAnyH_take (i := 2) (v := .int .i64 (na : Int)) rfl (by kernel_rfl) (by kernel_rfl) (by kernel_rfl) (fun _ _ _ h => h) (Or.inl ⟨by kernel_rfl, fun W hS => by obtain ⟨h0, h1, h2⟩ := hS; go_simp⟩) (by assumption) ?_
                  try simp only [Act.put, List.setIfInBounds_toArray, List.set_cons_zero, List.set_cons_succ]
                  refine wpAnyH_take (i := 3) (v := .bool false) rfl (by kernel_rfl) (by kernel_rfl) (by kernel_rfl) (fun _ _ _ h => h) (Or.inl ⟨by kernel_rfl, fun W hS => by obtain ⟨h0, h1, h2⟩ := hS; go_simp⟩) (by assumption) ?_
                  try simp only [Act.put, List.setIfInBounds_toArray, List.set_cons_zero, List.set_cons_succ]
                  refine wpAnyH_take (i := 4) (v := .bool false) rfl (by kernel_rfl) (by kernel_rfl) (by kernel_rfl) (fun _ _ _ h => h) (Or.inl ⟨by kernel_rfl, fun W hS => by obtain ⟨h0, h1, h2⟩ := hS; go_simp⟩) (by assumption) ?_
                  try simp only [Act.put, List.setIfInBounds_toArray, List.set_cons_zero, List.set_cons_succ]
                  refine wpAnyH_take (i := 5) (v := .slice (some ⟨gf, 0, none⟩) nf cf) rfl (by kernel_rfl) (by kernel_rfl) (by kernel_rfl) (fun _ _ _ h => h) (Or.inl ⟨by kernel_rfl, fun W hS => by obtain ⟨h0, h1, h2⟩ := hS; go_simp⟩) (by assumption) ?_
                  try simp only [Act.put, List.setIfInBounds_toArray, List.set_cons_zero, List.set_cons_succ]
                  refine wpAnyH_take (i := 6) (v := .int .i64 (k : Int)) rfl (by kernel_rfl) (by kernel_rfl) (by kernel_rfl) (fun _ _ _ h => h) (Or.inl ⟨by kernel_rfl, fun W hS => by obtain ⟨h0, h1, h2⟩ := hS; go_simp⟩) (by assumption) ?_
                  try simp only [Act.put, List.setIfInBounds_toArray, List.set_cons_zero, List.set_cons_succ]
                  refine wpAnyH_take (i := 7) (v := .pointer (some ⟨gf, k * 36, none⟩)) rfl (by kernel_rfl) (by kernel_rfl) (by kernel_rfl) (fun _ _ _ h => h) (Or.inl ⟨by kernel_rfl, fun W hS => by obtain ⟨h0, h1, h2⟩ := hS; go_simp⟩) (by assumption) ?_
                  try simp only [Act.put, List.setIfInBounds_toArray, List.set_cons_zero, List.set_cons_succ]
                  refine wpAnyH_take (i := 8) (v := .pointer (some ⟨gf, k * 36, none⟩)) rfl (by kernel_rfl) (by kernel_rfl) (by kernel_rfl) (fun _ _ _ h => h) (Or.inl ⟨by kernel_rfl, fun W hS => by obtain ⟨h0, h1, h2⟩ := hS; go_simp⟩) (by assumption) ?_
                  try simp only [Act.put, List.setIfInBounds_toArray, List.set_cons_zero, List.set_cons_succ]
                  refine wpAnyH_take (i := 9) (oi := ⟨some 188, .load 44 (.tmp 187), _, _, _, _⟩) (v := .agg (entV x.t x.K (.slice A1 n2 e1))) rfl (by kernel_rfl) (by kernel_rfl) (by kernel_rfl) (fun _ _ _ h => h) ?hy9 (by assumption) ?_
                  case hy9 =>
                    refine yieldsIf_load_mid ?hw 44 (.tmp 187) ?ho gf (k * 36) ?hx (entL x.t x.K (.slice A1 n2 e1)) _ (fun W h => h.1) HU.out rfl (by rw [sizeEnt, entL_len0 _ _ _ KX.out])
                    case hw => kernel_rfl
                    case ho => rfl
                    case hx => kernel_rfl
                  try simp only [Act.put, List.setIfInBounds_toArray, List.set_cons_zero, List.set_cons_succ]
                  refine wpAnyH_take (i := 10) (v := .slice (some ⟨ga, 0, none⟩) na ca) rfl (by kernel_rfl) (by kernel_rfl) (by kernel_rfl) (fun _ _ _ h => h) (Or.inl ⟨by kernel_rfl, fun W hS => by obtain ⟨h0, h1, h2⟩ := hS; go_simp⟩) (by assumption) ?_
                  try simp only [Act.put, List.setIfInBounds_toArray, List.set_cons_zero, List.set_cons_succ]
                  refine wpAnyH_take (i := 11) (v := .int .i64 (aw : Int)) rfl (by kernel_rfl) (by kernel_rfl) (by kernel_rfl) (fun _ _ _ h => h) (Or.inl ⟨by kernel_rfl, fun W hS => by obtain ⟨h0, h1, h2⟩ := hS; go_simp⟩) (by assumption) ?_
                  try simp only [Act.put, List.setIfInBounds_toArray, List.set_cons_zero, List.set_cons_succ]
                  refine wpAnyH_take (i := 12) (v := .pointer (some ⟨ga, aw * 34, none⟩)) rfl (by kernel_rfl) (by kernel_rfl) (by kernel_rfl) (fun _ _ _ h => h) (Or.inl ⟨by kernel_rfl, fun W hS => by obtain ⟨h0, h1, h2⟩ := hS; go_simp⟩) (by assumption) ?_
                  try simp only [Act.put, List.setIfInBounds_toArray, List.set_cons_zero, List.set_cons_succ]
                  refine wpAnyH_take (i := 13) (oi := ⟨some 192, .load 44 (.tmp 191), _, _, _, _⟩) (v := .agg (entV x.t x.K (.slice A2 n2 e2))) rfl (by kernel_rfl) (by kernel_rfl) (by kernel_rfl) (fun _ _ _ h => h) ?hy13 (by assumption) ?_
                  case hy13 =>
                    refine yieldsIf_load_mid ?hw 44 (.tmp 191) ?ho ga (aw * 34) ?hx (entL x.t x.K (.slice A2 n2 e2)) _ (fun W h => h.2.1) HU.out rfl (by rw [sizeEnt, entL_len0 _ _ _ KX.out])
                    case hw => kernel_rfl
                    case ho => rfl
                    case hx => kernel_rfl
                  try simp only [Act.put, List.setIfInBounds_toArray, List.set_cons_zero, List.set_cons_succ]
                  refine wpAnyH_ready (rs := [14]) (by kernel_rfl) (by simp) ?_
                  refine AllReadyH.cons (o := ⟨some 193, .call { callee := .value (.func 36), args := #[.tmp 188, .tmp 192], argTypes := #[44, 44] }, _, _, _, _⟩) rfl (fun K' hK' => ?_) AllReadyH.nil
                  have HK' := Lib.hid hK'
                  clear hK'
                  go_simp
                  go_wp2_with (go_at_call 36; refine (SE.out _ SA.out).mono ?_; rintro e w16 ⟨rfl, s16⟩; have S16 := Lib.hid (SA.out.trans s16))
                  refine HK'.out.out _ _ (FF.out _ S16.out) (fun hHeld => ?_)
                  clear HK' K'
                  try simp only [Act.put, List.setIfInBounds_toArray, List.set_cons_zero, List.set_cons_succ]
                  refine wpAnyH_take (i := 15) (v := .bool false) rfl (by kernel_rfl) (by kernel_rfl) (by kernel_rfl) (fun _ _ _ h => h) (Or.inl ⟨by kernel_rfl, fun W hS => by obtain ⟨h0, h1, h2⟩ := hS; go_simp⟩) (by assumption) ?_
                  try simp only [Act.put, List.setIfInBounds_toArray, List.set_cons_zero, List.set_cons_succ]
                  refine wpAnyH_take (i := 16) (v := .bool false) rfl (by kernel_rfl) (by kernel_rfl) (by kernel_rfl) (fun _ _ _ h => h) (Or.inl ⟨by kernel_rfl, fun W hS => by obtain ⟨h0, h1, h2⟩ := hS; go_simp⟩) (by assumption) ?_
                  try simp only [Act.put, List.setIfInBounds_toArray, List.set_cons_zero, List.set_cons_succ]
                  refine wpAnyH_take (i := 17) (v := .bool false) rfl (by kernel_rfl) (by kernel_rfl) (by kernel_rfl) (fun _ _ _ h => h) (Or.inl ⟨by kernel_rfl, fun W hS => by obtain ⟨h0, h1, h2⟩ := hS; go_simp⟩) (by assumption) ?_
                  try simp only [Act.put, List.setIfInBounds_toArray, List.set_cons_zero, List.set_cons_succ]
                  refine wpAnyH_take (i := 18) (v := .slice (some ⟨gf, 0, none⟩) nf cf) rfl (by kernel_rfl) (by kernel_rfl) (by kernel_rfl) (fun _ _ _ h => h) (Or.inl ⟨by kernel_rfl, fun W hS => by obtain ⟨h0, h1, h2⟩ := hS; go_simp⟩) (by assumption) ?_
                  try simp only [Act.put, List.setIfInBounds_toArray, List.set_cons_zero, List.set_cons_succ]
                  refine wpAnyH_take (i := 19) (v := .int .i64 (k : Int)) rfl (by kernel_rfl) (by kernel_rfl) (by kernel_rfl) (fun _ _ _ h => h) (Or.inl ⟨by kernel_rfl, fun W hS => by obtain ⟨h0, h1, h2⟩ := hS; go_simp⟩) (by assumption) ?_
                  try simp only [Act.put, List.setIfInBounds_toArray, List.set_cons_zero, List.set_cons_succ]
                  refine wpAnyH_take (i := 20) (v := .pointer (some ⟨gf, k * 36, none⟩)) rfl (by kernel_rfl) (by kernel_rfl) (by kernel_rfl) (fun _ _ _ h => h) (Or.inl ⟨by kernel_rfl, fun W hS => by obtain ⟨h0, h1, h2⟩ := hS; go_simp⟩) (by assumption) ?_
                  try simp only [Act.put, List.setIfInBounds_toArray, List.set_cons_zero, List.set_cons_succ]
                  refine wpAnyH_take (i := 21) (v := .pointer (some ⟨gf, k * 36, none⟩)) rfl (by kernel_rfl) (by kernel_rfl) (by kernel_rfl) (fun _ _ _ h => h) (Or.inl ⟨by kernel_rfl, fun W hS => by obtain ⟨h0, h1, h2⟩ := hS; go_simp⟩) (by assumption) ?_
                  try simp only [Act.put, List.setIfInBounds_toArray, List.set_cons_zero, List.set_cons_succ]
                  refine wpAnyH_take (i := 22) (v := .pointer (some ⟨gf, k * 36, none⟩)) rfl (by kernel_rfl) (by kernel_rfl) (by kernel_rfl) (fun _ _ _ h => h) (Or.inl ⟨by kernel_rfl, fun W hS => by obtain ⟨h0, h1, h2⟩ := hS; go_simp⟩) (by assumption) ?_
                  try simp only [Act.put, List.setIfInBounds_toArray, List.set_cons_zero, List.set_cons_succ]
                  refine wpAnyH_take (i := 23) (v := .int .i64 x.t) rfl (by kernel_rfl) (by kernel_rfl) (by kernel_rfl) (fun _ _ _ h => h) (Or.inl ⟨by kernel_rfl, fun W hS => by obtain ⟨h0, h1, h2⟩ := hS; go_simp⟩) (by assumption) ?_
                  try simp only [Act.put, List.setIfInBounds_toArray, List.set_cons_zero, List.set_cons_succ]
                  refine wpAnyH_take (i := 24) (v := .bool false) rfl (by kernel_rfl) (by kernel_rfl) (by kernel_rfl) (fun _ _ _ h => h) (Or.inl ⟨by kernel_rfl, fun W hS => by obtain ⟨h0, h1, h2⟩ := hS; go_simp⟩) (by assumption) ?_
                  try simp only [Act.put, List.setIfInBounds_toArray, List.set_cons_zero, List.set_cons_succ]
                  refine wpAnyH_take (i := 25) (v := .bool false) rfl (by kernel_rfl) (by kernel_rfl) (by kernel_rfl) (fun _ _ _ h => h) (Or.inl ⟨by kernel_rfl, fun W hS => by obtain ⟨h0, h1, h2⟩ := hS; go_simp⟩) (by assumption) ?_
                  try simp only [Act.put, List.setIfInBounds_toArray, List.set_cons_zero, List.set_cons_succ]
                  refine wpAnyH_take (i := 26) (v := undef) rfl (by kernel_rfl) (by kernel_rfl) (by kernel_rfl) (fun _ _ _ h => h) (Or.inr ⟨by kernel_rfl, rfl⟩) (by assumption) ?_
                  try simp only [Act.put, List.setIfInBounds_toArray, List.set_cons_zero, List.set_cons_succ]
                  refine wpAnyH_take (i := 27) (v := undef) rfl (by kernel_rfl) (by kernel_rfl) (by kernel_rfl) (fun _ _ _ h => h) (Or.inr ⟨by kernel_rfl, rfl⟩) (by assumption) ?_
                  try simp only [Act.put, List.setIfInBounds_toArray, List.set_cons_zero, List.set_cons_succ]
                  refine wpAnyH_take (i := 28) (v := undef) rfl (by kernel_rfl) (by kernel_rfl) (by kernel_rfl) (fun _ _ _ h => h) (Or.inr ⟨by kernel_rfl, rfl⟩) (by assumption) ?_
                  try simp only [Act.put, List.setIfInBounds_toArray, List.set_cons_zero, List.set_cons_succ]
                  refine wpAnyH_take (i := 29) (v := undef) rfl (by kernel_rfl) (by kernel_rfl) (by kernel_rfl) (fun _ _ _ h => h) (Or.inr ⟨by kernel_rfl, rfl⟩) (by assumption) ?_
                  try simp only [Act.put, List.setIfInBounds_toArray, List.set_cons_zero, List.set_cons_succ]
                  refine wpAnyH_take (i := 30) (v := undef) rfl (by kernel_rfl) (by kernel_rfl) (by kernel_rfl) (fun _ _ _ h => h) (Or.inr ⟨by kernel_rfl, rfl⟩) (by assumption) ?_
                  try simp only [Act.put, List.setIfInBounds_toArray, List.set_cons_zero, List.set_cons_succ]
                  refine wpAnyH_take (i := 31) (v := .bool false) rfl (by kernel_rfl) (by kernel_rfl) (by kernel_rfl) (fun _ _ _ h => h) (Or.inl ⟨by kernel_rfl, fun W hS => by obtain ⟨h0, h1, h2⟩ := hS; go_simp⟩) (by assumption) ?_
                  try simp only [Act.put, List.setIfInBounds_toArray, List.set_cons_zero, List.set_cons_succ]
                  refine wpAnyH_take (i := 32) (v := .bool false) rfl (by kernel_rfl) (by kernel_rfl) (by kernel_rfl) (fun _ _ _ h => h) (Or.inl ⟨by kernel_rfl, fun W hS => by obtain ⟨h0, h1, h2⟩ := hS; go_simp⟩) (by assumption) ?_
                  try simp only [Act.put, List.setIfInBounds_toArray, List.set_cons_zero, List.set_cons_succ]
                  refine wpAnyH_take (i := 33) (v := undef) rfl (by kernel_rfl) (by kernel_rfl) (by kernel_rfl) (fun _ _ _ h => h) (Or.inr ⟨by kernel_rfl, rfl⟩) (by assumption) ?_
                  try simp only [Act.put, List.setIfInBounds_toArray, List.set_cons_zero, List.set_cons_succ]
                  refine wpAnyH_take (i := 34) (v := undef) rfl (by kernel_rfl) (by kernel_rfl) (by kernel_rfl) (fun _ _ _ h => h) (Or.inr ⟨by kernel_rfl, rfl⟩) (by assumption) ?_
                  try simp only [Act.put, List.setIfInBounds_toArray, List.set_cons_zero, List.set_cons_succ]
                  refine wpAnyH_take (i := 35) (v := .bool false) rfl (by kernel_rfl) (by kernel_rfl) (by kernel_rfl) (fun _ _ _ h => h) (Or.inl ⟨by kernel_rfl, fun W hS => by obtain ⟨h0, h1, h2⟩ := hS; go_simp⟩) (by assumption) ?_
                  try simp only [Act.put, List.setIfInBounds_toArray, List.set_cons_zero, List.set_cons_succ]
                  refine wpAnyH_take (i := 36) (v := .bool false) rfl (by kernel_rfl) (by kernel_rfl) (by kernel_rfl) (fun _ _ _ h => h) (Or.inl ⟨by kernel_rfl, fun W hS => by obtain ⟨h0, h1, h2⟩ := hS; go_simp⟩) (by assumption) ?_
                  try simp only [Act.put, List.setIfInBounds_toArray, List.set_cons_zero, List.set_cons_succ]
                  refine wpAnyH_done (by kernel_rfl) ?_ _
                  have SN := Lib.hid (Still.trans SI.out S16.out)
                  clear FF SE SA S16 hHeld
                  go_simp
                  go_wp2_with fail
                  go_roundw
                  case rel => exact ⟨k + 1, aw + 1, by go_num, by omega, by go_num, Lib.hid (by have := HAW.out; omega), SN⟩
                  case measure => simp [intOf]; omega
              · obtain rfl : nf = k := by omega
                have NXT := Lib.hid (show aw = ((Z.take (i' + 1)).flatMap (·.2)).length from by rw [flat_take ZZ.out.1, ← HTT.out, ← ZZ.out.2.2.1]; exact HAW.out)
                have SLN := Lib.hid (show ∃ own lo, LM wr w4'.heap.size g gl own lo M S ∧ Still w4' wr ∧ wr.ownsRow w4'.heap.size 44 34 (.slice Aa na ca) na ys ∧ wr.ownsRow w4'.heap.size 3 1 (.slice (some ⟨bs, 0, none⟩) q cs) q (nums.map (Value.int .i64)) ∧ (∀ b, (Value.slice Aa na ca).ownBlock = some b → own b = none ∧ lo b = none) ∧ (∀ b, (Value.slice (some ⟨bs, 0, none⟩) q cs).ownBlock = some b → own b = none ∧ lo b = none) from by
                  obtain ⟨own15, lo15, lm15, st15, rowa15, rows15, apa15, aps15, _, _⟩ := W15.out
                  exact ⟨own15, lo15, lm15.still SI.out, Still.trans st15 SI.out, still_own rowa15 SI.out, still_own rows15 SI.out, apa15, aps15⟩)
                clear W15
                go_wp2_with fail
                go_roundw
                case rel => exact ⟨i' + 1, aw, rfl, by omega, by go_num, NXT.out, SLN⟩
                case measure => simp [intOf]; omega
        · obtain rfl : q = i' := by omega
          have htn : tt = na := by rw [htt, HNA.out, ← HS.out.fl, QZ.out, List.take_length]
          have bt : ((tt : Int) == (na : Int)) = true := by rw [htn]; simp
          have WE := Lib.hid (show Still w4' wr from by obtain ⟨own, lo, lm, st, _⟩ := hh.out; exact st)
          clear hh htt htn
          go_wp2_with fail
          refine (LV.out _ WE.out).mono ?_
          rintro e w20 ⟨rfl, s20⟩
          have FIN := Lib.hid (Still.trans S4.out (Still.trans WE.out s20))
          go_wp2_with fail
          go_ret
          exact ⟨rfl, FIN.out⟩
end Go.Proofs.YtfneloobfidckaaGreatDoor
