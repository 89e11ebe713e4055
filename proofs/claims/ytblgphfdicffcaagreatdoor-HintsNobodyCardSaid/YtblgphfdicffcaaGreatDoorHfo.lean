/- Contracts and facts, several texts in one. It proves no statement. -/
import Derived.Test.YtblgphfdicffcaaGreatDoorHfn
import Derived.Deep.RegionHeld3

/- Contract: an entry put behind the others, by what lay answers. It proves no statement. -/



namespace Go.Proofs.YtblgphfdicffcaaGreatDoor
open Go.RowKit Go.Maps Go.WideMaps Go.Sort
set_option linter.unusedVariables false
set_option linter.unusedSimpArgs false

/-- What lay leaves where it answers OK. -/
def LaidOK (S : Lg) (n : Nat) : Prop := ∃ (m : Nat) (p : Nat × Nat), S.segs.length = m + 1 ∧ S.segs[m]? = some p ∧ m + 1 ≤ 1048577 ∧ n ≤ p.2 ∧ p.2 ≤ 4611686018427387904
/-- The place of the last entry of n bytes. -/
def placeL (S : Lg) (n : Nat) : Nat × Nat × Nat := match S.segs.getLast? with | some p => (p.1, p.2 - n, n) | none => (0, 0, 0)
def appendR (E : Int × List UInt8) (M : Me) (S : Lg) (R : Int × Me × Lg) : (Nat × Nat × Nat) × Int × Me × Lg :=
  if E.1 ≠ 0 then ((0, 0, 0), E.1, M, S) else if R.1 ≠ 0 then ((0, 0, 0), R.1, R.2.1, R.2.2) else (placeL R.2.2 E.2.length, 0, R.2.1, R.2.2)
def plV (p : Nat × Nat × Nat) : Value := .agg #[.int .i64 (p.1 : Int), .int .i64 (p.2.1 : Int), .int .i64 (p.2.2 : Int)]
theorem placeL_at {S : Lg} {m n : Nat} {p : Nat × Nat} (hm : S.segs.length = m + 1) (hp : S.segs[m]? = some p) : placeL S n = (p.1, p.2 - n, n) := by
  unfold placeL
  rw [List.getLast?_eq_getElem?, hm, show m + 1 - 1 = m by omega, hp]
theorem llast_w {w : World} {base g gl : Nat} {lo : LOwn} {S : Lg} {sv : Value} (h : LogI w base lo g gl S sv) {m : Nat} (hm : S.segs.length = m + 1) (hok : m + 1 ≤ 1048577) : Calls Tryz.prog 98 #[.pointer (some ⟨gl, 0, none⟩)] w fun e w' => e = .returned (.int .i64 (m : Int)) ∧ w' = w := by
  obtain ⟨A, c, rfl, _, _, _⟩ := h.form
  have c2 := h.cells.2.2.1
  rw [hm] at c2
  have e1 : ((m + 1 : Nat) : Int) - 1 = (m : Int) := by omega
  have e2 : wrap64 (m : Int) = (m : Int) := by unfold wrap64; omega
  clear h hm hok
  go_enter Tryz.func98, Tryz.ntmps98
  go_wp2_with fail
  go_ret
  exact ⟨by simp [e2], rfl⟩
theorem sizePl : (Tryz.prog.info? 38).map (·.size) = some 3 := by kernel_rfl
theorem results_cellP {fn : Func} {p u : Tmp} {P : Program} {ty : TypeId} (h : fn.results = #[.cell p ty, .tmp u]) (tmps : Array Value) (w : World) (g : Nat) (t : TypeId) (cs : Array Value) (fr : Nat × Nat) (d : TypeDesc)
    (hp : tmps.getD p undef = .pointer (some ⟨g, 0, none⟩)) (hg : w.heap[g]? = some (.cells cs t fr))
    (hu : P.underlying ty = some d) (hd : (match d with | .struct _ | .array _ _ => true | _ => false) = true) (hi : (P.info? ty).map (·.size) = some cs.size) :
    (results fn tmps).run P w = .ok (.tuple #[.agg cs, tmps.getD u undef]) w := by
  rw [results_cell_tmp h, hp]
  simp [asAddr, run_loadVar_row w g t ty cs fr d hg hu hd hi, Result.andThen]
theorem chg_setRow (w : World) (g : Nat) (cs : Array Value) : Chg w (w.setRow g cs) (fun b => b = g) :=
  ⟨rfl, rfl, rfl, by simp [World.setRow], fun k _ hn => setRow_other w g k cs hn⟩
theorem zeroPl : (Tryz.prog.info? 38).map (fun i => (i.zero, i.size)) = some (some (.agg #[.int .i64 0, .int .i64 0, .int .i64 0]), 3) := by kernel_rfl
theorem sizeEnt0 : (Tryz.prog.info? 48).map (·.size) = some 34 := by kernel_rfl
theorem LLeft.after {w W W' : World} {base g gl : Nat} {own : Own} {lo : LOwn} {M' : Me} {S' : Lg} (h : LLeft w W base g gl own lo M' S') (s : Still W W') : LLeft w W' base g gl own lo M' S' := by
  obtain ⟨c, own', lo', ho, lm⟩ := h
  exact ⟨c.trans (Chg.of_still s (fun _ => False)) (fun _ _ h => h.elim), own', lo', ho, lm.still s⟩
theorem LLeft.setRow {w w3 W : World} {base g gl x : Nat} {own : Own} {lo : LOwn} {M' : Me} {S' : Lg} (s : Still w w3) (h : LLeft w3 W base g gl own lo M' S') (h1 : w.heap.size ≤ x) (h2 : x < w3.heap.size) (h3 : own x = none ∧ lo x = none) (cs : Array Value) : LLeft w (W.setRow x cs) base g gl own lo M' S' := by
  obtain ⟨c, own', lo', ho, lm⟩ := h
  refine ⟨((Chg.of_still s _).trans c (fun _ _ h => h)).trans (chg_setRow W x cs) (fun b hb e => by have e : b = x := e; omega), own', lo', fun b hb => ho b (Nat.lt_of_lt_of_le hb s.size), lm.keep (chg_setRow W x cs) (fun b hb => ?_)⟩
  have hb : b = x := hb
  subst hb
  rw [(ho b h2).1, (ho b h2).2]
  exact h3
set_option maxRecDepth 100000 in
set_option maxHeartbeats 6400000 in
theorem lappend_by {w : World} {base g gl k : Nat} {own : Own} {lo : LOwn} {M : Me} {S : Lg} {t : Int} {K D : List UInt8} {A : Option Addr} {n c B : Nat} (R : Nat → Int × Me × Lg) (h : LM w base g gl own lo M S) (T : SgT w)
    (hK : K.length = 32) (hr : Reads w B A n D) (hB : B ≤ w.heap.size) (hA : A = none → c = 0) (hn : n ≤ 1048576)
    (hlay : (encE t K D).1 = 0 → ∀ W A2 m2 c2, Still w W → RowP W (fun b => w.heap.size ≤ b) A2 m2 c2 (encE t K D).2 → Calls Tryz.prog 97 #[.pointer (some ⟨gl, 0, none⟩), .slice A2 m2 c2] W fun e w' => ∃ gf, M.fs gf = none ∧ e = .returned (.int .i64 (R gf).1) ∧ LLeft W w' base g gl own lo (R gf).2.1 (R gf).2.2)
    (hR : ∀ gf, (encE t K D).1 = 0 → (R gf).1 = 0 → LaidOK (R gf).2.2 (encE t K D).2.length) :
    Calls Tryz.prog 38 #[.pointer (some ⟨gl, 0, none⟩), .agg (entV t K (.slice A n c))] w fun e w' => ∃ gf, M.fs gf = none ∧ e = .returned (.tuple #[plV (appendR (encE t K D) M S (R gf)).1, .int .i64 (appendR (encE t K D) M S (R gf)).2.1]) ∧ LLeft w w' base g gl own lo (appendR (encE t K D) M S (R gf)).2.2.1 (appendR (encE t K D) M S (R gf)).2.2.2 := by
  obtain ⟨ent, hent⟩ : ∃ ent, ent = entV t K (.slice A n c) := ⟨_, rfl⟩
  rw [← hent]
  have hes : ent.size = 34 := by rw [hent]; exact entV_size t K _ hK
  obtain ⟨wA, hwA⟩ : ∃ wA, wA = w.alloc (.cells ent 48) := ⟨_, rfl⟩
  obtain ⟨wB, hwB⟩ : ∃ wB, wB = wA.alloc (.cells #[.int .i64 0, .int .i64 0, .int .i64 0] 38) := ⟨_, rfl⟩
  have SA : Still w wA := by rw [hwA]; exact (Still.refl w).alloc (Nat.le_refl _) _
  have hsA : wA.heap.size = w.heap.size + 1 := by rw [hwA]; simp
  have SB : Still wA wB := by rw [hwB]; exact (Still.refl wA).alloc (Nat.le_refl _) _
  have hsB : wB.heap.size = w.heap.size + 2 := by rw [hwB]; simp [hsA]
  have BE : Blk wB w.heap.size 48 ent := by
    have : Blk wA w.heap.size 48 ent := by rw [hwA]; exact Blk.new _ _ _
    exact this.still SB
  have BP : Blk wB (w.heap.size + 1) 38 #[.int .i64 0, .int .i64 0, .int .i64 0] := by rw [hwB, ← hsA]; exact Blk.new _ _ _
  have SAB := Still.trans SA SB
  have LMB := h.still SAB
  obtain ⟨sv, hl⟩ := LMB.log
  have WK := Lib.hid (lworks_any hl)
  have EN := Lib.hid (encode_any t K D A n c wB B hK (hr.still hB SAB) (Nat.le_trans hB SAB.size) hA hn (T.still SAB).tabs)
  rw [← hent] at EN
  obtain ⟨bb, hbb⟩ : ∃ bb, bb = (encE t K D).2 := ⟨_, rfl⟩
  obtain ⟨e0, he0⟩ : ∃ e0, e0 = (encE t K D).1 := ⟨_, rfl⟩
  have EP : encE t K D = (e0, bb) := by rw [he0, hbb]
  rw [EP] at EN ⊢ hlay hR
  dsimp only at EN hlay hR
  have HLAY := Lib.hid hlay
  have HR := Lib.hid hR
  have HAB := Lib.hid SAB
  have HBP := Lib.hid BP
  have HBE := Lib.hid BE
  have HSA := Lib.hid hsA
  have HSB := Lib.hid hsB
  have HWA := Lib.hid hwA
  have HWB := Lib.hid hwB
  have HLM := Lib.hid LMB
  have HES := Lib.hid hes
  have HFR := Lib.hid h.med.fresh
  have HLW := Lib.hid h
  have UE : Tryz.prog.underlying 48 = some _ := Tryz.underlying48
  clear hlay hR h T hK hr hB hA hn hwA hwB SA SB hsA hsB BE BP SAB LMB hl hbb he0 EP hes hent
  go_enter Tryz.func38, Tryz.ntmps38
  go_upto_region 1 with (first
    | (guard_target =~ wpList _ _ _ (Oper.mk (some 3) _ _ _ _ _ :: _) _ _; go_must (refine wpList_box_val rfl 48 (.tmp 1) rfl (some 3) rfl ent rfl ?_); rw [← HWA.out])
    | (guard_target =~ wpList _ _ _ (Oper.mk (some 4) _ _ _ _ _ :: _) _ _; go_must (refine wpList_alloc_arr rfl 38 rfl (some 4) rfl #[.int .i64 0, .int .i64 0, .int .i64 0] 3 zeroPl ?_); rw [← HWB.out, HSA.out]))
  have UP := Lib.hid (show Tryz.prog.underlying 38 = some _ from Tryz.underlying38)
  have X1 := Lib.hid (show w.heap.size + 1 < wB.heap.size by rw [HSB.out]; omega)
  have X3 := Lib.hid (show own (w.heap.size + 1) = none ∧ lo (w.heap.size + 1) = none from by
    obtain ⟨sv, l⟩ := HLW.out.log
    refine ⟨?_, ?_⟩
    · cases hq : own (w.heap.size + 1) with
      | none => rfl
      | some q => have := (HLW.out.med.dom _ (by rw [hq]; simp)).2; omega
    · cases hq : lo (w.heap.size + 1) with
      | none => rfl
      | some q => have := (l.dom _ (by rw [hq]; simp)).2; omega)
  by_cases z0 : e0 = 0
  · subst z0
    replace HLAY := Lib.hid (fun W A2 m2 c2 => HLAY.out rfl W A2 m2 c2)
    replace HR := Lib.hid (fun gf => HR.out gf rfl)
    go_upto_region 6 with (first
      | (guard_target =~ wpList _ _ _ (Oper.mk (some 14) _ _ _ _ _ :: _) _ _; go_must (refine load_rowG (by kernel_rfl) 48 (.tmp 3) rfl w.heap.size rfl 48 ent (0, 0) _ HBE.out Tryz.underlying48 rfl (by rw [sizeEnt0, HES.out]) ?_))
      | (go_at_call 63; refine WK.out.mono ?_; rintro e w2 ⟨rfl, rfl⟩)
      | (go_at_call 96; refine EN.out.mono ?_; rintro e w3 ⟨⟨v3, rfl, o3⟩, s3⟩; obtain ⟨A3, c3, rfl, f1, f2, f3⟩ := own_form o3; have O3 := Lib.hid o3; have S3 := Lib.hid s3; clear o3 s3 f3)
      | (go_at_call 97; refine (HLAY.out w3 A3 bb.length c3 (Still.trans HAB.out S3.out) ((RowP.of_own O3.out).mono (fun b hb _ => Nat.le_trans HAB.out.size hb.1))).mono ?_; rintro e w4 ⟨gf, hgf, rfl, hl4⟩; have GF := Lib.hid hgf; have L4 := Lib.hid hl4; clear hgf hl4))
    obtain ⟨e1, he1⟩ : ∃ e1, e1 = (R gf).1 := ⟨_, rfl⟩
    obtain ⟨M4, hM4⟩ : ∃ M4, M4 = (R gf).2.1 := ⟨_, rfl⟩
    obtain ⟨S4, hS4⟩ : ∃ S4, S4 = (R gf).2.2 := ⟨_, rfl⟩
    have HRG := Lib.hid (HR.out gf)
    have EA := Lib.hid (show appendR (0, bb) M S (R gf) = if e1 ≠ 0 then ((0, 0, 0), e1, M4, S4) else (placeL S4 bb.length, 0, M4, S4) from by
      unfold appendR
      rw [if_neg (by simp), ← he1, ← hM4, ← hS4])
    rw [← hM4, ← hS4] at L4
    rw [← he1, ← hS4] at HRG
    rw [← he1]
    clear he1 hM4 hS4 HLAY HR
    have BP4 := Lib.hid (show Blk w4 (w.heap.size + 1) 38 #[.int .i64 0, .int .i64 0, .int .i64 0] from by
      obtain ⟨c4, _⟩ := L4.out
      refine c4.blk (HBP.out.still S3.out) (fun hs => ?_)
      rcases hs with hs | hs
      · exact hs X3.out.1
      · exact hs X3.out.2)
    have FIN := Lib.hid (fun cs => LLeft.setRow (x := w.heap.size + 1) (Still.trans HAB.out S3.out) L4.out (by omega) (Nat.lt_of_lt_of_le X1.out S3.out.size) X3.out cs)
    by_cases z1 : e1 = 0
    · subst z1
      obtain ⟨m, p, hm, hp, hmm, hle, hbig⟩ := HRG.out rfl
      have EB := Lib.hid (show appendR (0, bb) M S (R gf) = ((p.1, p.2 - bb.length, bb.length), 0, M4, S4) by rw [EA.out, if_neg (by simp), placeL_at hm hp])
      obtain ⟨c4, own4, lo4, ho4, lm4⟩ := L4.out
      obtain ⟨sv4, l4⟩ := lm4.log
      have LAST := Lib.hid (fun W (s : Still w4 W) => llast_w (l4.keep (Chg.of_still s (fun _ => False)) (fun _ h => h.elim)) hm hmm)
      obtain ⟨A4, c5, hsv, q1, q2, hcl⟩ := l4.form
      have k2 := l4.cells.2.2.1
      obtain ⟨bq, hA, hlo, d1, d2⟩ := hcl m p hp
      subst hA
      rw [hsv, hm] at k2
      rw [hm] at q1
      have hbq : bq < w4.heap.size := (l4.dom bq (by rw [hlo]; simp)).2
      have hgl : gl < w4.heap.size := l4.blk.lt
      have KC := Lib.hid (fun W (s : Still w4 W) => show W.cell? ⟨gl, 2, none⟩ = some (.slice (some ⟨bq, 0, none⟩) (m + 1) c5) ∧ W.cell? ⟨bq, m * 2, none⟩ = some (.int .i64 (p.1 : Int)) ∧ W.cell? ⟨bq, m * 2 + 1, none⟩ = some (.int .i64 (p.2 : Int)) from ⟨(s.cell (p := ⟨gl, 2, none⟩) hgl).trans k2, (s.cell (p := ⟨bq, m * 2, none⟩) hbq).trans d1, (s.cell (p := ⟨bq, m * 2 + 1, none⟩) hbq).trans d2⟩)
      obtain ⟨pa, hpa⟩ : ∃ pa, pa = p.1 := ⟨_, rfl⟩
      obtain ⟨pb, hpb⟩ : ∃ pb, pb = p.2 := ⟨_, rfl⟩
      obtain ⟨bl, hbl⟩ : ∃ bl, bl = bb.length := ⟨_, rfl⟩
      rw [← hpa, ← hpb] at KC
      rw [← hpa, ← hpb, ← hbl] at EB
      rw [← hpb] at hbig
      rw [← hbl, ← hpb] at hle
      rw [← hbl] at f1
      obtain ⟨ml, hml⟩ : ∃ ml, ml = m + 1 := ⟨_, rfl⟩
      rw [← hml] at KC q1
      have z3 : (0 : Int) ≤ (m : Int) := by omega
      have z4 : (m : Int) < (ml : Int) := by omega
      clear hml
      have HLE := Lib.hid (And.intro hle hbig)
      have HBL := Lib.hid hbl
      clear c4 ho4 lm4 l4 hsv hcl k2 d1 d2 hm hp hmm hlo hbq hgl hpa hpb hle hbig EA HRG hbl q1 q2
      go_wp2_with fail
      go_region_held3 (fun W => W.cell? ⟨gl, 2, none⟩ = some (.slice (some ⟨bq, 0, none⟩) ml c5) ∧ W.cell? ⟨bq, m * 2, none⟩ = some (.int .i64 (pa : Int)) ∧ W.cell? ⟨bq, m * 2 + 1, none⟩ = some (.int .i64 (pb : Int))) (first | exact KC.out _ (Still.refl _).drew | exact KC.out _ (((Still.refl _).drew).alloc (Nat.le_refl _) _) | exact KC.out _ (below_setRow (((Still.refl _).drew).alloc (Nat.le_refl _) _) (by simp) _)) ((go_at_call 98; with_reducible refine (LAST.out _ (by first | exact (Still.refl _).drew | exact ((Still.refl _).alloc (Nat.le_refl _) _).drew)).mono ?_; rintro e w6 ⟨rfl, rfl⟩))
      all_goals
        obtain ⟨pd, hpd⟩ : ∃ pd, pd = pb - bl := ⟨_, rfl⟩
        have EB2 := Lib.hid (show appendR (0, bb) M S (R gf) = ((pa, pd, bl), 0, M4, S4) by rw [EB.out, hpd])
        have S5 := Lib.hid (show Still w4 (w4.alloc (.cells #[.int .i64 (pa : Int), .int .i64 (pb : Int)] 130)).drew from ((Still.refl _).alloc (Nat.le_refl _) _).drew)
        have BP5 := Lib.hid (BP4.out.still S5.out)
        have FN5 := Lib.hid (fun cs => LLeft.setRow (x := w.heap.size + 1) (Still.trans HAB.out S3.out) (L4.out.after S5.out) (by omega) (Nat.lt_of_lt_of_le X1.out S3.out.size) X3.out cs)
        have v1 : (pb : Int) - (bl : Int) = (pd : Int) := by have := HLE.out; omega
        have v2 : wrap64 (pd : Int) = (pd : Int) := by have := HLE.out; unfold wrap64; omega
        have BN : Blk (w4.alloc (.cells #[.int .i64 (pa : Int), .int .i64 (pb : Int)] 130)).drew w4.heap.size 130 #[.int .i64 (pa : Int), .int .i64 (pb : Int)] := Blk.new w4 _ _
        have n0 := BN.cell 0
        have n1 := BN.cell 1
        rw [HBL.out.symm]
        clear BN hpd EB FIN KC LAST
        go_wp2_with (first
          | (guard_target =~ wpList _ _ _ (Oper.mk none (Op.store _ _ _) _ _ _ _ :: _) _ _; go_must (refine wpList_store_rowTo rfl 38 (.tmp 4) (.tmp 44) rfl rfl (w.heap.size + 1) #[.int .i64 (pa : Int), .int .i64 (pd : Int), .int .i64 (bl : Int)] rfl rfl 38 _ BP5.out (sizePl.trans rfl) rfl (by simp [Value.oneCell']) ?_)))
        refine bodyPost_ret (results_cellP rfl _ _ (w.heap.size + 1) 38 _ (0, 0) _ rfl (setRow_heap _ _ _ _ _ _ BP5.out) UP.out rfl (sizePl.trans rfl)) rfl ?_
        exact ⟨gf, GF.out, by rw [EB2.out]; rfl, by rw [EB2.out]; exact FN5.out _⟩
    · have b1 : (e1 != 0) = true := by simpa using z1
      have EB := Lib.hid (show appendR (0, bb) M S (R gf) = ((0, 0, 0), e1, M4, S4) by rw [EA.out, if_pos z1])
      clear z1
      go_wp2_with (first
        | (guard_target =~ wpList _ _ _ (Oper.mk none (Op.store _ _ _) _ _ _ _ :: _) _ _; go_must (refine wpList_store_rowTo rfl 38 (.tmp 4) (.tmp 25) rfl rfl (w.heap.size + 1) #[.int .i64 0, .int .i64 0, .int .i64 0] rfl rfl 38 _ (BP4.out) (sizePl.trans rfl) rfl (by simp [Value.oneCell']) ?_)))
      refine bodyPost_ret (results_cellP rfl _ _ (w.heap.size + 1) 38 _ (0, 0) _ rfl (setRow_heap w4 _ _ _ _ _ BP4.out) UP.out rfl (sizePl.trans rfl)) rfl ?_
      exact ⟨gf, GF.out, by rw [EB.out]; rfl, by rw [EB.out]; exact FIN.out _⟩
  · have b1 : (e0 == 0) = false := by simpa using z0
    have b2 : (e0 != 0) = true := by simpa using z0
    have EB := Lib.hid (fun r => show appendR (e0, bb) M S r = ((0, 0, 0), e0, M, S) by unfold appendR; rw [if_pos z0])
    clear z0
    go_wp2_with (first
      | (guard_target =~ wpList _ _ _ (Oper.mk (some 14) _ _ _ _ _ :: _) _ _; go_must (refine load_rowG (by kernel_rfl) 48 (.tmp 3) rfl w.heap.size rfl 48 ent (0, 0) _ HBE.out Tryz.underlying48 rfl (by rw [sizeEnt0, HES.out]) ?_))
      | (go_at_call 63; refine WK.out.mono ?_; rintro e w2 ⟨rfl, rfl⟩)
      | (go_at_call 96; refine EN.out.mono ?_; rintro e w3 ⟨⟨v3, rfl, o3⟩, s3⟩; obtain ⟨A3, c3, rfl, f1, f2, f3⟩ := own_form o3; have O3 := Lib.hid o3; have S3 := Lib.hid s3; clear o3 s3 f3)
      | (guard_target =~ wpList _ _ _ (Oper.mk none (Op.store _ _ _) _ _ _ _ :: _) _ _; go_must (refine wpList_store_rowTo rfl 38 (.tmp 4) (.tmp 25) rfl rfl (w.heap.size + 1) #[.int .i64 0, .int .i64 0, .int .i64 0] rfl rfl 38 _ (HBP.out.still S3.out) (sizePl.trans rfl) rfl (by simp [Value.oneCell']) ?_)))
    obtain ⟨gf, hgf⟩ := (⟨_, HFR.out⟩ : ∃ gf, M.fs gf = none)
    refine bodyPost_ret (results_cellP rfl _ _ (w.heap.size + 1) 38 _ (0, 0) _ rfl (setRow_heap w3 _ _ _ _ _ (HBP.out.still S3.out)) UP.out rfl (sizePl.trans rfl)) rfl ?_
    exact ⟨gf, hgf, by rw [EB.out]; rfl, by rw [EB.out]; exact LLeft.still HLW.out (below_setRow (Still.trans HAB.out S3.out) (by omega) _)⟩
end Go.Proofs.YtblgphfdicffcaaGreatDoor

/- Contracts: a log that no call made. It proves no statement. -/

namespace Go.Proofs.YtblgphfdicffcaaGreatDoor
open Go.RowKit Go.Maps Go.WideMaps Go.Sort
set_option linter.unusedVariables false
set_option linter.unusedSimpArgs false

/-- A log that no call made: nil, or a struct of noughts. -/
def NoLog (w : World) (P : Value) : Prop := P = .pointer none ∨ ∃ gl, P = .pointer (some ⟨gl, 0, none⟩) ∧ Blk w gl 103 #[.pointer none, .int .i64 0, .slice none 0 0, .int .i64 0, .bool false]
theorem NoLog.still {w w' : World} {P : Value} (h : NoLog w P) (s : Still w w') : NoLog w' P := by
  rcases h with h | ⟨g, h, hb⟩
  · exact .inl h
  · exact .inr ⟨g, h, hb.still s⟩
theorem lworks_no (P : Value) (w : World) (h : NoLog w P) : Calls Tryz.prog 63 #[P] w fun e w' => e = .returned (.bool false) ∧ w = w' := by
  rcases h with rfl | ⟨g, rfl, hb⟩
  · go_enter Tryz.func63, Tryz.ntmps63
    go_wp2_with fail
    go_ret
    exact ⟨rfl, rfl⟩
  · have c0 : w.cell? ⟨g, 0, none⟩ = some (.pointer none) := hb.cell 0
    clear hb
    go_enter Tryz.func63, Tryz.ntmps63
    go_wp2_with fail
    go_ret
    exact ⟨rfl, rfl⟩
theorem lfind_no (P : Value) (n : Int) (w : World) (h : NoLog w P) : Calls Tryz.prog 59 #[P, .int .i64 n] w fun e w' => e = .returned (.tuple #[.int .i64 0, .int .i64 1]) ∧ w = w' := by
  have HW := Lib.hid (lworks_no P w h)
  clear h
  go_enter Tryz.func59, Tryz.ntmps59
  go_wp2_with fail
  refine HW.out.mono ?_
  rintro e w1 ⟨rfl, rfl⟩
  go_wp2_with fail
  go_ret2
  exact ⟨rfl, rfl⟩
theorem lremove_no (P : Value) (n : Int) (w : World) (h : NoLog w P) : Calls Tryz.prog 43 #[P, .int .i64 n] w fun e w' => e = .returned (.int .i64 1) ∧ w = w' := by
  have HW := Lib.hid (lfind_no P n w h)
  clear h
  go_enter Tryz.func43, Tryz.ntmps43
  go_wp2_with fail
  refine HW.out.mono ?_
  rintro e w1 ⟨rfl, rfl⟩
  go_wp2_with fail
  go_ret
  exact ⟨rfl, rfl⟩
theorem lsync_no (P : Value) (w : World) (h : NoLog w P) : Calls Tryz.prog 72 #[P] w fun e w' => e = .returned (.int .i64 1) ∧ w = w' := by
  have HW := Lib.hid (lworks_no P w h)
  clear h
  go_enter Tryz.func72, Tryz.ntmps72
  go_wp2_with fail
  refine HW.out.mono ?_
  rintro e w1 ⟨rfl, rfl⟩
  go_wp2_with fail
  go_ret
  exact ⟨rfl, rfl⟩
theorem lnext_no (P : Value) (w : World) (h : NoLog w P) : Calls Tryz.prog 214 #[P] w fun e w' => e = .returned (.int .i64 0) ∧ w = w' := by
  have HW := Lib.hid (lworks_no P w h)
  clear h
  go_enter Tryz.func214, Tryz.ntmps214
  go_wp2_with fail
  refine HW.out.mono ?_
  rintro e w1 ⟨rfl, rfl⟩
  go_wp2_with fail
  go_ret
  exact ⟨rfl, rfl⟩
theorem lsegments_no (P : Value) (w : World) (h : NoLog w P) : Calls Tryz.prog 19 #[P] w fun e w' => e = .returned (.slice none 0 0) ∧ w = w' := by
  have HW := Lib.hid (lworks_no P w h)
  clear h
  go_enter Tryz.func19, Tryz.ntmps19
  go_wp2_with fail
  refine HW.out.mono ?_
  rintro e w1 ⟨rfl, rfl⟩
  go_wp2_with fail
  go_ret
  exact ⟨rfl, rfl⟩
theorem lsize_no (P : Value) (n : Int) (w : World) (h : NoLog w P) : Calls Tryz.prog 24 #[P, .int .i64 n] w fun e w' => e = .returned (.int .i64 0) ∧ w = w' := by
  have HW := Lib.hid (lfind_no P n w h)
  clear h
  go_enter Tryz.func24, Tryz.ntmps24
  go_wp2_with fail
  refine HW.out.mono ?_
  rintro e w1 ⟨rfl, rfl⟩
  go_wp2_with fail
  go_ret
  exact ⟨rfl, rfl⟩
theorem lbytes_no (P : Value) (n : Int) (w : World) (h : NoLog w P) : Calls Tryz.prog 89 #[P, .int .i64 n] w fun e w' => e = .returned (.tuple #[.slice none 0 0, .int .i64 1]) ∧ w = w' := by
  have HW := Lib.hid (lfind_no P n w h)
  clear h
  go_enter Tryz.func89, Tryz.ntmps89
  go_wp2_with fail
  refine HW.out.mono ?_
  rintro e w1 ⟨rfl, rfl⟩
  go_wp2_with fail
  go_ret2
  exact ⟨rfl, rfl⟩
theorem zeroEnt : (Tryz.prog.info? 48).map (fun i => (i.zero, i.size)) = some (some (.agg #[.int .i64 0, .int .u8 0, .int .u8 0, .int .u8 0, .int .u8 0, .int .u8 0, .int .u8 0, .int .u8 0, .int .u8 0, .int .u8 0, .int .u8 0, .int .u8 0, .int .u8 0, .int .u8 0, .int .u8 0, .int .u8 0, .int .u8 0, .int .u8 0, .int .u8 0, .int .u8 0, .int .u8 0, .int .u8 0, .int .u8 0, .int .u8 0, .int .u8 0, .int .u8 0, .int .u8 0, .int .u8 0, .int .u8 0, .int .u8 0, .int .u8 0, .int .u8 0, .int .u8 0, .slice none 0 0]), 34) := by kernel_rfl
set_option maxRecDepth 100000 in
set_option maxHeartbeats 1600000 in
theorem lappend_no (P : Value) (ent : Array Value) (w : World) (h : NoLog w P) : Calls Tryz.prog 38 #[P, .agg ent] w fun e w' => e = .returned (.tuple #[.agg #[.int .i64 0, .int .i64 0, .int .i64 0], .int .i64 1]) ∧ Still w w' := by
  obtain ⟨wA, hwA⟩ : ∃ wA, wA = w.alloc (.cells ent 48) := ⟨_, rfl⟩
  obtain ⟨wB, hwB⟩ : ∃ wB, wB = wA.alloc (.cells #[.int .i64 0, .int .i64 0, .int .i64 0] 38) := ⟨_, rfl⟩
  have SA : Still w wA := by rw [hwA]; exact (Still.refl w).alloc (Nat.le_refl _) _
  have hsA : wA.heap.size = w.heap.size + 1 := by rw [hwA]; simp
  have SB : Still wA wB := by rw [hwB]; exact (Still.refl wA).alloc (Nat.le_refl _) _
  have BP : Blk wB (w.heap.size + 1) 38 #[.int .i64 0, .int .i64 0, .int .i64 0] := by rw [hwB, ← hsA]; exact Blk.new _ _ _
  have SAB := Lib.hid (Still.trans SA SB)
  have WK := Lib.hid (lworks_no P wB (h.still SAB.out))
  have HBP := Lib.hid BP
  have HSA := Lib.hid hsA
  have HWA := Lib.hid hwA
  have HWB := Lib.hid hwB
  have UP := Lib.hid (show Tryz.prog.underlying 38 = some _ from Tryz.underlying38)
  clear h hwA hwB SA SB hsA BP
  go_enter Tryz.func38, Tryz.ntmps38
  go_wp2_with (first
    | (guard_target =~ wpList _ _ _ (Oper.mk (some 3) _ _ _ _ _ :: _) _ _; go_must (refine wpList_box_val rfl 48 (.tmp 1) rfl (some 3) rfl ent rfl ?_); rw [← HWA.out])
    | (guard_target =~ wpList _ _ _ (Oper.mk (some 4) _ _ _ _ _ :: _) _ _; go_must (refine wpList_alloc_arr rfl 38 rfl (some 4) rfl #[.int .i64 0, .int .i64 0, .int .i64 0] 3 zeroPl ?_); rw [← HWB.out, HSA.out])
    | (go_at_call 63; refine WK.out.mono ?_; rintro e w2 ⟨rfl, rfl⟩)
    | (guard_target =~ wpList _ _ _ (Oper.mk none (Op.store _ _ _) _ _ _ _ :: _) _ _; go_must (refine wpList_store_rowTo rfl 38 (.tmp 4) (.tmp 12) rfl rfl (w.heap.size + 1) #[.int .i64 0, .int .i64 0, .int .i64 0] rfl rfl 38 _ HBP.out (sizePl.trans rfl) rfl (by simp [Value.oneCell']) ?_)))
  refine bodyPost_ret (results_cellP rfl _ _ (w.heap.size + 1) 38 _ (0, 0) _ rfl (setRow_heap _ _ _ _ _ _ HBP.out) UP.out rfl (sizePl.trans rfl)) rfl ?_
  exact ⟨rfl, below_setRow SAB.out (by omega) _⟩
set_option maxRecDepth 100000 in
set_option maxHeartbeats 1600000 in
theorem lcommit_no (P : Value) (w : World) (h : NoLog w P) : Calls Tryz.prog 44 #[P] w fun e w' => e = .returned (.tuple #[.int .i64 0, .int .i64 1]) ∧ Still w w' := by
  have AP := Lib.hid (fun ent => lappend_no P ent w h)
  clear h
  go_enter Tryz.func44, Tryz.ntmps44
  go_wp2_with (first
    | (go_at_call 38; refine (AP.out _).mono ?_; rintro e w2 ⟨rfl, s2⟩; have S2 := Lib.hid s2; clear s2)
    | (guard_target =~ wpList _ _ _ (Oper.mk (some 4) (Op.alloc _) _ _ _ _ :: _) _ _; go_must (refine wpList_alloc_arr rfl 38 rfl (some 4) rfl #[.int .i64 0, .int .i64 0, .int .i64 0] 3 zeroPl ?_))
    | (guard_target =~ wpList _ _ _ (Oper.mk none (Op.store _ _ _) _ _ _ _ :: _) _ _; go_must (refine wpList_store_rowTo rfl 38 (.tmp 4) (.tmp 10) rfl rfl w2.heap.size #[.int .i64 0, .int .i64 0, .int .i64 0] rfl rfl 38 _ (Blk.new w2 _ _) (sizePl.trans rfl) rfl (by simp [Value.oneCell']) ?_)))
  go_ret2
  exact ⟨rfl, below_setRow (S2.out.alloc S2.out.size _) S2.out.size _⟩
set_option maxRecDepth 100000 in
set_option maxHeartbeats 1600000 in
theorem lread_no (P : Value) (x y z : Int) (w : World) (h : NoLog w P) : Calls Tryz.prog 17 #[P, .agg #[.int .i64 x, .int .i64 y, .int .i64 z]] w fun e w' => e = .returned (.tuple #[.agg #[.int .i64 0, .int .u8 0, .int .u8 0, .int .u8 0, .int .u8 0, .int .u8 0, .int .u8 0, .int .u8 0, .int .u8 0, .int .u8 0, .int .u8 0, .int .u8 0, .int .u8 0, .int .u8 0, .int .u8 0, .int .u8 0, .int .u8 0, .int .u8 0, .int .u8 0, .int .u8 0, .int .u8 0, .int .u8 0, .int .u8 0, .int .u8 0, .int .u8 0, .int .u8 0, .int .u8 0, .int .u8 0, .int .u8 0, .int .u8 0, .int .u8 0, .int .u8 0, .int .u8 0, .slice none 0 0], .int .i64 1]) ∧ Still w w' := by
  obtain ⟨wA, hwA⟩ : ∃ wA, wA = w.alloc (.cells #[.int .i64 x, .int .i64 y, .int .i64 z] 38) := ⟨_, rfl⟩
  obtain ⟨wB, hwB⟩ : ∃ wB, wB = wA.alloc (.cells #[.int .i64 0, .int .u8 0, .int .u8 0, .int .u8 0, .int .u8 0, .int .u8 0, .int .u8 0, .int .u8 0, .int .u8 0, .int .u8 0, .int .u8 0, .int .u8 0, .int .u8 0, .int .u8 0, .int .u8 0, .int .u8 0, .int .u8 0, .int .u8 0, .int .u8 0, .int .u8 0, .int .u8 0, .int .u8 0, .int .u8 0, .int .u8 0, .int .u8 0, .int .u8 0, .int .u8 0, .int .u8 0, .int .u8 0, .int .u8 0, .int .u8 0, .int .u8 0, .int .u8 0, .slice none 0 0] 48) := ⟨_, rfl⟩
  have SA : Still w wA := by rw [hwA]; exact (Still.refl w).alloc (Nat.le_refl _) _
  have hsA : wA.heap.size = w.heap.size + 1 := by rw [hwA]; simp
  have SB : Still wA wB := by rw [hwB]; exact (Still.refl wA).alloc (Nat.le_refl _) _
  have BA : Blk wA w.heap.size 38 #[.int .i64 x, .int .i64 y, .int .i64 z] := by rw [hwA]; exact Blk.new _ _ _
  have BP : Blk wB (w.heap.size + 1) 48 #[.int .i64 0, .int .u8 0, .int .u8 0, .int .u8 0, .int .u8 0, .int .u8 0, .int .u8 0, .int .u8 0, .int .u8 0, .int .u8 0, .int .u8 0, .int .u8 0, .int .u8 0, .int .u8 0, .int .u8 0, .int .u8 0, .int .u8 0, .int .u8 0, .int .u8 0, .int .u8 0, .int .u8 0, .int .u8 0, .int .u8 0, .int .u8 0, .int .u8 0, .int .u8 0, .int .u8 0, .int .u8 0, .int .u8 0, .int .u8 0, .int .u8 0, .int .u8 0, .int .u8 0, .slice none 0 0] := by rw [hwB, ← hsA]; exact Blk.new _ _ _
  have k0 := (BA.still SB).cell 0
  have SAB := Lib.hid (Still.trans SA SB)
  have WK := Lib.hid (fun n => lfind_no P n wB (h.still SAB.out))
  have HBP := Lib.hid BP
  have HSA := Lib.hid hsA
  have HWA := Lib.hid hwA
  have HWB := Lib.hid hwB
  obtain ⟨fs, hu⟩ := underEnt
  have HU := Lib.hid hu
  clear h hwA hwB SA SB hsA BP BA hu
  go_enter Tryz.func17, Tryz.ntmps17
  go_wp2_with (first
    | (guard_target =~ wpList _ _ _ (Oper.mk (some 3) _ _ _ _ _ :: _) _ _; go_must (refine wpList_box_val rfl 38 (.tmp 1) rfl (some 3) rfl #[.int .i64 x, .int .i64 y, .int .i64 z] rfl ?_); rw [← HWA.out])
    | (guard_target =~ wpList _ _ _ (Oper.mk (some 4) _ _ _ _ _ :: _) _ _; go_must (refine wpList_alloc_arr rfl 48 rfl (some 4) rfl #[.int .i64 0, .int .u8 0, .int .u8 0, .int .u8 0, .int .u8 0, .int .u8 0, .int .u8 0, .int .u8 0, .int .u8 0, .int .u8 0, .int .u8 0, .int .u8 0, .int .u8 0, .int .u8 0, .int .u8 0, .int .u8 0, .int .u8 0, .int .u8 0, .int .u8 0, .int .u8 0, .int .u8 0, .int .u8 0, .int .u8 0, .int .u8 0, .int .u8 0, .int .u8 0, .int .u8 0, .int .u8 0, .int .u8 0, .int .u8 0, .int .u8 0, .int .u8 0, .int .u8 0, .slice none 0 0] 34 zeroEnt ?_); rw [← HWB.out, HSA.out])
    | (go_at_call 59; refine (WK.out _).mono ?_; rintro e w2 ⟨rfl, rfl⟩)
    | (guard_target =~ wpList _ _ _ (Oper.mk none (Op.store _ _ _) _ _ _ _ :: _) _ _; go_must (refine wpList_store_rowTo rfl 48 (.tmp 4) (.tmp 37) rfl rfl (w.heap.size + 1) #[.int .i64 0, .int .u8 0, .int .u8 0, .int .u8 0, .int .u8 0, .int .u8 0, .int .u8 0, .int .u8 0, .int .u8 0, .int .u8 0, .int .u8 0, .int .u8 0, .int .u8 0, .int .u8 0, .int .u8 0, .int .u8 0, .int .u8 0, .int .u8 0, .int .u8 0, .int .u8 0, .int .u8 0, .int .u8 0, .int .u8 0, .int .u8 0, .int .u8 0, .int .u8 0, .int .u8 0, .int .u8 0, .int .u8 0, .int .u8 0, .int .u8 0, .int .u8 0, .int .u8 0, .slice none 0 0] rfl rfl 48 _ HBP.out (sizeEnt0.trans rfl) rfl (by simp [Value.oneCell']) ?_)))
  refine bodyPost_ret (results_cellP rfl _ _ (w.heap.size + 1) 48 _ (0, 0) _ rfl (setRow_heap _ _ _ _ _ _ HBP.out) HU.out rfl (sizeEnt0.trans rfl)) rfl ?_
  exact ⟨rfl, below_setRow SAB.out (by omega) _⟩
/-- The medium's own nil. -/
theorem msize_nil (s : ByteArray) (w : World) : Calls Tryz.prog 67 #[.pointer none, .string s] w fun e w' => e = .returned (.tuple #[.int .i64 0, .int .i64 1]) ∧ w = w' := by
  have HW : Calls Tryz.prog 99 #[.pointer none] w fun e w' => e = .returned (.int .i64 1) ∧ w = w' := by
    go_enter Tryz.func99, Tryz.ntmps99
    go_wp2
    go_ret
    exact ⟨rfl, rfl⟩
  have HW := Lib.hid HW
  have HF : Calls Tryz.prog 117 #[.pointer none, .string s] w fun e w' => e = .returned (.tuple #[.pointer none, .int .i64 1]) ∧ w = w' := by
    go_enter Tryz.func117, Tryz.ntmps117
    go_wp2_with fail
    refine HW.out.mono ?_
    rintro e w1 ⟨rfl, rfl⟩
    go_wp2_with fail
    go_ret2
    exact ⟨rfl, rfl⟩
  have HF := Lib.hid HF
  clear HW
  go_enter Tryz.func67, Tryz.ntmps67
  go_wp2_with fail
  refine HF.out.mono ?_
  rintro e w1 ⟨rfl, rfl⟩
  go_wp2_with fail
  go_ret2
  exact ⟨rfl, rfl⟩
theorem open_nil (limit : Int) (w : World) : Calls Tryz.prog 28 #[.pointer none, .int .i64 limit] w fun e w' => e = .returned (.tuple #[.pointer none, .int .i64 1]) ∧ w = w' := by
  have HF := Lib.hid (msize_nil ⟨#[]⟩ w)
  go_enter Tryz.func28, Tryz.ntmps28
  go_wp2_with fail
  refine HF.out.mono ?_
  rintro e w1 ⟨rfl, rfl⟩
  go_wp2_with fail
  go_ret2
  exact ⟨rfl, rfl⟩
end Go.Proofs.YtblgphfdicffcaaGreatDoor

/- Contract: where a segment stands. It proves no statement. -/


namespace Go.Proofs.YtblgphfdicffcaaGreatDoor
open Go.RowKit Go.Maps Go.WideMaps Go.Sort
set_option linter.unusedVariables false
set_option linter.unusedSimpArgs false

def cmpI (x y : Int) : Int := if x < y then -1 else if y < x then 1 else 0
theorem cnan_any (x : Int) (w : World) : Calls Tryz.prog 169 #[.int .i64 x] w fun e w' => e = .returned (.bool false) ∧ w = w' := by
  go_enter Tryz.func169, Tryz.ntmps169
  go_wp2_with fail
  go_ret
  exact ⟨by simp, rfl⟩
set_option maxRecDepth 100000 in
theorem ccmp_any (x y : Int) (w : World) : Calls Tryz.prog 116 #[.int .i64 x, .int .i64 y] w fun e w' => e = .returned (.int .i64 (cmpI x y)) ∧ w = w' := by
  unfold cmpI
  by_cases h : x < y
  · rw [if_pos h]
    go_enter Tryz.func116, Tryz.ntmps116
    go_wp2_with fail
    refine (cnan_any x w).mono ?_
    rintro e w1 ⟨rfl, rfl⟩
    go_wp2_with fail
    refine (cnan_any y w).mono ?_
    rintro e w1 ⟨rfl, rfl⟩
    go_wp2_with fail
    go_ret
    exact ⟨rfl, rfl⟩
  · rw [if_neg h]
    by_cases h2 : y < x
    · rw [if_pos h2]
      go_enter Tryz.func116, Tryz.ntmps116
      go_wp2_with fail
      refine (cnan_any x w).mono ?_
      rintro e w1 ⟨rfl, rfl⟩
      go_wp2_with fail
      refine (cnan_any y w).mono ?_
      rintro e w1 ⟨rfl, rfl⟩
      go_wp2_with fail
      go_ret
      exact ⟨rfl, rfl⟩
    · rw [if_neg h2]
      go_enter Tryz.func116, Tryz.ntmps116
      go_wp2_with fail
      refine (cnan_any x w).mono ?_
      rintro e w1 ⟨rfl, rfl⟩
      go_wp2_with fail
      refine (cnan_any y w).mono ?_
      rintro e w1 ⟨rfl, rfl⟩
      go_wp2_with fail
      go_ret
      exact ⟨rfl, rfl⟩
/-- What find's own function answers: a segment's number beside n. -/
theorem fcmp_any (a z n : Int) (w : World) : Calls Tryz.prog 115 #[.agg #[.int .i64 a, .int .i64 z], .int .i64 n] w fun e w' => e = .returned (.int .i64 (cmpI a n)) ∧ Still w w' := by
  have CC := Lib.hid (fun W => ccmp_any a n W)
  obtain ⟨wA, hwA⟩ : ∃ wA, wA = w.alloc (.cells #[.int .i64 a, .int .i64 z] 130) := ⟨_, rfl⟩
  have SA := Lib.hid (show Still w wA by rw [hwA]; exact (Still.refl w).alloc (Nat.le_refl _) _)
  have BA : Blk wA w.heap.size 130 #[.int .i64 a, .int .i64 z] := by rw [hwA]; exact Blk.new _ _ _
  have k0 := BA.cell 0
  have HWA := Lib.hid hwA
  clear hwA BA
  go_enter Tryz.func115, Tryz.ntmps115
  go_upto_region 1 with (guard_target =~ wpList _ _ _ (Oper.mk (some 2) (Op.box _ _) _ _ _ _ :: _) _ _; go_must (refine wpList_box_val rfl 130 (.tmp 0) rfl (some 2) rfl #[.int .i64 a, .int .i64 z] rfl ?_); rw [← HWA.out])
  go_wp2_with fail
  refine (CC.out _).mono ?_
  rintro e w1 ⟨rfl, rfl⟩
  go_wp2_with fail
  go_ret
  exact ⟨rfl, SA.out⟩
def bsF : Value := .func (.func 115) #[] #[]
/-- The row of the segments in memory. -/
structure SegR (w : World) (A : Option Addr) (n c : Nat) (X : List (Nat × Nat)) : Prop where
  len : X.length = n
  fit : n ≤ c
  cap : c ≤ 9223372036854775807
  at_ : ∀ (i : Nat) (p : Nat × Nat), X[i]? = some p → ∃ b, A = some ⟨b, 0, none⟩ ∧ b < w.heap.size ∧ w.rangeAt b (i * 2) [.int .i64 (p.1 : Int), .int .i64 (p.2 : Int)]
theorem SegR.still {w w' : World} {A : Option Addr} {n c : Nat} {X : List (Nat × Nat)} (h : SegR w A n c X) (s : Still w w') : SegR w' A n c X :=
  ⟨h.len, h.fit, h.cap, fun i p hp => by
    obtain ⟨b, e, hb, hr⟩ := h.at_ i p hp
    exact ⟨b, e, Nat.lt_of_lt_of_le hb s.size, fun j u hj => (s.cell (p := ⟨b, i * 2 + j, none⟩) hb).trans (hr j u hj)⟩⟩
theorem LogI.segR {w : World} {base g gl : Nat} {lo : LOwn} {S : Lg} {sv : Value} (h : LogI w base lo g gl S sv) : ∃ A c, sv = .slice A S.segs.length c ∧ SegR w A S.segs.length c S.segs := by
  obtain ⟨A, c, e, h1, h2, h3⟩ := h.form
  refine ⟨A, c, e, rfl, h1, h2, fun i p hp => ?_⟩
  obtain ⟨b, eA, hb, d1, d2⟩ := h3 i p hp
  refine ⟨b, eA, (h.dom b (by rw [hb]; simp)).2, fun j u hj => ?_⟩
  match j, hj with
  | 0, hj => obtain rfl : _ = u := by simpa using hj
             exact d1
  | 1, hj => obtain rfl : _ = u := by simpa using hj
             exact d2
  | j + 2, hj => simp at hj
theorem sizeSeg : (Tryz.prog.info? 130).map (·.size) = some 2 := by kernel_rfl
set_option maxRecDepth 100000 in
set_option maxHeartbeats 6400000 in
theorem bs_any {w : World} {A : Option Addr} {n c : Nat} {X : List (Nat × Nat)} (t : Int) (h : SegR w A n c X) (hn : n ≤ 1048577) (rise : X.Pairwise fun p q => p.1 < q.1) :
    Calls Tryz.prog 114 #[.slice A n c, .int .i64 t, bsF] w fun e w' => ∃ (i : Nat) (b : Bool), e = .returned (.tuple #[.int .i64 (i : Int), .bool b]) ∧ Still w w' ∧ (b = false → ∀ p ∈ X, (p.1 : Int) ≠ t) ∧ (b = true → ∃ p, X[i]? = some p ∧ (p.1 : Int) = t) := by
  have HR := Lib.hid (fun W (s : Still w W) => h.still s)
  have HN := Lib.hid hn
  have RS := Lib.hid rise
  have FC := Lib.hid (fun a z W => fcmp_any a z t W)
  have US := Lib.hid (show Tryz.prog.underlying 130 = some _ from Tryz.underlying130)
  have hnc := h.fit
  have hcm := h.cap
  have hlen := Lib.hid h.len
  unfold bsF
  clear h hn rise
  go_enter Tryz.func114, Tryz.ntmps114
  go_wp2_with fail
  go_loopw [9, 10] (fun iv jv wr => ∃ i j : Nat, i ≤ j ∧ j ≤ n ∧ iv = .int .i64 i ∧ jv = .int .i64 j ∧ Hid (Still w wr ∧ (∀ k p, k < i → X[k]? = some p → (p.1 : Int) < t) ∧ (∀ k p, j ≤ k → X[k]? = some p → t ≤ (p.1 : Int)))) (fun iv jv _ => (intOf jv).toNat - (intOf iv).toNat)
  case atStart => exact ⟨0, n, Nat.zero_le _, Nat.le_refl _, rfl, rfl, Lib.hid ⟨Still.refl _, fun k p hk => by omega, fun k p hk hp => by have := (List.getElem?_eq_some_iff.1 hp).1; have := hlen.out; omega⟩⟩
  case round =>
    obtain ⟨i, j, hij, hj, rfl, rfl, hh⟩ := hrel
    by_cases hlt : i < j
    · obtain ⟨q, hq⟩ : ∃ q, q = (i + j) / 2 := ⟨_, rfl⟩
      have hqn : q < n := by omega
      obtain ⟨p, hp⟩ : ∃ p, X[q]? = some p := ⟨_, List.getElem?_eq_getElem (by have := hlen.out; omega)⟩
      have e1 : wrap64 ((i : Int) + (j : Int)) = (i : Int) + (j : Int) := by have := HN.out; unfold wrap64; omega
      have e2 : IntKind.u64.wrap ((i : Int) + (j : Int)) = (i : Int) + (j : Int) := by have := HN.out; rw [IntKind.wrap_u64]; omega
      have e3 : wrap64 (((i : Int) + (j : Int)) / 2) = (q : Int) := by have := HN.out; unfold wrap64; omega
      have EE := Lib.hid (And.intro e1 (And.intro e2 e3))
      clear e1 e2 e3
      obtain ⟨b, hA, hb, rng⟩ := (HR.out _ hh.out.1).at_ q p hp
      subst hA
      have RNG := Lib.hid rng
      have RNG1 := Lib.hid (show ∀ k u, X[k]? = some u → k ≤ q → u.1 ≤ p.1 from fun k u hk hkq => by
        by_cases hkk : k = q
        · subst hkk; rw [hp] at hk; injection hk with hk; rw [hk]; omega
        · obtain ⟨k1, e1⟩ := List.getElem?_eq_some_iff.1 hk
          obtain ⟨k2, e2⟩ := List.getElem?_eq_some_iff.1 hp
          have := List.pairwise_iff_getElem.1 RS.out k q k1 k2 (by omega)
          rw [e1, e2] at this
          omega)
      have RNG2 := Lib.hid (show ∀ k u, X[k]? = some u → q ≤ k → p.1 ≤ u.1 from fun k u hk hkq => by
        by_cases hkk : k = q
        · subst hkk; rw [hp] at hk; injection hk with hk; rw [hk]; omega
        · obtain ⟨k1, e1⟩ := List.getElem?_eq_some_iff.1 hk
          obtain ⟨k2, e2⟩ := List.getElem?_eq_some_iff.1 hp
          have := List.pairwise_iff_getElem.1 RS.out q k k2 k1 (by omega)
          rw [e1, e2] at this
          omega)
      have HIJ := Lib.hid (show i ≤ q ∧ q < j from by omega)
      obtain ⟨pa, hpa⟩ : ∃ pa, pa = p.1 := ⟨_, rfl⟩
      obtain ⟨pb, hpb⟩ : ∃ pb, pb = p.2 := ⟨_, rfl⟩
      rw [← hpa, ← hpb] at RNG
      rw [← hpa] at RNG1 RNG2
      have S1 := Lib.hid hh.out.1
      have H2 := Lib.hid hh.out.2
      have z3 : (0 : Int) ≤ (q : Int) := by omega
      have z4 : (q : Int) < (n : Int) := by omega
      clear hp hb rng hq hpa hpb hh hqn hij
      go_upto_region 5 with fail
      rw [EE.out.1, EE.out.2.1, EE.out.2.2]
      go_wp2_with (guard_target =~ wpList _ _ _ (Oper.mk (some 28) _ _ _ _ _ :: _) _ _; go_must (refine wpList_load_mid rfl 130 (.tmp 27) rfl b (q * 2) rfl [.int .i64 (pa : Int), .int .i64 (pb : Int)] _ RNG.out US.out rfl sizeSeg ?_))
      refine (FC.out _ _ _).mono ?_
      rintro e w1 ⟨rfl, s1⟩
      have S2 := Lib.hid (Still.trans S1.out s1)
      clear s1
      by_cases hc1 : (pa : Int) < t
      · have ec : cmpI (pa : Int) t = -1 := by unfold cmpI; rw [if_pos hc1]
        rw [ec]
        have NX := Lib.hid (show Still w w1 ∧ (∀ k p, k < q + 1 → X[k]? = some p → (p.1 : Int) < t) ∧ (∀ k p, j ≤ k → X[k]? = some p → t ≤ (p.1 : Int)) from ⟨S2.out, fun k u hk hu => by have := RNG1.out k u hu (by omega); omega, H2.out.2⟩)
        clear ec hc1
        go_wp2_with fail
        go_roundw
        case rel => exact ⟨q + 1, j, by have := HIJ.out; omega, hj, by go_num, rfl, NX⟩
        case measure => simp [intOf]; have := HIJ.out; omega
      · have ec : ¬ (cmpI (pa : Int) t < 0) := by unfold cmpI; rw [if_neg hc1]; split <;> omega
        obtain ⟨cv, hcv⟩ : ∃ cv, cv = cmpI (pa : Int) t := ⟨_, rfl⟩
        rw [← hcv] at ec ⊢
        have NX := Lib.hid (show Still w w1 ∧ (∀ k p, k < i → X[k]? = some p → (p.1 : Int) < t) ∧ (∀ k p, q ≤ k → X[k]? = some p → t ≤ (p.1 : Int)) from ⟨S2.out, H2.out.1, fun k u hk hu => by have := RNG2.out k u hu (by omega); omega⟩)
        clear hc1 hcv
        go_wp2_with fail
        go_roundw
        case rel => exact ⟨i, q, HIJ.out.1, by have := HIJ.out; omega, rfl, rfl, NX⟩
        case measure => simp [intOf]; have := HIJ.out; omega
    · obtain rfl : i = j := by omega
      by_cases hin : i < n
      · obtain ⟨p, hp⟩ : ∃ p, X[i]? = some p := ⟨_, List.getElem?_eq_getElem (by have := hlen.out; omega)⟩
        obtain ⟨b, hA, hb, rng⟩ := (HR.out _ hh.out.1).at_ i p hp
        subst hA
        have RNG := Lib.hid rng
        have hge := hh.out.2.2 i p (Nat.le_refl _) hp
        have OUT := Lib.hid (show (¬ (p.1 : Int) = t → ∀ u ∈ X, (u.1 : Int) ≠ t) ∧ ((p.1 : Int) = t → ∃ u, X[i]? = some u ∧ (u.1 : Int) = t) from ⟨fun hne u hu e => by
          obtain ⟨k, hk⟩ := List.mem_iff_getElem?.1 hu
          by_cases hki : k < i
          · have := hh.out.2.1 k u hki hk; omega
          · by_cases hkk : k = i
            · subst hkk; rw [hp] at hk; injection hk with hk; rw [hk] at hne; exact hne e
            · obtain ⟨k1, e1⟩ := List.getElem?_eq_some_iff.1 hk
              obtain ⟨k2, e2⟩ := List.getElem?_eq_some_iff.1 hp
              have := List.pairwise_iff_getElem.1 RS.out i k k2 k1 (by omega)
              rw [e1, e2] at this
              omega, fun e => ⟨p, hp, e⟩⟩)
        obtain ⟨pa, hpa⟩ : ∃ pa, pa = p.1 := ⟨_, rfl⟩
        obtain ⟨pb, hpb⟩ : ∃ pb, pb = p.2 := ⟨_, rfl⟩
        rw [← hpa, ← hpb] at RNG
        rw [← hpa] at OUT hge
        have S1 := Lib.hid hh.out.1
        have z3 : (0 : Int) ≤ (i : Int) := by omega
        have z4 : (i : Int) < (n : Int) := by omega
        clear hp hb rng hpa hpb hh hlt hij hj
        go_wp2_with (guard_target =~ wpList _ _ _ (Oper.mk (some 44) _ _ _ _ _ :: _) _ _; go_must (refine load_midM (by kernel_rfl) 130 (.tmp 43) rfl b (i * 2) rfl [.int .i64 (pa : Int), .int .i64 (pb : Int)] _ RNG.out US.out rfl sizeSeg ?_))
        refine (FC.out _ _ _).mono ?_
        rintro e w1 ⟨rfl, s1⟩
        have S2 := Lib.hid (Still.trans S1.out s1)
        clear s1
        by_cases hc1 : (pa : Int) = t
        · have ec : cmpI (pa : Int) t = 0 := by unfold cmpI; rw [if_neg (by omega), if_neg (by omega)]
          rw [ec]
          have O2 := Lib.hid (OUT.out.2 hc1)
          clear ec hc1 OUT hge
          go_wp2_with fail
          go_ret2
          exact ⟨i, true, (by first | rfl | trivial), S2.out, fun h => (by cases h), fun _ => O2.out⟩
        · have ec : cmpI (pa : Int) t = 1 := by unfold cmpI; rw [if_neg (by omega), if_pos (by omega)]
          rw [ec]
          have O1 := Lib.hid (OUT.out.1 hc1)
          clear ec hc1 OUT hge
          go_wp2_with fail
          go_ret2
          exact ⟨i, false, (by first | rfl | trivial), S2.out, fun _ => O1.out, fun h => (by cases h)⟩
      · obtain rfl : i = n := by omega
        have S1 := Lib.hid hh.out.1
        have O1 := Lib.hid (show ∀ u ∈ X, (u.1 : Int) ≠ t from fun u hu => by
          obtain ⟨k, hk⟩ := List.mem_iff_getElem?.1 hu
          have h1 := (List.getElem?_eq_some_iff.1 hk).1
          have := hh.out.2.1 k u (by have := hlen.out; omega) hk
          omega)
        clear hh hlt hij hj hin
        go_wp2_with fail
        go_ret2
        exact ⟨i, false, (by first | rfl | trivial), S1.out, fun _ => O1.out, fun h => (by cases h)⟩
/-- Where a segment stands. -/
theorem lfind_any {w : World} {base g gl : Nat} {lo : LOwn} {S : Lg} {sv : Value} (hl : LogI w base lo g gl S sv) (hok : S.ok) (n : Int) :
    Calls Tryz.prog 59 #[.pointer (some ⟨gl, 0, none⟩), .int .i64 n] w fun e w' => Still w w' ∧ (((∀ p ∈ S.segs, (p.1 : Int) ≠ n) ∧ e = .returned (.tuple #[.int .i64 0, .int .i64 9])) ∨ (∃ (i : Nat) (p : Nat × Nat), S.segs[i]? = some p ∧ (p.1 : Int) = n ∧ e = .returned (.tuple #[.int .i64 (i : Int), .int .i64 0]))) := by
  obtain ⟨A, c, hsv, hr⟩ := hl.segR
  have k2 := hl.cells.2.2.1
  rw [hsv] at k2
  have WK := Lib.hid (lworks_any hl)
  have BS := Lib.hid (bs_any n hr (by have := hok.few; omega) hok.rise)
  unfold bsF at BS
  obtain ⟨ml, hml⟩ : ∃ ml, ml = S.segs.length := ⟨_, rfl⟩
  rw [← hml] at k2 BS
  have hnc : ml ≤ c := by rw [hml]; exact hr.fit
  have hcm := hr.cap
  clear hl hok hsv hr hml
  go_enter Tryz.func59, Tryz.ntmps59
  go_wp2_with fail
  refine WK.out.mono ?_
  rintro e w1 ⟨rfl, rfl⟩
  go_wp2_with fail
  refine BS.out.mono ?_
  rintro e w2 ⟨i, b, rfl, s2, h1, h2⟩
  have S2 := Lib.hid s2
  cases b with
  | true =>
    have H := Lib.hid (h2 rfl)
    clear h1 h2 s2
    go_wp2_with fail
    go_ret2
    obtain ⟨p, hp, e⟩ := H.out
    exact ⟨S2.out, .inr ⟨i, p, hp, e, rfl⟩⟩
  | false =>
    have H := Lib.hid (h1 rfl)
    clear h1 h2 s2
    go_wp2_with fail
    go_ret2
    exact ⟨S2.out, .inl ⟨H.out, rfl⟩⟩
end Go.Proofs.YtblgphfdicffcaaGreatDoor

/- Contract: how many bytes a segment's file has. It proves no statement. -/

namespace Go.Proofs.YtblgphfdicffcaaGreatDoor
open Go.RowKit Go.Maps Go.WideMaps Go.Sort
set_option linter.unusedVariables false
set_option linter.unusedSimpArgs false

/-- A segment's size, told anew. -/
def Lg.sized (S : Lg) (i z : Nat) : Lg := { S with segs := S.segs.modify i fun p => (p.1, z) }
def sizeL (M : Me) (S : Lg) (i : Nat) : Nat × Lg := match S.segs[i]? with
  | some p => if (M.bytes (nameS (p.1 : Int))).2 = 12 then (p.2, S) else ((M.bytes (nameS (p.1 : Int))).1.length, S.sized i (M.bytes (nameS (p.1 : Int))).1.length)
  | none => (0, S)
theorem segV_modify : ∀ (X : List (Nat × Nat)) (i z : Nat), i < X.length → segV (X.modify i fun p => (p.1, z)) = (segV X).set (i * 2 + 1) (.int .i64 (z : Int))
  | [], i, z, h => absurd h (by simp)
  | y :: r, 0, z, h => by simp [segV]
  | y :: r, i + 1, z, h => by
    have ih := segV_modify r i z (by simpa using h)
    have e : ∀ (y : Nat × Nat) r, segV (y :: r) = .int .i64 (y.1 : Int) :: .int .i64 (y.2 : Int) :: segV r := fun y r => by simp [segV]
    rw [List.modify_succ_cons, e, e, ih, show (i + 1) * 2 + 1 = (i * 2 + 1) + 1 + 1 by omega, List.set_cons_succ, List.set_cons_succ]
theorem Lg.sized_length (S : Lg) (i z : Nat) : (S.sized i z).segs.length = S.segs.length := by unfold Lg.sized; simp
/-- The size stored. -/
theorem LM.sized {w : World} {base g gl : Nat} {own : Own} {lo : LOwn} {M : Me} {S : Lg} {sv : Value} (h : LM w base g gl own lo M S) (hl : LogI w base lo g gl S sv) {i c bq : Nat} (hi : i < S.segs.length) (hsv : sv = .slice (some ⟨bq, 0, none⟩) S.segs.length c) (z : Nat) :
    w.frozen? ⟨bq, i * 2 + 1, none⟩ = false ∧ LLeft w (w.setCell ⟨bq, i * 2 + 1, none⟩ (.int .i64 (z : Int))) base g gl own lo M (S.sized i z) := by
  subst hsv
  have hne : bq ≠ gl := fun e => own_neM hl.blk hl.row (by decide) (by rw [← e]; rfl)
  have cc := chg_set w bq (i * 2 + 1) (.int .i64 (z : Int))
  refine ⟨hl.row.frozenAt _, h.turn hl (cc.mono (fun b _ e => .inr (by rw [show b = bq from e]; rfl))) (sv' := .slice (some ⟨bq, 0, none⟩) S.segs.length c) (cc.blk hl.blk (fun e => hne e.symm)) ?_ (.inl rfl)⟩
  have := (hl.row.stored (i * 2 + 1) (.int .i64 (z : Int))).1
  rw [← segV_modify _ _ _ hi] at this
  rw [Lg.sized_length]
  exact this
set_option maxRecDepth 100000 in
set_option maxHeartbeats 6400000 in
theorem lsize_any {w : World} {base g gl k : Nat} {own : Own} {lo : LOwn} {M : Me} {S : Lg} (h : LM w base g gl own lo M S) (hg : M.good k) (T : SgT0 w) {i : Nat} (hi : i < S.segs.length) (hfew : S.segs.length ≤ 1048577) :
    Calls Tryz.prog 65 #[.pointer (some ⟨gl, 0, none⟩), .int .i64 (i : Int)] w fun e w' => e = .returned (.int .i64 ((sizeL M S i).1 : Int)) ∧ LLeft w w' base g gl own lo M (sizeL M S i).2 := by
  obtain ⟨p, hp⟩ : ∃ p, S.segs[i]? = some p := ⟨_, List.getElem?_eq_getElem hi⟩
  obtain ⟨sv, hl⟩ := h.log
  obtain ⟨A, c, hsv, q1, q2, hcl⟩ := hl.form
  obtain ⟨bq, hA, hlo, d1, d2⟩ := hcl i p hp
  subst hA
  have k0 := hl.cells.1
  have k2 := hl.cells.2.2.1
  rw [hsv] at k2
  have hgl : gl < w.heap.size := hl.blk.lt
  have hbq : bq < w.heap.size := (hl.dom bq (by rw [hlo]; simp)).2
  have KC := Lib.hid (fun W (s : Still w W) => show W.cell? ⟨gl, 0, none⟩ = some (.pointer (some ⟨g, 0, none⟩)) ∧ W.cell? ⟨bq, i * 2, none⟩ = some (.int .i64 (p.1 : Int)) ∧ W.cell? ⟨bq, i * 2 + 1, none⟩ = some (.int .i64 (p.2 : Int)) from ⟨(s.cell (p := ⟨gl, 0, none⟩) hgl).trans k0, (s.cell (p := ⟨bq, i * 2, none⟩) hbq).trans d1, (s.cell (p := ⟨bq, i * 2 + 1, none⟩) hbq).trans d2⟩)
  have NM := Lib.hid (fun W (s : Still w W) => name_any (p.1 : Int) W (T.still s))
  have SZ := Lib.hid (fun W (s : Still w W) => size_M (nameS (p.1 : Int)) (h.med.still s) hg.ok (by have := nameS_size (p.1 : Int); unfold maxLen; omega))
  have SD := Lib.hid (fun W (s : Still w W) z => (h.still s).sized (hl.keep (Chg.of_still s (fun _ => False)) (fun _ h => h.elim)) hi hsv z)
  have LW := Lib.hid h
  have EL := Lib.hid (show sizeL M S i = if (M.bytes (nameS (p.1 : Int))).2 = 12 then (p.2, S) else ((M.bytes (nameS (p.1 : Int))).1.length, S.sized i (M.bytes (nameS (p.1 : Int))).1.length) by unfold sizeL; rw [hp])
  obtain ⟨nm, hnm⟩ : ∃ nm, nm = nameS (p.1 : Int) := ⟨_, rfl⟩
  rw [← hnm] at NM SZ EL
  obtain ⟨zl, hzl⟩ : ∃ zl, zl = (M.bytes nm).1.length := ⟨_, rfl⟩
  obtain ⟨er, her⟩ : ∃ er, er = (M.bytes nm).2 := ⟨_, rfl⟩
  rw [← hzl, ← her] at EL
  rw [← hzl, ← her] at SZ
  obtain ⟨pa, hpa⟩ : ∃ pa, pa = p.1 := ⟨_, rfl⟩
  obtain ⟨pb, hpb⟩ : ∃ pb, pb = p.2 := ⟨_, rfl⟩
  rw [← hpa, ← hpb] at KC
  rw [← hpb] at EL
  rw [← hpa] at NM
  obtain ⟨ml, hml⟩ : ∃ ml, ml = S.segs.length := ⟨_, rfl⟩
  rw [← hml] at k2 q1 hi hfew
  have z3 : (0 : Int) ≤ (i : Int) := by omega
  have z4 : (i : Int) < (ml : Int) := by omega
  clear h hl hsv hcl hp d1 d2 k0 hgl hbq hlo hnm hzl her hpa hpb T hg hi hfew hml
  go_enter Tryz.func65, Tryz.ntmps65
  go_upto_region 2 with fail
  go_region_held3 (fun W => W.cell? ⟨gl, 0, none⟩ = some (.pointer (some ⟨g, 0, none⟩)) ∧ W.cell? ⟨bq, i * 2, none⟩ = some (.int .i64 (pa : Int))) (first | exact ⟨(KC.out _ (Still.refl _).drew).1, (KC.out _ (Still.refl _).drew).2.1⟩ | exact ⟨(KC.out _ S3.out).1, (KC.out _ S3.out).2.1⟩) (first
    | (go_at_call 61; with_reducible refine (NM.out _ (Still.refl _).drew).mono ?_; rintro e w3 ⟨rfl, s3⟩; have S3 := Lib.hid (Still.trans (Still.refl _).drew s3); clear s3)
    | (go_at_call 67; with_reducible refine (SZ.out _ S3.out).mono ?_; rintro e w4 ⟨rfl, rfl⟩))
  all_goals
    have k5 := (KC.out _ S3.out).2.2
    by_cases h12 : er = 12
    · subst h12
      have EA := Lib.hid (EL.out.trans (if_pos rfl))
      clear SD SZ NM EL KC
      go_wp2_with fail
      go_ret
      exact ⟨by rw [EA.out]; rfl, by rw [EA.out]; exact LLeft.still LW.out S3.out⟩
    · have b1 : (er != 12) = true := by simpa using h12
      have EA := Lib.hid (EL.out.trans (if_neg h12))
      obtain ⟨fz, FL⟩ := SD.out _ S3.out zl
      have FL := Lib.hid (LLeft.of_still S3.out FL)
      clear SD SZ NM EL KC h12
      go_wp2_with fail
      go_ret
      exact ⟨by rw [EA.out]; rfl, by rw [EA.out]; exact FL.out⟩
end Go.Proofs.YtblgphfdicffcaaGreatDoor
