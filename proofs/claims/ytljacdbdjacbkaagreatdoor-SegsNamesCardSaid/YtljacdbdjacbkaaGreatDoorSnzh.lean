/- Contracts and facts, several texts in one. It proves no statement. -/
import Derived.Test.YtljacdbdjacbkaaGreatDoorSnze
import Derived.Test.YtljacdbdjacbkaaGreatDoorSnzg
import Derived.Deep.RegionHeld3
import Derived.Test.YtljacdbdjacbkaaGreatDoorSnzb
import Derived.Test.YtljacdbdjacbkaaGreatDoorSnn

/- Contract: an entry put behind the others, by what lay answers. It proves no statement. -/



namespace Go.Proofs.YtljacdbdjacbkaaGreatDoor
open Go.RowKit Go.Maps Go.WideMaps Go.Sort
set_option linter.unusedVariables false
set_option linter.unusedSimpArgs false

/-- What lay leaves where it answers OK. -/
def LaidOK (S : Lg) (n : Nat) : Prop := ∃ (m : Nat) (p : Nat × Nat), S.segs.length = m + 1 ∧ S.segs[m]? = some p ∧ m + 1 ≤ 1048577 ∧ n ≤ p.2 ∧ p.2 ≤ 4611686018427387904
/-- The place of the last entry of n bytes. -/
def placeL (S : Lg) (n : Nat) : Nat × Nat × Nat := match S.segs.getLast? with | some p => (p.1, p.2 - n, n) | none => (0, 0, 0)
def appendR (E : Int × List UInt8) (M : Me) (S : Lg) (R : Int × Me × Lg) : (Nat × Nat × Nat) × Int × Me × Lg :=
  if E.1 ≠ 0 then ((0, 0, 0), E.1, M, S) else if R.1 ≠ 0 then ((0, 0, 0), R.1, R.2.1, R.2.2) else (placeL R.2.2 E.2.length, 0, R.2.1, R.2.2)
def plV (p : Nat × Nat × Nat) : Value := .agg #[.int .i64 (p.1 : Int), .int .i64 (p.2.1 : Int), .int .i64 (p.2.2 : Int)]
theorem placeL_at {S : Lg} {m n : Nat} {p : Nat × Nat} (hm : S.segs.length = m + 1) (hp : S.segs[m]? = some p) : placeL S n = (p.1, p.2 - n, n) := by
  unfold placeL
  rw [List.getLast?_eq_getElem?, hm, show m + 1 - 1 = m by omega, hp]
theorem llast_w {w : World} {base g gl : Nat} {lo : LOwn} {S : Lg} {sv : Value} (h : LogI w base lo g gl S sv) {m : Nat} (hm : S.segs.length = m + 1) (hok : m + 1 ≤ 1048577) : Calls Tryz.prog 64 #[.pointer (some ⟨gl, 0, none⟩)] w fun e w' => e = .returned (.int .i64 (m : Int)) ∧ w' = w := by
  obtain ⟨A, c, rfl, _, _, _⟩ := h.form
  have c2 := h.cells.2.2.1
  rw [hm] at c2
  have e1 : ((m + 1 : Nat) : Int) - 1 = (m : Int) := by omega
  have e2 : wrap64 (m : Int) = (m : Int) := by unfold wrap64; omega
  clear h hm hok
  go_enter Tryz.func64, Tryz.ntmps64
  go_wp2_with fail
  go_ret
  exact ⟨by simp [e2], rfl⟩
theorem sizePl : (Tryz.prog.info? 39).map (·.size) = some 3 := by kernel_rfl
theorem results_cellP {fn : Func} {p u : Tmp} {P : Program} {ty : TypeId} (h : fn.results = #[.cell p ty, .tmp u]) (tmps : Array Value) (w : World) (g : Nat) (t : TypeId) (cs : Array Value) (fr : Nat × Nat) (d : TypeDesc)
    (hp : tmps.getD p undef = .pointer (some ⟨g, 0, none⟩)) (hg : w.heap[g]? = some (.cells cs t fr))
    (hu : P.underlying ty = some d) (hd : (match d with | .struct _ | .array _ _ => true | _ => false) = true) (hi : (P.info? ty).map (·.size) = some cs.size) :
    (results fn tmps).run P w = .ok (.tuple #[.agg cs, tmps.getD u undef]) w := by
  rw [results_cell_tmp h, hp]
  simp [asAddr, run_loadVar_row w g t ty cs fr d hg hu hd hi, Result.andThen]
theorem chg_setRow (w : World) (g : Nat) (cs : Array Value) : Chg w (w.setRow g cs) (fun b => b = g) :=
  ⟨rfl, rfl, rfl, by simp [World.setRow], fun k _ hn => setRow_other w g k cs hn⟩
theorem zeroPl : (Tryz.prog.info? 39).map (fun i => (i.zero, i.size)) = some (some (.agg #[.int .i64 0, .int .i64 0, .int .i64 0]), 3) := by kernel_rfl
theorem sizeEnt0 : (Tryz.prog.info? 44).map (·.size) = some 34 := by kernel_rfl
theorem LLeft.after {w W W' : World} {base g gl : Nat} {own : Own} {lo : LOwn} {M' : Me} {S' : Lg} (h : LLeft w W base g gl own lo M' S') (s : Still W W') : LLeft w W' base g gl own lo M' S' := by
  obtain ⟨c, own', lo', ho, lm⟩ := h
  exact ⟨c.trans (Chg.of_still s (fun _ => False)) (fun _ _ h => h.elim), own', lo', ho, lm.still s⟩
theorem LLeft.setRow {w w3 W : World} {base g gl x : Nat} {own : Own} {lo : LOwn} {M' : Me} {S' : Lg} (s : Still w w3) (h : LLeft w3 W base g gl own lo M' S') (h1 : w.heap.size ≤ x) (h2 : x < w3.heap.size) (h3 : own x = none ∧ lo x = none) (cs : Array Value) : LLeft w (W.setRow x cs) base g gl own lo M' S' := by
  obtain ⟨c, own', lo', ho, lm⟩ := h
  refine ⟨((Chg.of_still s _).trans c (fun _ _ h => h)).trans (chg_setRow W x cs) (fun b hb e => by have e : b = x := e; omega), own', lo', fun b hb => ho b (Nat.lt_of_lt_of_le hb s.size), lm.keep (chg_setRow W x cs) (fun b hb => ?_)⟩
  have hb : b = x := hb
  subst hb
  rw [(ho b h2).1, (ho b h2).2]
  exact h3
set_option maxRecDepth 100000 in
set_option maxHeartbeats 6400000 in
theorem lappend_by {w : World} {base g gl k : Nat} {own : Own} {lo : LOwn} {M : Me} {S : Lg} {t : Int} {K D : List UInt8} {A : Option Addr} {n c B : Nat} (R : Nat → Int × Me × Lg) (h : LM w base g gl own lo M S) (T : SgT w)
    (hK : K.length = 32) (hr : Reads w B A n D) (hB : B ≤ w.heap.size) (hA : A = none → c = 0) (hn : n ≤ 1048576)
    (hlay : (encE t K D).1 = 0 → ∀ W A2 m2 c2, Still w W → RowP W (fun b => w.heap.size ≤ b) A2 m2 c2 (encE t K D).2 → Calls Tryz.prog 63 #[.pointer (some ⟨gl, 0, none⟩), .slice A2 m2 c2] W fun e w' => ∃ gf, M.fs gf = none ∧ e = .returned (.int .i64 (R gf).1) ∧ LLeft W w' base g gl own lo (R gf).2.1 (R gf).2.2)
    (hR : ∀ gf, (encE t K D).1 = 0 → (R gf).1 = 0 → LaidOK (R gf).2.2 (encE t K D).2.length) :
    Calls Tryz.prog 15 #[.pointer (some ⟨gl, 0, none⟩), .agg (entV t K (.slice A n c))] w fun e w' => ∃ gf, M.fs gf = none ∧ e = .returned (.tuple #[plV (appendR (encE t K D) M S (R gf)).1, .int .i64 (appendR (encE t K D) M S (R gf)).2.1]) ∧ LLeft w w' base g gl own lo (appendR (encE t K D) M S (R gf)).2.2.1 (appendR (encE t K D) M S (R gf)).2.2.2 := by
  obtain ⟨ent, hent⟩ : ∃ ent, ent = entV t K (.slice A n c) := ⟨_, rfl⟩
  rw [← hent]
  have hes : ent.size = 34 := by rw [hent]; exact entV_size t K _ hK
  obtain ⟨wA, hwA⟩ : ∃ wA, wA = w.alloc (.cells ent 44) := ⟨_, rfl⟩
  obtain ⟨wB, hwB⟩ : ∃ wB, wB = wA.alloc (.cells #[.int .i64 0, .int .i64 0, .int .i64 0] 39) := ⟨_, rfl⟩
  have SA : Still w wA := by rw [hwA]; exact (Still.refl w).alloc (Nat.le_refl _) _
  have hsA : wA.heap.size = w.heap.size + 1 := by rw [hwA]; simp
  have SB : Still wA wB := by rw [hwB]; exact (Still.refl wA).alloc (Nat.le_refl _) _
  have hsB : wB.heap.size = w.heap.size + 2 := by rw [hwB]; simp [hsA]
  have BE : Blk wB w.heap.size 44 ent := by
    have : Blk wA w.heap.size 44 ent := by rw [hwA]; exact Blk.new _ _ _
    exact this.still SB
  have BP : Blk wB (w.heap.size + 1) 39 #[.int .i64 0, .int .i64 0, .int .i64 0] := by rw [hwB, ← hsA]; exact Blk.new _ _ _
  have SAB := Still.trans SA SB
  have LMB := h.still SAB
  obtain ⟨sv, hl⟩ := LMB.log
  have WK := Lib.hid (lworks_any hl)
  have EN := Lib.hid (encode_any t K D A n c wB B hK (hr.still hB SAB) (Nat.le_trans hB SAB.size) hA hn (T.still SAB).tabs)
  rw [← hent] at EN
  obtain ⟨bb, hbb⟩ : ∃ bb, bb = (encE t K D).2 := ⟨_, rfl⟩
  obtain ⟨e0, he0⟩ : ∃ e0, e0 = (encE t K D).1 := ⟨_, rfl⟩
  have EP : encE t K D = (e0, bb) := by rw [he0, hbb]
  rw [EP] at EN ⊢ hlay hR
  dsimp only at EN hlay hR
  have HLAY := Lib.hid hlay
  have HR := Lib.hid hR
  have HAB := Lib.hid SAB
  have HBP := Lib.hid BP
  have HBE := Lib.hid BE
  have HSA := Lib.hid hsA
  have HSB := Lib.hid hsB
  have HWA := Lib.hid hwA
  have HWB := Lib.hid hwB
  have HLM := Lib.hid LMB
  have HES := Lib.hid hes
  have HFR := Lib.hid h.med.fresh
  have HLW := Lib.hid h
  have UE : Tryz.prog.underlying 44 = some _ := Tryz.underlying44
  clear hlay hR h T hK hr hB hA hn hwA hwB SA SB hsA hsB BE BP SAB LMB hl hbb he0 EP hes hent
  go_enter Tryz.func15, Tryz.ntmps15
  go_upto_region 1 with (first
    | (guard_target =~ wpList _ _ _ (Oper.mk (some 3) _ _ _ _ _ :: _) _ _; go_must (refine wpList_box_val rfl 44 (.tmp 1) rfl (some 3) rfl ent rfl ?_); rw [← HWA.out])
    | (guard_target =~ wpList _ _ _ (Oper.mk (some 4) _ _ _ _ _ :: _) _ _; go_must (refine wpList_alloc_arr rfl 39 rfl (some 4) rfl #[.int .i64 0, .int .i64 0, .int .i64 0] 3 zeroPl ?_); rw [← HWB.out, HSA.out]))
  have UP := Lib.hid (show Tryz.prog.underlying 39 = some _ from Tryz.underlying39)
  have X1 := Lib.hid (show w.heap.size + 1 < wB.heap.size by rw [HSB.out]; omega)
  have X3 := Lib.hid (show own (w.heap.size + 1) = none ∧ lo (w.heap.size + 1) = none from by
    obtain ⟨sv, l⟩ := HLW.out.log
    refine ⟨?_, ?_⟩
    · cases hq : own (w.heap.size + 1) with
      | none => rfl
      | some q => have := (HLW.out.med.dom _ (by rw [hq]; simp)).2; omega
    · cases hq : lo (w.heap.size + 1) with
      | none => rfl
      | some q => have := (l.dom _ (by rw [hq]; simp)).2; omega)
  by_cases z0 : e0 = 0
  · subst z0
    replace HLAY := Lib.hid (fun W A2 m2 c2 => HLAY.out rfl W A2 m2 c2)
    replace HR := Lib.hid (fun gf => HR.out gf rfl)
    go_upto_region 6 with (first
      | (guard_target =~ wpList _ _ _ (Oper.mk (some 14) _ _ _ _ _ :: _) _ _; go_must (refine load_rowG (by kernel_rfl) 44 (.tmp 3) rfl w.heap.size rfl 44 ent (0, 0) _ HBE.out Tryz.underlying44 rfl (by rw [sizeEnt0, HES.out]) ?_))
      | (go_at_call 61; refine WK.out.mono ?_; rintro e w2 ⟨rfl, rfl⟩)
      | (go_at_call 62; refine EN.out.mono ?_; rintro e w3 ⟨⟨v3, rfl, o3⟩, s3⟩; obtain ⟨A3, c3, rfl, f1, f2, f3⟩ := own_form o3; have O3 := Lib.hid o3; have S3 := Lib.hid s3; clear o3 s3 f3)
      | (go_at_call 63; refine (HLAY.out w3 A3 bb.length c3 (Still.trans HAB.out S3.out) ((RowP.of_own O3.out).mono (fun b hb _ => Nat.le_trans HAB.out.size hb.1))).mono ?_; rintro e w4 ⟨gf, hgf, rfl, hl4⟩; have GF := Lib.hid hgf; have L4 := Lib.hid hl4; clear hgf hl4))
    obtain ⟨e1, he1⟩ : ∃ e1, e1 = (R gf).1 := ⟨_, rfl⟩
    obtain ⟨M4, hM4⟩ : ∃ M4, M4 = (R gf).2.1 := ⟨_, rfl⟩
    obtain ⟨S4, hS4⟩ : ∃ S4, S4 = (R gf).2.2 := ⟨_, rfl⟩
    have HRG := Lib.hid (HR.out gf)
    have EA := Lib.hid (show appendR (0, bb) M S (R gf) = if e1 ≠ 0 then ((0, 0, 0), e1, M4, S4) else (placeL S4 bb.length, 0, M4, S4) from by
      unfold appendR
      rw [if_neg (by simp), ← he1, ← hM4, ← hS4])
    rw [← hM4, ← hS4] at L4
    rw [← he1, ← hS4] at HRG
    rw [← he1]
    clear he1 hM4 hS4 HLAY HR
    have BP4 := Lib.hid (show Blk w4 (w.heap.size + 1) 39 #[.int .i64 0, .int .i64 0, .int .i64 0] from by
      obtain ⟨c4, _⟩ := L4.out
      refine c4.blk (HBP.out.still S3.out) (fun hs => ?_)
      rcases hs with hs | hs
      · exact hs X3.out.1
      · exact hs X3.out.2)
    have FIN := Lib.hid (fun cs => LLeft.setRow (x := w.heap.size + 1) (Still.trans HAB.out S3.out) L4.out (by omega) (Nat.lt_of_lt_of_le X1.out S3.out.size) X3.out cs)
    by_cases z1 : e1 = 0
    · subst z1
      obtain ⟨m, p, hm, hp, hmm, hle, hbig⟩ := HRG.out rfl
      have EB := Lib.hid (show appendR (0, bb) M S (R gf) = ((p.1, p.2 - bb.length, bb.length), 0, M4, S4) by rw [EA.out, if_neg (by simp), placeL_at hm hp])
      obtain ⟨c4, own4, lo4, ho4, lm4⟩ := L4.out
      obtain ⟨sv4, l4⟩ := lm4.log
      have LAST := Lib.hid (fun W (s : Still w4 W) => llast_w (l4.keep (Chg.of_still s (fun _ => False)) (fun _ h => h.elim)) hm hmm)
      obtain ⟨A4, c5, hsv, q1, q2, hcl⟩ := l4.form
      have k2 := l4.cells.2.2.1
      obtain ⟨bq, hA, hlo, d1, d2⟩ := hcl m p hp
      subst hA
      rw [hsv, hm] at k2
      rw [hm] at q1
      have hbq : bq < w4.heap.size := (l4.dom bq (by rw [hlo]; simp)).2
      have hgl : gl < w4.heap.size := l4.blk.lt
      have KC := Lib.hid (fun W (s : Still w4 W) => show W.cell? ⟨gl, 2, none⟩ = some (.slice (some ⟨bq, 0, none⟩) (m + 1) c5) ∧ W.cell? ⟨bq, m * 2, none⟩ = some (.int .i64 (p.1 : Int)) ∧ W.cell? ⟨bq, m * 2 + 1, none⟩ = some (.int .i64 (p.2 : Int)) from ⟨(s.cell (p := ⟨gl, 2, none⟩) hgl).trans k2, (s.cell (p := ⟨bq, m * 2, none⟩) hbq).trans d1, (s.cell (p := ⟨bq, m * 2 + 1, none⟩) hbq).trans d2⟩)
      obtain ⟨pa, hpa⟩ : ∃ pa, pa = p.1 := ⟨_, rfl⟩
      obtain ⟨pb, hpb⟩ : ∃ pb, pb = p.2 := ⟨_, rfl⟩
      obtain ⟨bl, hbl⟩ : ∃ bl, bl = bb.length := ⟨_, rfl⟩
      rw [← hpa, ← hpb] at KC
      rw [← hpa, ← hpb, ← hbl] at EB
      rw [← hpb] at hbig
      rw [← hbl, ← hpb] at hle
      rw [← hbl] at f1
      obtain ⟨ml, hml⟩ : ∃ ml, ml = m + 1 := ⟨_, rfl⟩
      rw [← hml] at KC q1
      have z3 : (0 : Int) ≤ (m : Int) := by omega
      have z4 : (m : Int) < (ml : Int) := by omega
      clear hml
      have HLE := Lib.hid (And.intro hle hbig)
      have HBL := Lib.hid hbl
      clear c4 ho4 lm4 l4 hsv hcl k2 d1 d2 hm hp hmm hlo hbq hgl hpa hpb hle hbig EA HRG hbl q1 q2
      go_wp2_with fail
      go_region_held3 (fun W => W.cell? ⟨gl, 2, none⟩ = some (.slice (some ⟨bq, 0, none⟩) ml c5) ∧ W.cell? ⟨bq, m * 2, none⟩ = some (.int .i64 (pa : Int)) ∧ W.cell? ⟨bq, m * 2 + 1, none⟩ = some (.int .i64 (pb : Int))) (first | exact KC.out _ (Still.refl _).drew | exact KC.out _ (((Still.refl _).drew).alloc (Nat.le_refl _) _) | exact KC.out _ (below_setRow (((Still.refl _).drew).alloc (Nat.le_refl _) _) (by simp) _)) ((go_at_call 64; with_reducible refine (LAST.out _ (by first | exact (Still.refl _).drew | exact ((Still.refl _).alloc (Nat.le_refl _) _).drew)).mono ?_; rintro e w6 ⟨rfl, rfl⟩))
      all_goals
        obtain ⟨pd, hpd⟩ : ∃ pd, pd = pb - bl := ⟨_, rfl⟩
        have EB2 := Lib.hid (show appendR (0, bb) M S (R gf) = ((pa, pd, bl), 0, M4, S4) by rw [EB.out, hpd])
        have S5 := Lib.hid (show Still w4 (w4.alloc (.cells #[.int .i64 (pa : Int), .int .i64 (pb : Int)] 116)).drew from ((Still.refl _).alloc (Nat.le_refl _) _).drew)
        have BP5 := Lib.hid (BP4.out.still S5.out)
        have FN5 := Lib.hid (fun cs => LLeft.setRow (x := w.heap.size + 1) (Still.trans HAB.out S3.out) (L4.out.after S5.out) (by omega) (Nat.lt_of_lt_of_le X1.out S3.out.size) X3.out cs)
        have v1 : (pb : Int) - (bl : Int) = (pd : Int) := by have := HLE.out; omega
        have v2 : wrap64 (pd : Int) = (pd : Int) := by have := HLE.out; unfold wrap64; omega
        have BN : Blk (w4.alloc (.cells #[.int .i64 (pa : Int), .int .i64 (pb : Int)] 116)).drew w4.heap.size 116 #[.int .i64 (pa : Int), .int .i64 (pb : Int)] := Blk.new w4 _ _
        have n0 := BN.cell 0
        have n1 := BN.cell 1
        rw [HBL.out.symm]
        clear BN hpd EB FIN KC LAST
        go_wp2_with (first
          | (guard_target =~ wpList _ _ _ (Oper.mk none (Op.store _ _ _) _ _ _ _ :: _) _ _; go_must (refine wpList_store_rowTo rfl 39 (.tmp 4) (.tmp 44) rfl rfl (w.heap.size + 1) #[.int .i64 (pa : Int), .int .i64 (pd : Int), .int .i64 (bl : Int)] rfl rfl 39 _ BP5.out (sizePl.trans rfl) rfl (by simp [Value.oneCell']) ?_)))
        refine bodyPost_ret (results_cellP rfl _ _ (w.heap.size + 1) 39 _ (0, 0) _ rfl (setRow_heap _ _ _ _ _ _ BP5.out) UP.out rfl (sizePl.trans rfl)) rfl ?_
        exact ⟨gf, GF.out, by rw [EB2.out]; rfl, by rw [EB2.out]; exact FN5.out _⟩
    · have b1 : (e1 != 0) = true := by simpa using z1
      have EB := Lib.hid (show appendR (0, bb) M S (R gf) = ((0, 0, 0), e1, M4, S4) by rw [EA.out, if_pos z1])
      clear z1
      go_wp2_with (first
        | (guard_target =~ wpList _ _ _ (Oper.mk none (Op.store _ _ _) _ _ _ _ :: _) _ _; go_must (refine wpList_store_rowTo rfl 39 (.tmp 4) (.tmp 25) rfl rfl (w.heap.size + 1) #[.int .i64 0, .int .i64 0, .int .i64 0] rfl rfl 39 _ (BP4.out) (sizePl.trans rfl) rfl (by simp [Value.oneCell']) ?_)))
      refine bodyPost_ret (results_cellP rfl _ _ (w.heap.size + 1) 39 _ (0, 0) _ rfl (setRow_heap w4 _ _ _ _ _ BP4.out) UP.out rfl (sizePl.trans rfl)) rfl ?_
      exact ⟨gf, GF.out, by rw [EB.out]; rfl, by rw [EB.out]; exact FIN.out _⟩
  · have b1 : (e0 == 0) = false := by simpa using z0
    have b2 : (e0 != 0) = true := by simpa using z0
    have EB := Lib.hid (fun r => show appendR (e0, bb) M S r = ((0, 0, 0), e0, M, S) by unfold appendR; rw [if_pos z0])
    clear z0
    go_wp2_with (first
      | (guard_target =~ wpList _ _ _ (Oper.mk (some 14) _ _ _ _ _ :: _) _ _; go_must (refine load_rowG (by kernel_rfl) 44 (.tmp 3) rfl w.heap.size rfl 44 ent (0, 0) _ HBE.out Tryz.underlying44 rfl (by rw [sizeEnt0, HES.out]) ?_))
      | (go_at_call 61; refine WK.out.mono ?_; rintro e w2 ⟨rfl, rfl⟩)
      | (go_at_call 62; refine EN.out.mono ?_; rintro e w3 ⟨⟨v3, rfl, o3⟩, s3⟩; obtain ⟨A3, c3, rfl, f1, f2, f3⟩ := own_form o3; have O3 := Lib.hid o3; have S3 := Lib.hid s3; clear o3 s3 f3)
      | (guard_target =~ wpList _ _ _ (Oper.mk none (Op.store _ _ _) _ _ _ _ :: _) _ _; go_must (refine wpList_store_rowTo rfl 39 (.tmp 4) (.tmp 25) rfl rfl (w.heap.size + 1) #[.int .i64 0, .int .i64 0, .int .i64 0] rfl rfl 39 _ (HBP.out.still S3.out) (sizePl.trans rfl) rfl (by simp [Value.oneCell']) ?_)))
    obtain ⟨gf, hgf⟩ := (⟨_, HFR.out⟩ : ∃ gf, M.fs gf = none)
    refine bodyPost_ret (results_cellP rfl _ _ (w.heap.size + 1) 39 _ (0, 0) _ rfl (setRow_heap w3 _ _ _ _ _ (HBP.out.still S3.out)) UP.out rfl (sizePl.trans rfl)) rfl ?_
    exact ⟨gf, hgf, by rw [EB.out]; rfl, by rw [EB.out]; exact LLeft.still HLW.out (below_setRow (Still.trans HAB.out S3.out) (by omega) _)⟩
end Go.Proofs.YtljacdbdjacbkaaGreatDoor

/- Contract: which segment a file is, by the program. It proves no statement. -/

namespace Go.Proofs.YtljacdbdjacbkaaGreatDoor
open Go.RowKit
set_option linter.unusedVariables false
set_option linter.unusedSimpArgs false

theorem trim_sgnB (n : Nat) : Lib.trimPrefix (sgnB n) [115, 101, 103, 46] = dig 8 n := by
  unfold Lib.trimPrefix
  have e : Lib.hasPrefix (sgnB n) [115, 101, 103, 46] = true := by
    unfold sgnB Lib.hasPrefix
    simp
  rw [if_pos e]
  rfl
theorem seg_atoi {s : List UInt8} {n : Nat} (h : segOf s = some n) : Lib.atoiAll (Lib.trimPrefix s [115, 101, 103, 46]) = .ok (n : Int) ∧ n < 1048576 ∧ s = sgnB n := by
  obtain ⟨h1, h2⟩ := segOf_some h
  refine ⟨?_, h2, h1⟩
  rw [h1, trim_sgnB]
  exact atoi_dig n (by omega)
theorem toList_ne {a b : ByteArray} (h : a ≠ b) : (a.toList == b.toList) = false := by
  rw [ByteArray.toList_eq, ByteArray.toList_eq, beq_eq_false_iff_ne]
  intro e
  apply h
  apply ByteArray.ext
  exact Array.ext' e
set_option maxRecDepth 100000 in
theorem number_any (s : ByteArray) (w : World) (T : SgT w) (hs : s.size ≤ 1099511627776) : Calls Tryz.prog 51 #[.string s] w fun e w' => e = .returned (.tuple #[.int .i64 (((segOf s.data.toList).getD 0 : Nat) : Int), .bool (segOf s.data.toList).isSome]) ∧ Still w w' := by
  have TR := Lib.hid (trim_lib s ⟨#[115, 101, 103, 46]⟩ w)
  have e0 : (⟨#[115, 101, 103, 46]⟩ : ByteArray).data.toList = [115, 101, 103, 46] := rfl
  rw [e0] at TR
  have SA := Lib.hid (fun n (h : segOf s.data.toList = some n) => seg_atoi h)
  obtain ⟨t, ht⟩ : ∃ t, t = Lib.trimPrefix s.data.toList [115, 101, 103, 46] := ⟨_, rfl⟩
  have hts : t.length ≤ 1099511627776 := by
    have h1 : t.length ≤ s.data.toList.length := by
      rw [ht]
      unfold Lib.trimPrefix
      split
      · rw [List.length_drop]; omega
      · exact Nat.le_refl _
    have h2 : s.data.toList.length = s.size := Array.length_toList
    omega
  have NM := Lib.hid (fun W (st : Still w W) v => name_any v W (T.still st))
  have hnil : s.data.toList = [] → t = [] := fun h => by rw [ht, h]; rfl
  rw [← ht] at TR SA
  have HSZ := Lib.hid (show (⟨t.toArray⟩ : ByteArray).size ≤ 1099511627776 by rw [sizeB]; exact hts)
  have HTL : (⟨t.toArray⟩ : ByteArray).data.toList = t := by simp
  cases ha : Lib.atoiAll t with
  | ok v =>
    have AT := Lib.hid (atoi_ok ⟨t.toArray⟩ (by have := HSZ.out; omega) v (by rw [HTL]; exact ha))
    have hres : (nameS v = s → segOf s.data.toList = some v.toNat ∧ ((v.toNat : Nat) : Int) = v) ∧ (nameS v ≠ s → segOf s.data.toList = none) := by
      refine ⟨fun h => ?_, fun h => ?_⟩
      · by_cases hr : 0 ≤ v ∧ v < 1048576
        · rw [← h, nameS_list, if_pos hr]
          exact ⟨segOf_sgnB _ (by omega), by omega⟩
        · have hn : s.data.toList = [] := by rw [← h, nameS_list, if_neg hr]
          rw [hnil hn] at ha
          cases ha
      · cases hq : segOf s.data.toList with
        | none => rfl
        | some n =>
          obtain ⟨k1, k2, k3⟩ := SA.out n hq
          rw [ha] at k1
          injection k1 with k1
          subst k1
          exfalso
          apply h
          rw [nameS_nat k2, ← k3]
    obtain ⟨V, hV⟩ : ∃ V, V = nameS v := ⟨_, rfl⟩
    have NV := Lib.hid (fun W (st : Still w W) => NM.out W st v)
    rw [← hV] at NV hres
    obtain ⟨X, hX⟩ : ∃ X : ByteArray, X = ⟨t.toArray⟩ := ⟨_, rfl⟩
    rw [← hX] at TR AT
    by_cases hv : V = s
    · obtain ⟨h1, h2⟩ := hres.1 hv
      rw [h1]
      show Calls _ _ _ _ fun e w' => e = .returned (.tuple #[.int .i64 ((v.toNat : Nat) : Int), .bool true]) ∧ Still w w'
      rw [h2]
      subst hv
      clear hres h1 h2 hV hX ha ht hts hnil HTL SA NM T hs
      go_enter Tryz.func51, Tryz.ntmps51
      go_wp2_with fail
      refine TR.out.mono ?_
      rintro e w1 ⟨rfl, rfl⟩
      go_wp2_with fail
      refine (AT.out w1).mono ?_
      rintro e w2 ⟨rfl, hw2⟩
      have S2 := Lib.hid (show Still w1 w2 from by
        rcases hw2 with rfl | ⟨t, rfl⟩
        · exact Still.refl _
        · exact Lib.bytesWorld_below _ _ _)
      clear hw2
      go_wp2_with fail
      refine (NV.out _ S2.out).mono ?_
      rintro e w3 ⟨rfl, s3⟩
      have S3 := Lib.hid (Still.trans S2.out s3)
      clear s3
      go_wp2_with fail
      go_ret2
      exact ⟨rfl, S3.out⟩
    · rw [hres.2 hv]
      show Calls _ _ _ _ fun e w' => e = .returned (.tuple #[.int .i64 0, .bool false]) ∧ Still w w'
      have ne := toList_ne hv
      clear hres hV hX ha ht hts hnil HTL SA NM T hs hv
      go_enter Tryz.func51, Tryz.ntmps51
      go_wp2_with fail
      refine TR.out.mono ?_
      rintro e w1 ⟨rfl, rfl⟩
      go_wp2_with fail
      refine (AT.out w1).mono ?_
      rintro e w2 ⟨rfl, hw2⟩
      have S2 := Lib.hid (show Still w1 w2 from by
        rcases hw2 with rfl | ⟨t, rfl⟩
        · exact Still.refl _
        · exact Lib.bytesWorld_below _ _ _)
      clear hw2
      go_wp2_with fail
      refine (NV.out _ S2.out).mono ?_
      rintro e w3 ⟨rfl, s3⟩
      have S3 := Lib.hid (Still.trans S2.out s3)
      clear s3
      go_wp2_with fail
      go_ret2
      exact ⟨rfl, S3.out⟩
  | range =>
    have hno : segOf s.data.toList = none := by
      cases hq : segOf s.data.toList with
      | none => rfl
      | some n => have := (SA.out n hq).1; rw [ha] at this; cases this
    rw [hno]
    show Calls _ _ _ _ fun e w' => e = .returned (.tuple #[.int .i64 0, .bool false]) ∧ Still w w'
    obtain ⟨tp, p, hvar⟩ := T.rng
    have AT := Lib.hid (atoi_range ⟨t.toArray⟩ (by have := HSZ.out; omega) (by rw [HTL]; exact ha) tp p w hvar)
    obtain ⟨X, hX⟩ : ∃ X : ByteArray, X = ⟨t.toArray⟩ := ⟨_, rfl⟩
    rw [← hX] at TR AT
    obtain ⟨Z, hZ⟩ : ∃ Z, Z = Lib.atoiSat (⟨t.toArray⟩ : ByteArray).data.toList := ⟨_, rfl⟩
    rw [hX, ← hZ, ← hX] at AT
    clear hX ha ht hts hnil HTL SA NM T hs hno hvar hZ
    go_enter Tryz.func51, Tryz.ntmps51
    go_wp2_with fail
    refine TR.out.mono ?_
    rintro e w1 ⟨rfl, rfl⟩
    go_wp2_with fail
    refine AT.out.mono ?_
    rintro e w2 ⟨N, rfl, _, _, b2⟩
    have S2 := Lib.hid b2
    clear b2
    go_wp2_with fail
    go_ret2
    exact ⟨rfl, S2.out⟩
  | _ =>
    have hno : segOf s.data.toList = none := by
      cases hq : segOf s.data.toList with
      | none => rfl
      | some n => have := (SA.out n hq).1; rw [ha] at this; cases this
    rw [hno]
    show Calls _ _ _ _ fun e w' => e = .returned (.tuple #[.int .i64 0, .bool false]) ∧ Still w w'
    obtain ⟨tp, p, hvar⟩ := T.syn
    have AT := Lib.hid (atoi_syn ⟨t.toArray⟩ (by have := HSZ.out; omega) (by rw [HTL, ha]; trivial) tp p w hvar)
    obtain ⟨X, hX⟩ : ∃ X : ByteArray, X = ⟨t.toArray⟩ := ⟨_, rfl⟩
    rw [← hX] at TR AT
    clear hX ha ht hts hnil HTL SA NM T hs hno hvar
    go_enter Tryz.func51, Tryz.ntmps51
    go_wp2_with fail
    refine TR.out.mono ?_
    rintro e w1 ⟨rfl, rfl⟩
    go_wp2_with fail
    refine AT.out.mono ?_
    rintro e w2 ⟨N, rfl, _, _, b2⟩
    have S2 := Lib.hid b2
    clear b2
    go_wp2_with fail
    go_ret2
    exact ⟨rfl, S2.out⟩
end Go.Proofs.YtljacdbdjacbkaaGreatDoor

/- Rows of names; the document's Same of two that are alike. It proves no statement. -/

namespace Go.Proofs.YtljacdbdjacbkaaGreatDoor
open Go.RowKit Go.Maps Go.WideMaps
set_option linter.unusedVariables false
set_option linter.unusedSimpArgs false

/-- Rows of names that can be read. -/
def NamesR (w : World) (A : Option Addr) (n : Nat) (N : NT) : Prop := N.length = n ∧ (0 < n → ∃ b o, A = some ⟨b, o, none⟩ ∧ b < w.heap.size ∧ ∀ i p, N[i]? = some p → w.cell? ⟨b, o + i, none⟩ = some (.string ⟨p.1.toArray⟩))
theorem NamesR.still {w w' : World} {A : Option Addr} {n : Nat} {N : NT} (h : NamesR w A n N) (s : Still w w') : NamesR w' A n N :=
  ⟨h.1, fun hn => by
    obtain ⟨b, o, e, hb, hc⟩ := h.2 hn
    exact ⟨b, o, e, Nat.lt_of_lt_of_le hb s.size, fun i p hp => (s.cell (p := ⟨b, o + i, none⟩) hb).trans (hc i p hp)⟩⟩
theorem NamesR.of_own {w : World} {base n c : Nat} {A : Option Addr} {N : NT} (h : w.ownsRow base 9 1 (.slice A n c) n (namesV N)) : NamesR w A n N := by
  have hl : N.length = n := by have := h.1; rw [namesV_length] at this; omega
  refine ⟨hl, fun hn => ?_⟩
  rcases h.2 with ⟨_, h0⟩ | ⟨g, cp, cur, hv, hg, hb, _⟩
  · omega
  · injection hv with hv1
    subst hv1
    refine ⟨g, 0, rfl, (Array.getElem?_eq_some_iff.1 hb).1, fun i p hp => ?_⟩
    have hi : i < N.length := (List.getElem?_eq_some_iff.1 hp).1
    rw [Nat.zero_add, h.cellAt i (by omega)]
    exact namesV_get N i p hp
set_option maxRecDepth 100000 in
set_option maxHeartbeats 1600000 in
/-- The document's Same of two rows of names that are alike. -/
theorem names_same (A A' : Option Addr) (n c c' : Nat) (N : NT) (w : World) (h : NamesR w A n N) (h' : NamesR w A' n N) (hn : n ≤ 70368744177664) :
    Calls Tryz.prog 49 #[.slice A n c, .slice A' n c'] w fun e w' => e = .returned (.bool true) ∧ ∃ m, w' = w.drewN m := by
  have HH := Lib.hid h
  have HH' := Lib.hid h'
  clear h h'
  go_enter Tryz.func49, Tryz.ntmps49
  go_wp2_with fail
  go_loopw [5] (fun iv wr => ∃ k : Nat, k ≤ n ∧ iv = .int .i64 k ∧ Hid (∃ m, wr = w.drewN m)) (fun iv _ => n - (intOf iv).toNat)
  case atStart => exact ⟨0, Nat.zero_le _, rfl, 0, rfl⟩
  case round =>
    obtain ⟨k, hk, rfl, hin⟩ := hrel
    obtain ⟨mm, hwm⟩ := hin.out
    have st : Still w wr := by rw [hwm]; exact still_drewN (Still.refl w) mm
    have HWM := Lib.hid hwm
    have hr := HH.out.still st
    have hr' := HH'.out.still st
    clear hwm st
    by_cases hlt : k < n
    · obtain ⟨b, o, rfl, hb, hc⟩ := hr.2 (by omega)
      obtain ⟨b', o', rfl, hb', hc'⟩ := hr'.2 (by omega)
      obtain ⟨pp, hp⟩ : ∃ pp, N[k]? = some pp := ⟨_, List.getElem?_eq_getElem (by rw [hr.1]; exact hlt)⟩
      have d1 := hc k _ hp
      have d2 := hc' k _ hp
      obtain ⟨X, hX⟩ : ∃ X : ByteArray, X = ⟨pp.1.toArray⟩ := ⟨_, rfl⟩
      rw [← hX] at d1 d2
      have z1 : (0 : Int) ≤ (k : Int) := by omega
      have z2 : (k : Int) < (n : Int) := by omega
      have HLT := Lib.hid hlt
      clear hc hc' hb hb' hlt hr hr' hp hX
      go_wp2_with fail
      go_quiet (fail)
      go_wp2_with fail
      go_roundw
      case rel => exact ⟨k + 1, by have := HLT.out; omega, by go_num, mm + nq, by rw [HWM.out, World.drewN_drewN]⟩
      case measure => simp [intOf]; have := HLT.out; omega
    · obtain rfl : k = n := by omega
      clear hr hr'
      go_wp2_with fail
      go_ret
      exact ⟨rfl, mm, HWM.out⟩
end Go.Proofs.YtljacdbdjacbkaaGreatDoor
