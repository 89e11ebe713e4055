/- Contracts and facts, several texts in one. It proves no statement. -/
import Derived.Test.YtfneloobfidckaaGreatDoorSf27
import Derived.Test.YtfneloobfidckaaGreatDoorSf29

/- Contract: lay: an entry's bytes put into the open segment, or into a new one. It proves no statement. -/


namespace Go.Proofs.YtfneloobfidckaaGreatDoor
open Go.RowKit Go.Maps Go.WideMaps Go.Sort
set_option linter.unusedVariables false
set_option linter.unusedSimpArgs false

theorem bytes_len {w : World} {base g : Nat} {own : Own} {M : Me} (h : MedI w base own g M) (s : ByteArray) : (M.bytes s).1.length ≤ 16777216 := by
  unfold Me.bytes
  split
  · simp
  · rename_i gf F hF
    have : M.fs gf = some F := by
      unfold Me.find at hF
      split at hF
      · cases hF
      · split at hF
        · cases hF
        · split at hF
          · cases hF
          · rename_i hG
            injection hF with hF
            injection hF with e1 e2
            subst e1 e2
            exact hG
    exact Fi.len (h.files _ F this).2.1
theorem sizeL_at (M : Me) (S : Lg) {i : Nat} {p : Nat × Nat} (hp : S.segs[i]? = some p) : ∃ z, (sizeL M S i).1 = z ∧ (z = p.2 ∧ (sizeL M S i).2 = S ∨ z = (M.bytes (nameS (p.1 : Int))).1.length ∧ (sizeL M S i).2 = S.sized i z) := by
  unfold sizeL
  rw [hp]
  dsimp only
  split
  · exact ⟨_, rfl, .inl ⟨rfl, rfl⟩⟩
  · exact ⟨_, rfl, .inr ⟨rfl, rfl⟩⟩
theorem Lg.sized_get {S : Lg} {i z : Nat} {p : Nat × Nat} (hp : S.segs[i]? = some p) : (S.sized i z).segs[i]? = some (p.1, z) := by
  unfold Lg.sized
  simp [List.getElem?_modify, hp]
theorem Lg.sized_fst (S : Lg) (i z : Nat) : (S.sized i z).segs.map (·.1) = S.segs.map (·.1) := by
  unfold Lg.sized
  apply List.ext_getElem?
  intro j
  simp only [List.getElem?_map, List.getElem?_modify]
  by_cases e : i = j
  · subst e
    cases S.segs[i]? <;> simp
  · simp [e]
theorem Lg.sized_ok {S : Lg} (h : S.ok) {i z : Nat} (hz : z ≤ 16777216) : (S.sized i z).ok where
  lim := h.lim
  num := fun p hp => by
    obtain ⟨j, hj⟩ := List.mem_iff_getElem?.1 hp
    unfold Lg.sized at hj
    simp only [List.getElem?_modify] at hj
    cases hq : S.segs[j]? with
    | none => rw [hq] at hj; simp at hj
    | some q =>
      have h1 := h.num q (List.mem_of_getElem? hq)
      rw [hq] at hj
      by_cases e : i = j
      · simp [e] at hj; subst hj; exact ⟨h1.1, hz⟩
      · simp [e] at hj; subst hj; exact h1
  rise := by
    have h1 := h.rise
    rw [← List.pairwise_map (f := fun p : Nat × Nat => p.1) (R := fun a b => a < b)] at h1 ⊢
    rw [S.sized_fst]
    exact h1
  few := by rw [S.sized_length]; exact h.few
  fresh := by rw [S.sized_length]; exact h.fresh
  opn := h.opn
theorem Lg.shut_ok {S : Lg} (h : S.ok) : ({ S with isOpen := false } : Lg).ok := ⟨h.lim, h.num, h.rise, h.few, h.fresh, fun e => by cases e⟩
theorem LLeft.low {w0 w w' : World} {base g gl : Nat} {own : Own} {lo : LOwn} {M M' : Me} {S S' : Lg} (h : LM w base g gl own lo M S) (l : LLeft w w' base g gl own lo M' S') (s : Still w0 w) (hb : w0.heap.size ≤ base) : Still w0 w' := by
  obtain ⟨c, _⟩ := l
  obtain ⟨sv, hl⟩ := h.log
  refine c.still s ?_
  rintro b (hx | hx)
  · exact Nat.le_trans hb (h.med.dom b hx).1
  · exact Nat.le_trans hb (hl.dom b hx).1
def layO (M : Me) (S : Lg) (b : List UInt8) (gf m : Nat) (p : Nat × Nat) : Int × Me × Lg :=
  if (((sizeL M S m).1 + b.length : Nat) : Int) ≤ S.limit then extendL M (sizeL M S m).2 b
  else if (opSync M (nameS (p.1 : Int))).1 ≠ 0 then ((opSync M (nameS (p.1 : Int))).1, (opSync M (nameS (p.1 : Int))).2, (sizeL M S m).2)
  else beginL (opSync M (nameS (p.1 : Int))).2 { (sizeL M S m).2 with isOpen := false } b gf
theorem opSync_fs {M : Me} {s : ByteArray} {gf : Nat} (h : (opSync M s).2.fs gf = none) : M.fs gf = none := by
  unfold opSync at h
  split at h
  · exact h
  · split at h
    · exact h
    · rename_i g2 F hf _
      cases hq : M.fs gf with
      | none => rfl
      | some G =>
        obtain ⟨H, hH⟩ := upd_some (gf := g2) (F := F.synced) hq
        have h : upd M.fs g2 F.synced gf = none := h
        rw [hH] at h
        cases h
set_option maxRecDepth 100000 in
set_option maxHeartbeats 12800000 in
theorem lay_open {w0 w : World} {base g gl k : Nat} {own : Own} {lo : LOwn} {M : Me} {S : Lg} {P : Nat → Prop} {A : Option Addr} {n c : Nat} {b : List UInt8} (h : LM w base g gl own lo M S) (hok : S.ok) (ho : S.isOpen = true) (hg : M.good k) (hk : k ≤ 700000) (T : SgT w0) (s0 : Still w0 w) (hb0 : w0.heap.size ≤ base) {m : Nat} {p : Nat × Nat} (hm : S.segs.length = m + 1) (hp : S.segs[m]? = some p) (hr : RowP w P A n c b) (hP : ∀ x, P x → own x = none ∧ lo x = none) (hn : n ≤ 17000) :
    Calls Tryz.prog 82 #[.pointer (some ⟨gl, 0, none⟩), .slice A n c] w fun e w' => ∃ gf, M.fs gf = none ∧ e = .returned (.int .i64 (layO M S b gf m p).1) ∧ LLeft w w' base g gl own lo (layO M S b gf m p).2.1 (layO M S b gf m p).2.2 := by
  obtain ⟨sv, hl⟩ := h.log
  have k1 := hl.cells.2.1
  have k4 := hl.cells.2.2.2.2
  rw [ho] at k4
  have hgl : gl < w.heap.size := hl.blk.lt
  have KC := Lib.hid (fun W (s : Still w W) => show W.cell? ⟨gl, 1, none⟩ = some (.int .i64 S.limit) from (s.cell (p := ⟨gl, 1, none⟩) hgl).trans k1)
  have LAST := Lib.hid (fun W (s : Still w W) => llast_w (hl.keep (Chg.of_still s (fun _ => False)) (fun _ h => h.elim)) hm (by have := hok.few; omega))
  have SZ := Lib.hid (fun W (s : Still w W) => lsize_any (h.still s) hg (T.still (Still.trans s0 s)) (i := m) (by omega) (by have := hok.few; omega))
  obtain ⟨z, hz, hzz⟩ := sizeL_at M S hp
  obtain ⟨S1, hS1⟩ : ∃ S1, S1 = (sizeL M S m).2 := ⟨_, rfl⟩
  have hzb : z ≤ 16777216 := by
    rcases hzz with ⟨e, _⟩ | ⟨e, _⟩
    · rw [e]; exact (hok.num p (List.mem_of_getElem? hp)).2
    · rw [e]; exact bytes_len h.med _
  have P1 : S1.ok ∧ S1.segs.length = m + 1 ∧ S1.segs[m]? = some (p.1, z) ∧ S1.limit = S.limit := by
    rw [hS1]
    rcases hzz with ⟨e, e2⟩ | ⟨e, e2⟩
    · rw [e2]; exact ⟨hok, hm, by rw [hp, e], rfl⟩
    · rw [e2]; exact ⟨Lg.sized_ok hok hzb, by rw [Lg.sized_length]; exact hm, Lg.sized_get hp, rfl⟩
  have EO : ∀ gf, layO M S b gf m p = if ((z + n : Nat) : Int) ≤ S.limit then extendL M S1 b
      else if (opSync M (nameS (p.1 : Int))).1 ≠ 0 then ((opSync M (nameS (p.1 : Int))).1, (opSync M (nameS (p.1 : Int))).2, S1)
      else beginL (opSync M (nameS (p.1 : Int))).2 { S1 with isOpen := false } b gf := fun gf => by
    unfold layO
    rw [hz, ← hS1, hr.len]
  rw [hz, ← hS1] at SZ
  have PP := Lib.hid P1
  have HH := Lib.hid h
  have HG := Lib.hid hg
  have HT := Lib.hid T
  have HS0 := Lib.hid s0
  have HR := Lib.hid hr
  have HP := Lib.hid hP
  have HL := Lib.hid hl
  have EOH := Lib.hid EO
  have BND := Lib.hid (show z ≤ 16777216 ∧ k ≤ 700000 ∧ w0.heap.size ≤ base from ⟨hzb, hk, hb0⟩)
  have HN := Lib.hid hn
  have LIMF := Lib.hid (fun W' (l : LLeft w W' base g gl own lo M S1) => show W'.cell? ⟨gl, 1, none⟩ = some (.int .i64 S.limit) from by
    obtain ⟨_, _, _, _, lm⟩ := l
    obtain ⟨sv4, x4⟩ := lm.log
    rw [← P1.2.2.2]
    exact x4.cells.2.1)
  have v1 : IntKind.i64.wrap ((z : Int) + (n : Int)) = (z : Int) + (n : Int) := by rw [IntKind.wrap_i64]; omega
  have HV := Lib.hid v1
  clear h hl hg hr hP T s0 k1 hgl EO P1 hzz hz hS1 hm hp hok ho hzb hk hb0 hn v1
  go_enter Tryz.func82, Tryz.ntmps82
  go_upto_region 3 with fail
  go_region_held3 (fun W => W.cell? ⟨gl, 1, none⟩ = some (.int .i64 S.limit)) (first | exact KC.out _ (Still.refl _).drew | exact LIM.out) (first
    | (go_at_call 83; with_reducible refine (LAST.out _ (Still.refl _).drew).mono ?_; rintro e w3 ⟨rfl, rfl⟩)
    | (go_at_call 117; with_reducible refine (SZ.out _ (Still.refl _).drew).mono ?_; rintro e w4 ⟨rfl, l4⟩; have L4 := Lib.hid (LLeft.of_still (Still.refl w).drew l4); clear l4; have LIM := Lib.hid (LIMF.out w4 L4.out)))
  all_goals
    have hv := HV.out
    by_cases hle : ((z + n : Nat) : Int) ≤ S.limit
    · have EA := Lib.hid (fun gf => (EOH.out gf).trans (if_pos hle))
      obtain ⟨c4, own4, lo4, ho4, lm4⟩ := L4.out
      have T4 := HT.out.still (LLeft.low HH.out L4.out HS0.out BND.out.2.2)
      have R4 : RowP w4 P A n c b := HR.out.chg c4 (fun x hx _ hh => by
        rcases hh with hh | hh
        · exact hh (HP.out x hx).1
        · exact hh (HP.out x hx).2)
      have EX := Lib.hid (extend_any lm4 HG.out (by have := BND.out.2.1; omega) T4 PP.out.2.1 PP.out.2.2.1 (by have := PP.out.1.few; have := PP.out.2.1; omega) (by have := BND.out.1; show z ≤ _; omega) R4.reads R4.nil (by have := HN.out; omega))
      have CH := Lib.hid (fun w5 M5 S5 (l : LLeft w4 w5 base g gl own4 lo4 M5 S5) => LLeft.chain c4 ho4 l)
      obtain ⟨gf, hgf⟩ : ∃ gf, M.fs gf = none := ⟨_, HH.out.med.fresh⟩
      have hle2 : (z : Int) + (n : Int) ≤ S.limit := by omega
      clear c4 ho4 lm4 T4 R4 hle LAST SZ KC EOH LIMF
      go_wp2_with fail
      refine EX.out.mono ?_
      rintro e w5 ⟨rfl, l5⟩
      have L5 := Lib.hid (CH.out _ _ _ l5)
      clear l5
      go_wp2_with fail
      go_ret
      exact ⟨gf, hgf, by rw [EA.out]; rfl, by rw [EA.out]; exact L5.out⟩
    · obtain ⟨M2, hM2⟩ : ∃ M2, M2 = (opSync M (nameS (p.1 : Int))).2 := ⟨_, rfl⟩
      obtain ⟨er, her⟩ : ∃ er, er = (opSync M (nameS (p.1 : Int))).1 := ⟨_, rfl⟩
      have EA := Lib.hid (fun gf => (EOH.out gf).trans (if_neg hle))
      rw [← hM2, ← her] at EA
      obtain ⟨c4, own4, lo4, ho4, lm4⟩ := L4.out
      obtain ⟨sv4, x4⟩ := lm4.log
      obtain ⟨A4, c5, hsv, q1, q2, hcl⟩ := x4.form
      obtain ⟨bq, hAA, hlo, d1, d2⟩ := hcl m (p.1, z) PP.out.2.2.1
      subst hAA
      have k0 := x4.cells.1
      have k2 := x4.cells.2.2.1
      rw [hsv, PP.out.2.1] at k2
      rw [PP.out.2.1] at q1
      have hgl : gl < w4.heap.size := x4.blk.lt
      have hbq : bq < w4.heap.size := (x4.dom bq (by rw [hlo]; simp)).2
      have T4 := HT.out.still (LLeft.low HH.out L4.out HS0.out BND.out.2.2)
      have KC5 := Lib.hid (fun W (s : Still w4 W) => show W.cell? ⟨gl, 0, none⟩ = some (.pointer (some ⟨g, 0, none⟩)) ∧ W.cell? ⟨gl, 2, none⟩ = some (.slice (some ⟨bq, 0, none⟩) (m + 1) c5) ∧ W.cell? ⟨bq, m * 2, none⟩ = some (.int .i64 (p.1 : Int)) from ⟨(s.cell (p := ⟨gl, 0, none⟩) hgl).trans k0, (s.cell (p := ⟨gl, 2, none⟩) hgl).trans k2, (s.cell (p := ⟨bq, m * 2, none⟩) hbq).trans d1⟩)
      have LAST5 := Lib.hid (fun W (s : Still w4 W) => llast_w (x4.keep (Chg.of_still s (fun _ => False)) (fun _ h => h.elim)) PP.out.2.1 (by have := PP.out.1.few; have := PP.out.2.1; omega))
      have NM5 := Lib.hid (fun W (s : Still w4 W) => name_any (p.1 : Int) W (T4.still s))
      have SY := Lib.hid (fun W (s : Still w4 W) => sync_M (nameS (p.1 : Int)) (lm4.med.still s) HG.out.ok (by have := nameS_size (p.1 : Int); unfold maxLen; omega))
      rw [← hM2, ← her] at SY
      have CELLS := Lib.hid (fun W W' (s : Still w4 W) (l : Left W W' base g own4 M2) => show W'.cell? ⟨gl, 0, none⟩ = some (.pointer (some ⟨g, 0, none⟩)) ∧ W'.cell? ⟨gl, 2, none⟩ = some (.slice (some ⟨bq, 0, none⟩) (m + 1) c5) ∧ W'.cell? ⟨bq, m * 2, none⟩ = some (.int .i64 (p.1 : Int)) from by
        have n1 : own4 gl = none := lm4.ap2 gl (by rw [x4.ol]; simp)
        have n2 : own4 bq = none := lm4.ap2 bq (by rw [hlo]; simp)
        exact ⟨(World.cell?_of_block (w := W) (l.1.block gl (Nat.lt_of_lt_of_le hgl s.size) (fun hh => hh n1))).trans (KC5.out W s).1, (World.cell?_of_block (w := W) (l.1.block gl (Nat.lt_of_lt_of_le hgl s.size) (fun hh => hh n1))).trans (KC5.out W s).2.1, (World.cell?_of_block (w := W) (l.1.block bq (Nat.lt_of_lt_of_le hbq s.size) (fun hh => hh n2))).trans (KC5.out W s).2.2⟩)
      have CH := Lib.hid (fun W W' (s : Still w4 W) (l : Left W W' base g own4 M2) => show LLeft w W' base g gl own lo M2 S1 from LLeft.chain c4 ho4 (LLeft.of_still s (LLeft.med (lm4.still s) l)))
      have GF := Lib.hid (fun gf (h : M2.fs gf = none) => show M.fs gf = none from opSync_fs (by rw [← hM2]; exact h))
      have G2 := Lib.hid (show M2.good (k + 1) by rw [hM2]; exact opSync_good HG.out _)
      obtain ⟨nm, hnm⟩ : ∃ nm, nm = nameS (p.1 : Int) := ⟨_, rfl⟩
      rw [← hnm] at SY NM5
      have hle2 : ¬ (z : Int) + (n : Int) ≤ S.limit := by omega
      obtain ⟨pa, hpa⟩ : ∃ pa, pa = p.1 := ⟨_, rfl⟩
      rw [← hpa] at KC5 NM5 CELLS
      obtain ⟨ml, hml⟩ : ∃ ml, ml = m + 1 := ⟨_, rfl⟩
      rw [← hml] at KC5 CELLS q1
      have z3 : (0 : Int) ≤ (m : Int) := by omega
      have z4 : (m : Int) < (ml : Int) := by omega
      clear c4 ho4 lm4 x4 hsv hcl hlo d1 d2 k0 k2 hgl hbq T4 hle LAST SZ KC EOH LIMF LIM hnm hpa hml hM2 her
      go_upto_region 5 with fail
      have D4 := Lib.hid (show Still w4 w4.drew from (Still.refl _).drew)
      go_region_held3 (fun W => W.cell? ⟨gl, 0, none⟩ = some (.pointer (some ⟨g, 0, none⟩)) ∧ W.cell? ⟨gl, 2, none⟩ = some (.slice (some ⟨bq, 0, none⟩) ml c5) ∧ W.cell? ⟨bq, m * 2, none⟩ = some (.int .i64 (pa : Int))) (first | exact KC5.out _ D4.out | exact KC5.out _ S5.out | exact HLD.out) (first
        | (go_at_call 83; with_reducible refine (LAST5.out _ D4.out).mono ?_; rintro e w5 ⟨rfl, rfl⟩)
        | (go_at_call 89; with_reducible refine (NM5.out _ D4.out).mono ?_; rintro e w5 ⟨rfl, s5⟩; have S5 := Lib.hid (Still.trans D4.out s5); clear s5)
        | (go_at_call 88; with_reducible refine (SY.out _ S5.out).mono ?_; rintro e w6 ⟨rfl, l6⟩; have L6 := Lib.hid l6; clear l6; have HLD := Lib.hid (CELLS.out _ _ S5.out L6.out)))
      all_goals
        by_cases h0 : er = 0
        · subst h0
          have EB := Lib.hid (fun gf => (EA.out gf).trans (if_neg (by simp)))
          have L6w := CH.out _ _ S5.out L6.out
          have s6 := LLeft.low HH.out L6w HS0.out BND.out.2.2
          obtain ⟨c6, own6, lo6, ho6, lm6⟩ := L6w
          obtain ⟨sv6, x6⟩ := lm6.log
          have k6 := x6.cells.2.2.2.2
          have f6 := x6.frozen 4
          have hne : sv6.ownBlock ≠ some gl := own_neM x6.blk x6.row (by decide)
          have cs := chg_set w6 gl 4 (.bool false)
          have L7 : LLeft w6 (w6.setCell ⟨gl, 4, none⟩ (.bool false)) base g gl own6 lo6 M2 { S1 with isOpen := false } :=
            lm6.turn x6 (cs.mono (fun b _ e => .inl e)) (sv' := sv6) (x6.blk.setc 4 (.bool false)) (cs.own x6.row (fun b hb e => hne (by rw [← (show b = gl from e)]; exact hb))) (.inl rfl)
          have L7w : LLeft w (w6.setCell ⟨gl, 4, none⟩ (.bool false)) base g gl own lo M2 { S1 with isOpen := false } := LLeft.chain c6 ho6 L7
          obtain ⟨w7, hw7⟩ : ∃ w7, w7 = w6.setCell ⟨gl, 4, none⟩ (.bool false) := ⟨_, rfl⟩
          rw [← hw7] at L7w
          have T7 := HT.out.still (LLeft.low HH.out L7w HS0.out BND.out.2.2)
          obtain ⟨c7, own7, lo7, ho7, lm7⟩ := L7w
          have R7 : RowP w7 (fun x => P x ∧ x < w.heap.size) A n c b := (HR.out.mono (Q := fun x => P x ∧ x < w.heap.size) (fun x hx hl => ⟨hx, hl⟩)).chg c7 (fun x hx _ hh => by
            rcases hh with hh | hh
            · exact hh (HP.out x hx.1).1
            · exact hh (HP.out x hx.1).2)
          have BG := Lib.hid (begin_any lm7 (Lg.shut_ok PP.out.1) G2.out (by have := BND.out.2.1; omega) T7 R7 (fun x hx => by rw [(ho7 x hx.2).1, (ho7 x hx.2).2]; exact HP.out x hx.1) HN.out)
          have CH7 := Lib.hid (fun w8 M8 S8 (l : LLeft w7 w8 base g gl own7 lo7 M8 S8) => LLeft.chain c7 ho7 l)
          have HW7 := Lib.hid hw7
          clear c6 ho6 lm6 x6 hne cs L7 c7 ho7 lm7 T7 R7 s6 hw7 CH SY NM5 LAST5 CELLS KC5 EA HLD
          go_wp2_with fail
          rw [← HW7.out]
          refine BG.out.mono ?_
          rintro e w8 ⟨gf, hgf, rfl, l8⟩
          have L8 := Lib.hid (CH7.out _ _ _ l8)
          have hgf2 := GF.out gf hgf
          clear l8 hgf
          go_wp2_with fail
          go_ret
          exact ⟨gf, hgf2, by rw [EB.out]; rfl, by rw [EB.out]; exact L8.out⟩
        · have b1 : (er != 0) = true := by simpa using h0
          have EB := Lib.hid (fun gf => (EA.out gf).trans (if_pos h0))
          have L6w := Lib.hid (CH.out _ _ S5.out L6.out)
          obtain ⟨gf, hgf⟩ : ∃ gf, M.fs gf = none := ⟨_, HH.out.med.fresh⟩
          clear CH SY NM5 LAST5 CELLS KC5 EA HLD h0
          go_wp2_with fail
          go_ret
          exact ⟨gf, hgf, by rw [EB.out]; rfl, by rw [EB.out]; exact L6w.out⟩
end Go.Proofs.YtfneloobfidckaaGreatDoor

/- Contract: lay and Append, whatever the log; what holds of a log behind them. It proves no statement. -/

namespace Go.Proofs.YtfneloobfidckaaGreatDoor
open Go.RowKit Go.Maps Go.WideMaps Go.Sort
set_option linter.unusedVariables false
set_option linter.unusedSimpArgs false

def layA (M : Me) (S : Lg) (b : List UInt8) (gf : Nat) : Int × Me × Lg := if S.isOpen = false then beginL M S b gf else match S.segs.getLast? with
  | some p => layO M S b gf (S.segs.length - 1) p
  | none => (0, M, S)
/-- Where the last segment stands. -/
theorem Lg.last_of {S : Lg} (h : 0 < S.segs.length) : ∃ (m : Nat) (p : Nat × Nat), S.segs.length = m + 1 ∧ S.segs[m]? = some p ∧ S.segs.getLast? = some p := by
  obtain ⟨m, hm⟩ : ∃ m, S.segs.length = m + 1 := ⟨S.segs.length - 1, by omega⟩
  obtain ⟨q, hq⟩ : ∃ q, S.segs[m]? = some q := ⟨_, List.getElem?_eq_getElem (by omega)⟩
  exact ⟨m, q, hm, hq, by rw [List.getLast?_eq_getElem?, hm, show m + 1 - 1 = m by omega, hq]⟩
theorem layA_open {M : Me} {S : Lg} {b : List UInt8} {gf m : Nat} {p : Nat × Nat} (ho : S.isOpen = true) (hm : S.segs.length = m + 1) (hp : S.segs.getLast? = some p) : layA M S b gf = layO M S b gf m p := by
  unfold layA
  rw [if_neg (by rw [ho]; decide), hp, hm, show m + 1 - 1 = m by omega]
theorem layA_shut {M : Me} {S : Lg} {b : List UInt8} {gf : Nat} (ho : S.isOpen = false) : layA M S b gf = beginL M S b gf := if_pos ho
theorem lay_any {w0 w : World} {base g gl k : Nat} {own : Own} {lo : LOwn} {M : Me} {S : Lg} {P : Nat → Prop} {A : Option Addr} {n c : Nat} {b : List UInt8} (h : LM w base g gl own lo M S) (hok : S.ok) (hg : M.good k) (hk : k ≤ 700000) (T : SgT w0) (s0 : Still w0 w) (hb0 : w0.heap.size ≤ base) (hr : RowP w P A n c b) (hP : ∀ x, P x → own x = none ∧ lo x = none) (hn : n ≤ 17000) :
    Calls Tryz.prog 82 #[.pointer (some ⟨gl, 0, none⟩), .slice A n c] w fun e w' => ∃ gf, M.fs gf = none ∧ e = .returned (.int .i64 (layA M S b gf).1) ∧ LLeft w w' base g gl own lo (layA M S b gf).2.1 (layA M S b gf).2.2 := by
  cases ho : S.isOpen with
  | true =>
    obtain ⟨m, p, hm, hp, hl⟩ := Lg.last_of (S := S) (by have := hok.opn ho; have := hok.fresh; omega)
    refine (lay_open h hok ho hg hk T s0 hb0 hm hp hr hP hn).mono ?_
    rintro e w' ⟨gf, a, b, c⟩
    exact ⟨gf, a, by rw [layA_open ho hm hl]; exact b, by rw [layA_open ho hm hl]; exact c⟩
  | false =>
    obtain ⟨sv, hl⟩ := h.log
    refine (lay_closed hl ho (Q := fun v w' => ∃ gf, M.fs gf = none ∧ v = .int .i64 (layA M S b gf).1 ∧ LLeft w w' base g gl own lo (layA M S b gf).2.1 (layA M S b gf).2.2) ((begin_any h hok hg (by omega) (T.still s0) hr hP hn).mono ?_)).mono ?_
    · rintro e w' ⟨gf, a, b, c⟩
      refine ⟨_, b, gf, a, ?_, ?_⟩
      · rw [layA_shut ho]
      · rw [layA_shut ho]; exact c
    · rintro e w' ⟨v, rfl, gf, a, rfl, c⟩
      exact ⟨gf, a, rfl, c⟩
/-! ### What holds behind -/
theorem rise_len : ∀ (X : List Nat) (N : Nat), X.Pairwise (fun a b => a < b) → (∀ x ∈ X, x < N) → X.length ≤ N
  | [], _, _, _ => Nat.zero_le _
  | x :: r, N, h, hN => by
    have h1 := List.pairwise_cons.1 h
    have := rise_len (r.map (· - (x + 1))) (N - (x + 1)) (by
      rw [List.pairwise_map]
      refine h1.2.imp_of_mem ?_
      intro a b ha hb hab
      have := h1.1 a ha
      have := h1.1 b hb
      omega) (by
      intro y hy
      obtain ⟨a, ha, rfl⟩ := List.mem_map.1 hy
      have := h1.1 a ha
      have := hN a (List.mem_cons_of_mem _ ha)
      show a - (x + 1) < N - (x + 1)
      omega)
    rw [List.length_map] at this
    have := hN x List.mem_cons_self
    rw [List.length_cons]
    omega
termination_by X => X.length
decreasing_by simp
theorem nextL_above {S : Lg} (h : S.ok) : ∀ p ∈ S.segs, p.1 < nextL S := by
  intro p hp
  rcases Nat.eq_zero_or_pos S.segs.length with h0 | h0
  · rw [List.length_eq_zero_iff.1 h0] at hp
    cases hp
  · obtain ⟨m, q, hm, hq, hl⟩ := Lg.last_of h0
    rw [nextL_last hm hq]
    obtain ⟨j, hj, e⟩ := List.mem_iff_getElem.1 hp
    obtain ⟨hm', eq⟩ := List.getElem?_eq_some_iff.1 hq
    by_cases hjm : j = m
    · subst hjm
      rw [← e, eq]; omega
    · have := List.pairwise_iff_getElem.1 h.rise j m hj hm' (by omega)
      rw [e, eq] at this
      omega
theorem Lg.grown_ok {S : Lg} (h : S.ok) (hn : nextL S < 1048576) {z : Nat} (hz : z ≤ 16777216) : (S.grown (nextL S, z)).ok := by
  have hr : (S.segs ++ [(nextL S, z)]).Pairwise fun p q => p.1 < q.1 := by
    rw [List.pairwise_append]
    refine ⟨h.rise, List.pairwise_singleton _ _, fun a ha b hb => ?_⟩
    have : b = (nextL S, z) := by simpa using hb
    subst this
    exact nextL_above h a ha
  have hnum : ∀ p ∈ S.segs ++ [(nextL S, z)], p.1 < 1048576 ∧ p.2 ≤ 16777216 := fun p hp => by
    rcases List.mem_append.1 hp with hp | hp
    · exact h.num p hp
    · have : p = (nextL S, z) := by simpa using hp
      subst this
      exact ⟨hn, hz⟩
  refine ⟨h.lim, hnum, hr, ?_, ?_, fun _ => Nat.succ_pos _⟩
  · have := rise_len ((S.segs ++ [(nextL S, z)]).map (·.1)) 1048576 (by rw [List.pairwise_map]; exact hr) (fun x hx => by
      obtain ⟨p, hp, rfl⟩ := List.mem_map.1 hx
      exact (hnum p hp).1)
    rw [List.length_map] at this
    exact this
  · show S.fresh + 1 ≤ (S.segs ++ [(nextL S, z)]).length
    have := h.fresh
    rw [List.length_append]
    simp only [List.length_cons, List.length_nil]
    omega
theorem nextL_lt {S : Lg} (h : S.ok) (hne : nextL S ≠ 1048576) : nextL S < 1048576 := by have := nextL_le h; omega
theorem beginL_ok {M : Me} {S : Lg} (h : S.ok) {b : List UInt8} (hb : b.length ≤ 17000) (gf : Nat) : (beginL M S b gf).2.2.ok := by
  unfold beginL
  split
  · exact h
  · rename_i h1
    split
    · exact h
    · split
      · exact h
      · split
        · exact h
        · exact Lg.grown_ok h (nextL_lt h h1) (by omega)
theorem beginL_good {M : Me} {k : Nat} (h : M.good k) (S : Lg) (b : List UInt8) (gf : Nat) : (beginL M S b gf).2.1.good (k + 3) := by
  have h1 := opCreate_good h (nameS (nextL S)) gf
  have h2 := opAppend_good h1 (nameS (nextL S)) (magicL ++ b)
  have h3 := opRemove_good h2 (nameS (nextL S))
  unfold beginL
  split
  · exact h.mono (by omega)
  · split
    · exact h1.mono (by omega)
    · split
      · exact h3
      · split
        · exact h2.mono (by omega)
        · exact h2.mono (by omega)
theorem beginL_laid {M : Me} {S : Lg} (h : S.ok) {b : List UInt8} (hb : b.length ≤ 17000) {gf : Nat} (h0 : (beginL M S b gf).1 = 0) : LaidOK (beginL M S b gf).2.2 b.length := by
  unfold beginL at h0 ⊢
  split at h0
  · cases h0
  · rename_i h1
    rw [if_neg h1]
    split at h0
    · rename_i h2; exact absurd h0 h2
    · rename_i h2
      rw [if_neg h2]
      split at h0
      · split at h0 <;> cases h0
      · rename_i h3
        rw [if_neg h3]
        split at h0
        · rename_i h4; exact absurd h0 h4
        · rename_i h4
          rw [if_neg h4]
          have := h.few
          refine ⟨S.segs.length, (nextL S, 8 + b.length), ?_, ?_, by omega, by show _ ≤ 8 + b.length; omega, by show 8 + b.length ≤ _; omega⟩
          · show (S.segs ++ [(nextL S, 8 + b.length)]).length = _
            rw [List.length_append]
            rfl
          · show (S.segs ++ [(nextL S, 8 + b.length)])[S.segs.length]? = _
            simp
theorem extendL_at (M : Me) {S : Lg} {b : List UInt8} {m : Nat} {p : Nat × Nat} (hm : S.segs.length = m + 1) (hp : S.segs[m]? = some p) : extendL M S b = if (opAppend M (nameS (p.1 : Int)) b).1 = 0 then (0, (opAppend M (nameS (p.1 : Int)) b).2, S.sized m (p.2 + b.length)) else ((opAppend M (nameS (p.1 : Int)) b).1, (opAppend M (nameS (p.1 : Int)) b).2, S) := by
  unfold extendL
  rw [List.getLast?_eq_getElem?, hm, show m + 1 - 1 = m by omega, hp]
/-- What the size's call leaves. -/
theorem sizeL_keeps {w : World} {base g : Nat} {own : Own} {M : Me} (hM : MedI w base own g M) {S : Lg} (h : S.ok) {m : Nat} {p : Nat × Nat} (hm : S.segs.length = m + 1) (hp : S.segs[m]? = some p) : (sizeL M S m).2.ok ∧ (sizeL M S m).2.segs.length = m + 1 ∧ (sizeL M S m).2.segs[m]? = some (p.1, (sizeL M S m).1) ∧ (sizeL M S m).2.limit = S.limit ∧ (sizeL M S m).2.isOpen = S.isOpen ∧ (sizeL M S m).2.fresh = S.fresh := by
  obtain ⟨z, hz, hzz⟩ := sizeL_at M S hp
  rw [hz]
  rcases hzz with ⟨e, e2⟩ | ⟨e, e2⟩
  · rw [e2]; exact ⟨h, hm, by rw [hp, e], rfl, rfl, rfl⟩
  · rw [e2]; exact ⟨Lg.sized_ok h (by rw [e]; exact bytes_len hM _), by rw [Lg.sized_length]; exact hm, Lg.sized_get hp, rfl, rfl, rfl⟩
theorem layO_all {w : World} {base g : Nat} {own : Own} {M : Me} {k : Nat} (hM : MedI w base own g M) (hg : M.good k) {S : Lg} (h : S.ok) {b : List UInt8} (hb : b.length ≤ 17000) {m : Nat} {p : Nat × Nat} (hm : S.segs.length = m + 1) (hp : S.segs[m]? = some p) (gf : Nat) :
    (layO M S b gf m p).2.2.ok ∧ (layO M S b gf m p).2.1.good (k + 4) ∧ ((layO M S b gf m p).1 = 0 → LaidOK (layO M S b gf m p).2.2 b.length) := by
  obtain ⟨i1, i2, i3, i4, i5, i6⟩ := sizeL_keeps hM h hm hp
  have hlim := h.lim
  have hs := opSync_good hg (nameS (p.1 : Int))
  have hfew := i1.few
  unfold layO
  split
  · rename_i hle
    rw [extendL_at M i2 i3]
    have ha := opAppend_good hg (nameS (p.1 : Int)) b
    split
    · refine ⟨Lg.sized_ok i1 (by show (sizeL M S m).1 + b.length ≤ _; omega), ha.mono (by omega), fun _ => ⟨m, (p.1, (sizeL M S m).1 + b.length), ?_, (by have := Lg.sized_get (z := (sizeL M S m).1 + b.length) i3; exact this), by omega, by show _ ≤ (sizeL M S m).1 + b.length; omega, by show (sizeL M S m).1 + b.length ≤ _; omega⟩⟩
      show ((sizeL M S m).2.sized m _).segs.length = _
      rw [Lg.sized_length]
      exact i2
    · rename_i hne
      exact ⟨i1, ha.mono (by omega), fun e => absurd e hne⟩
  · split
    · rename_i hne
      exact ⟨i1, hs.mono (by omega), fun e => absurd e hne⟩
    · exact ⟨beginL_ok (Lg.shut_ok i1) hb gf, beginL_good hs _ b gf, fun e => beginL_laid (Lg.shut_ok i1) hb e⟩
theorem layA_all {w : World} {base g : Nat} {own : Own} {M : Me} {k : Nat} (hM : MedI w base own g M) (hg : M.good k) {S : Lg} (h : S.ok) {b : List UInt8} (hb : b.length ≤ 17000) (gf : Nat) :
    (layA M S b gf).2.2.ok ∧ (layA M S b gf).2.1.good (k + 4) ∧ ((layA M S b gf).1 = 0 → LaidOK (layA M S b gf).2.2 b.length) := by
  cases ho : S.isOpen with
  | true =>
    obtain ⟨m, p, hm, hp, hl⟩ := Lg.last_of (S := S) (by have := h.opn ho; have := h.fresh; omega)
    rw [layA_open ho hm hl]
    exact layO_all hM hg h hb hm hp gf
  | false =>
    rw [layA_shut ho]
    exact ⟨beginL_ok h hb gf, (beginL_good hg S b gf).mono (by omega), fun e => beginL_laid h hb e⟩
end Go.Proofs.YtfneloobfidckaaGreatDoor
