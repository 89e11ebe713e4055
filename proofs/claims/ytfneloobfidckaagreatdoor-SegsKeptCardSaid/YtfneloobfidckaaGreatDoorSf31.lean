/- Contracts and facts, several texts in one. It proves no statement. -/
import Derived.Test.YtfneloobfidckaaGreatDoorSf30
import Derived.Test.YtfneloobfidckaaGreatDoorSf29
import Derived.Test.YtfneloobfidckaaGreatDoorSf20

/- Contracts: Append and Commit, whatever the log. It proves no statement. -/


namespace Go.Proofs.YtfneloobfidckaaGreatDoor
open Go.RowKit Go.Maps Go.WideMaps Go.Sort
set_option linter.unusedVariables false
set_option linter.unusedSimpArgs false

def appendL (M : Me) (S : Lg) (E : Int × List UInt8) (gf : Nat) : (Nat × Nat × Nat) × Int × Me × Lg := appendR E M S (layA M S E.2 gf)
theorem encE_len {t : Int} {K D : List UInt8} (hK : K.length = 32) : (encE t K D).2.length ≤ 16425 := by
  unfold encE
  by_cases h : ckE t K D.length = 0
  · rw [if_neg (by rw [h]; decide)]
    have := szE_len (D := D) hK h
    show (bytE t K D).length ≤ _
    omega
  · rw [if_pos h]
    simp
theorem LM.above {w : World} {base g gl : Nat} {own : Own} {lo : LOwn} {M : Me} {S : Lg} (h : LM w base g gl own lo M S) {x : Nat} (hx : w.heap.size ≤ x) : own x = none ∧ lo x = none := by
  obtain ⟨sv, hl⟩ := h.log
  refine ⟨?_, ?_⟩
  · cases hq : own x with
    | none => rfl
    | some q => have := (h.med.dom _ (by rw [hq]; simp)).2; omega
  · cases hq : lo x with
    | none => rfl
    | some q => have := (hl.dom _ (by rw [hq]; simp)).2; omega
theorem append_any {w0 w : World} {base g gl k : Nat} {own : Own} {lo : LOwn} {M : Me} {S : Lg} {t : Int} {K D : List UInt8} {A : Option Addr} {n c B : Nat} (h : LM w base g gl own lo M S) (hok : S.ok) (hg : M.good k) (hk : k ≤ 700000) (T : SgT w0) (s0 : Still w0 w) (hb0 : w0.heap.size ≤ base) (hK : K.length = 32) (hr : Reads w B A n D) (hB : B ≤ w.heap.size) (hA : A = none → c = 0) (hn : n ≤ 1048576) :
    Calls Tryz.prog 20 #[.pointer (some ⟨gl, 0, none⟩), .agg (entV t K (.slice A n c))] w fun e w' => ∃ gf, M.fs gf = none ∧ e = .returned (.tuple #[plV (appendL M S (encE t K D) gf).1, .int .i64 (appendL M S (encE t K D) gf).2.1]) ∧ LLeft w w' base g gl own lo (appendL M S (encE t K D) gf).2.2.1 (appendL M S (encE t K D) gf).2.2.2 := by
  have hl := encE_len (t := t) (D := D) hK
  refine lappend_by (k := k) (B := B) (fun gf => layA M S (encE t K D).2 gf) h (T.still s0) hK hr hB hA hn ?_ ?_
  · intro _ W A2 m2 c2 s2 r2
    exact lay_any (h.still s2) hok hg hk T (Still.trans s0 s2) hb0 r2 (fun x hx => h.above hx) (by have := r2.len; omega)
  · intro gf _ h0
    exact (layA_all h.med hg hok (by omega) gf).2.2 h0
theorem appendL_all {w : World} {base g : Nat} {own : Own} {M : Me} {k : Nat} (hM : MedI w base own g M) (hg : M.good k) {S : Lg} (h : S.ok) {E : Int × List UInt8} (hb : E.2.length ≤ 17000) (gf : Nat) : (appendL M S E gf).2.2.2.ok ∧ (appendL M S E gf).2.2.1.good (k + 4) := by
  have hl := layA_all hM hg h hb gf
  unfold appendL appendR
  split
  · exact ⟨h, hg.mono (by omega)⟩
  · split
    · exact ⟨hl.1, hl.2.1⟩
    · exact ⟨hl.1, hl.2.1⟩
def cmE : Int × List UInt8 := encE 2 (List.replicate 32 0) []
/-- Commit, by what Append answers. -/
def commitR (R : (Nat × Nat × Nat) × Int × Me × Lg) : Nat × Int × Me × Lg :=
  if R.2.1 ≠ 0 then (0, R.2.1, R.2.2.1, R.2.2.2)
  else if (opSync R.2.2.1 (nameS (R.1.1 : Int))).1 ≠ 0 then (0, (opSync R.2.2.1 (nameS (R.1.1 : Int))).1, (opSync R.2.2.1 (nameS (R.1.1 : Int))).2, R.2.2.2)
  else if (opSyncDir (opSync R.2.2.1 (nameS (R.1.1 : Int))).2).1 ≠ 0 then (0, (opSyncDir (opSync R.2.2.1 (nameS (R.1.1 : Int))).2).1, (opSyncDir (opSync R.2.2.1 (nameS (R.1.1 : Int))).2).2, R.2.2.2)
  else (R.1.1, 0, (opSyncDir (opSync R.2.2.1 (nameS (R.1.1 : Int))).2).2, { R.2.2.2 with fresh := 0, isOpen := false })
def commitL (M : Me) (S : Lg) (gf : Nat) : Nat × Int × Me × Lg := commitR (appendL M S cmE gf)
theorem Lg.settled_ok {S : Lg} (h : S.ok) : ({ S with fresh := 0, isOpen := false } : Lg).ok := ⟨h.lim, h.num, h.rise, h.few, Nat.zero_le _, fun e => by cases e⟩
/-- The log settled. -/
theorem LM.settled {w : World} {base g gl : Nat} {own : Own} {lo : LOwn} {M : Me} {S : Lg} (h : LM w base g gl own lo M S) : (∃ b, w.cell? ⟨gl, 4, none⟩ = some (.bool b)) ∧ w.frozen? ⟨gl, 4, none⟩ = false ∧ (w.setCell ⟨gl, 4, none⟩ (.bool false)).cell? ⟨gl, 3, none⟩ = some (.int .i64 (S.fresh : Int)) ∧ (w.setCell ⟨gl, 4, none⟩ (.bool false)).frozen? ⟨gl, 3, none⟩ = false ∧ LLeft w ((w.setCell ⟨gl, 4, none⟩ (.bool false)).setCell ⟨gl, 3, none⟩ (.int .i64 0)) base g gl own lo M { S with fresh := 0, isOpen := false } := by
  obtain ⟨sv, x⟩ := h.log
  have hne : sv.ownBlock ≠ some gl := own_neM x.blk x.row (by decide)
  have c1 := chg_set w gl 4 (.bool false)
  have c2 := chg_set (w.setCell ⟨gl, 4, none⟩ (.bool false)) gl 3 (.int .i64 0)
  have b1 : Blk (w.setCell ⟨gl, 4, none⟩ (.bool false)) gl 156 (logC g { S with isOpen := false } sv) := x.blk.setc 4 (.bool false)
  refine ⟨⟨_, x.cells.2.2.2.2⟩, x.frozen 4, b1.cell 3, b1.frozen 3, h.turn x ((c1.trans c2 (fun _ _ h => h)).mono (fun b _ e => .inl e)) (sv' := sv) (b1.setc 3 (.int .i64 0)) ?_ (.inl rfl)⟩
  have hk : ∀ b, sv.ownBlock = some b → ¬ b = gl := fun b hb e => hne (by rw [← e]; exact hb)
  exact c2.own (c1.own x.row hk) hk
set_option maxRecDepth 100000 in
set_option maxHeartbeats 12800000 in
theorem commit_any {w0 w : World} {base g gl k : Nat} {own : Own} {lo : LOwn} {M : Me} {S : Lg} (h : LM w base g gl own lo M S) (hok : S.ok) (hg : M.good k) (hk : k ≤ 700000) (T : SgT w0) (s0 : Still w0 w) (hb0 : w0.heap.size ≤ base) :
    Calls Tryz.prog 22 #[.pointer (some ⟨gl, 0, none⟩)] w fun e w' => ∃ gf, M.fs gf = none ∧ e = .returned (.tuple #[.int .i64 ((commitL M S gf).1 : Int), .int .i64 (commitL M S gf).2.1]) ∧ LLeft w w' base g gl own lo (commitL M S gf).2.2.1 (commitL M S gf).2.2.2 := by
  have AP := append_any (t := 2) (K := List.replicate 32 0) (D := []) (A := none) (n := 0) (c := 0) (B := 0) h hok hg hk T s0 hb0 (by simp) Reads.nil0 (Nat.zero_le _) (fun _ => rfl) (by omega)
  rw [zent, show encE 2 (List.replicate 32 0) [] = cmE from rfl] at AP
  have AP := Lib.hid AP
  have ALL := Lib.hid (fun gf => appendL_all (E := cmE) h.med hg hok (by have := encE_len (t := 2) (K := List.replicate 32 0) (D := []) (by simp); unfold cmE; omega) gf)
  have HH := Lib.hid h
  have HT := Lib.hid T
  have HS0 := Lib.hid s0
  have BND := Lib.hid (And.intro hk hb0)
  have UP := Lib.hid (show Tryz.prog.underlying 39 = some _ from Tryz.underlying39)
  clear h hg T s0 hok hk hb0
  go_enter Tryz.func22, Tryz.ntmps22
  go_wp2_with fail
  refine AP.out.mono ?_
  rintro e w2 ⟨gf, hgf, rfl, l2⟩
  have ALG := ALL.out gf
  obtain ⟨R, hR⟩ : ∃ R, R = appendL M S cmE gf := ⟨_, rfl⟩
  have EC := Lib.hid (show commitL M S gf = commitR R by rw [hR]; rfl)
  rw [← hR] at l2 ALG ⊢
  obtain ⟨⟨pa, pb, pc⟩, er, M1, S1⟩ := R
  clear hR
  dsimp only at l2 ALG ⊢
  obtain ⟨w3, hw3⟩ : ∃ w3, w3 = (w2.alloc (.cells #[.int .i64 0, .int .i64 0, .int .i64 0] 39)).setRow w2.heap.size #[.int .i64 (pa : Int), .int .i64 (pb : Int), .int .i64 (pc : Int)] := ⟨_, rfl⟩
  have s23 : Still w2 w3 := by rw [hw3]; exact below_setRow ((Still.refl _).alloc (Nat.le_refl _) _) (Nat.le_refl _) _
  have B3 : Blk w3 w2.heap.size 39 #[.int .i64 (pa : Int), .int .i64 (pb : Int), .int .i64 (pc : Int)] := by rw [hw3]; exact setRow_heap _ _ _ _ _ _ (Blk.new w2 _ _)
  have hx3 : w2.heap.size < w3.heap.size := B3.lt
  have HW3 := Lib.hid hw3
  have L3 := Lib.hid (l2.after s23)
  have X3 := Lib.hid (show ∀ own2 lo2, LM w2 base g gl own2 lo2 M1 S1 → own2 w2.heap.size = none ∧ lo2 w2.heap.size = none from fun _ _ lm => lm.above (Nat.le_refl _))
  obtain ⟨c2, own2, lo2, ho2, lm2⟩ := l2
  have x2 := lm2.above (Nat.le_refl w2.heap.size)
  have CH := Lib.hid (fun W (M' : Me) (S' : Lg) (l : LLeft w3 W base g gl own2 lo2 M' S') => show LLeft w W base g gl own lo M' S' from LLeft.chain c2 ho2 (LLeft.of_still s23 l))
  have LM3 := Lib.hid (lm2.still s23)
  have G1 := Lib.hid ALG
  have HB3 := Lib.hid B3
  have HX2 := Lib.hid x2
  have HX3 := Lib.hid hx3
  have GFF := Lib.hid hgf
  have T3 := Lib.hid (HT.out.still (LLeft.low HH.out L3.out HS0.out BND.out.2))
  clear hw3 s23 B3 hx3 c2 ho2 lm2 x2 ALG hgf AP ALL X3
  obtain ⟨gx, hgx⟩ : ∃ gx, gx = w2.heap.size := ⟨_, rfl⟩
  go_upto_region 2 with (first
    | (guard_target =~ wpList _ _ _ (Oper.mk (some 4) (Op.alloc _) _ _ _ _ :: _) _ _; go_must (refine wpList_alloc_arr rfl 39 rfl (some 4) rfl #[.int .i64 0, .int .i64 0, .int .i64 0] 3 zeroPl ?_))
    | (guard_target =~ wpList _ _ _ (Oper.mk none (Op.store _ _ _) _ _ _ _ :: _) _ _; go_must (refine wpList_store_rowTo rfl 39 (.tmp 4) (.tmp 10) rfl rfl w2.heap.size #[.int .i64 (pa : Int), .int .i64 (pb : Int), .int .i64 (pc : Int)] rfl rfl 39 _ (Blk.new w2 _ _) (sizePl.trans rfl) rfl (by simp [Value.oneCell']) ?_); rw [← HW3.out]))
  clear HW3
  rw [← hgx] at HB3 HX2 HX3 ⊢
  clear hgx
  by_cases z1 : er = 0
  · subst z1
    obtain ⟨M2, hM2⟩ : ∃ M2, M2 = (opSync M1 (nameS (pa : Int))).2 := ⟨_, rfl⟩
    obtain ⟨er2, her2⟩ : ∃ er2, er2 = (opSync M1 (nameS (pa : Int))).1 := ⟨_, rfl⟩
    obtain ⟨M3, hM3⟩ : ∃ M3, M3 = (opSyncDir M2).2 := ⟨_, rfl⟩
    obtain ⟨er3, her3⟩ : ∃ er3, er3 = (opSyncDir M2).1 := ⟨_, rfl⟩
    have EC2 := Lib.hid (show commitL M S gf = if er2 ≠ 0 then (0, er2, M2, S1) else if er3 ≠ 0 then (0, er3, M3, S1) else (pa, 0, M3, { S1 with fresh := 0, isOpen := false }) from by
      rw [EC.out, her3, hM3, her2, hM2]
      unfold commitR
      rw [if_neg (by simp)])
    obtain ⟨sv3, x3⟩ := LM3.out.log
    have k0 := x3.cells.1
    have hgl : gl < w3.heap.size := x3.blk.lt
    have hne : gl ≠ gx := fun e => by
      have h1 := x3.ol
      rw [e, HX2.out.2] at h1
      cases h1
    have HNE := Lib.hid hne
    have KC := Lib.hid (fun W (s : Still w3 W) => show W.cell? ⟨gl, 0, none⟩ = some (.pointer (some ⟨g, 0, none⟩)) ∧ W.cell? ⟨gx, 0, none⟩ = some (.int .i64 (pa : Int)) from ⟨(s.cell (p := ⟨gl, 0, none⟩) hgl).trans k0, (s.cell (p := ⟨gx, 0, none⟩) HX3.out).trans (HB3.out.cell 0)⟩)
    have NM := Lib.hid (fun W (s : Still w3 W) => name_any (pa : Int) W (T3.out.still s))
    have SY := Lib.hid (fun W (s : Still w3 W) => sync_M (nameS (pa : Int)) (LM3.out.med.still s) G1.out.2.ok (by have := nameS_size (pa : Int); unfold maxLen; omega))
    have G2 := Lib.hid (show M2.good (k + 5) by rw [hM2]; exact opSync_good G1.out.2 _)
    rw [← hM2, ← her2] at SY
    obtain ⟨nm, hnm⟩ : ∃ nm, nm = nameS (pa : Int) := ⟨_, rfl⟩
    rw [← hnm] at SY NM
    have n1 : own2 gl = none := LM3.out.ap2 gl (by rw [x3.ol]; simp)
    have CELLS := Lib.hid (fun W W' (s : Still w3 W) (l : Left W W' base g own2 M2) => show W'.cell? ⟨gl, 0, none⟩ = some (.pointer (some ⟨g, 0, none⟩)) ∧ W'.cell? ⟨gx, 0, none⟩ = some (.int .i64 (pa : Int)) from
      ⟨(World.cell?_of_block (w := W) (l.1.block gl (Nat.lt_of_lt_of_le hgl s.size) (fun hh => hh n1))).trans (KC.out W s).1, (World.cell?_of_block (w := W) (l.1.block gx (Nat.lt_of_lt_of_le HX3.out s.size) (fun hh => hh HX2.out.1))).trans (KC.out W s).2⟩)
    have GLX := Lib.hid hgl
    clear x3 k0 hgl hne n1 hM2 her2 hnm EC
    go_upto_region 3 with fail
    have D3 := Lib.hid (show Still w3 w3.drew from (Still.refl _).drew)
    go_region_held3 (fun W => W.cell? ⟨gl, 0, none⟩ = some (.pointer (some ⟨g, 0, none⟩)) ∧ W.cell? ⟨gx, 0, none⟩ = some (.int .i64 (pa : Int))) (first | exact KC.out _ D3.out | exact KC.out _ S5.out | exact HLD.out) (first
      | (go_at_call 89; with_reducible refine (NM.out _ D3.out).mono ?_; rintro e w5 ⟨rfl, s5⟩; have S5 := Lib.hid (Still.trans D3.out s5); clear s5)
      | (go_at_call 88; with_reducible refine (SY.out _ S5.out).mono ?_; rintro e w6 ⟨rfl, l6⟩; have L6 := Lib.hid l6; clear l6; have HLD := Lib.hid (CELLS.out _ _ S5.out L6.out)))
    all_goals
      by_cases z2 : er2 = 0
      · subst z2
        have EC3 := Lib.hid (EC2.out.trans (if_neg (by simp)))
        have LL := LLeft.med (LM3.out.still S5.out) L6.out
        have W6 := Lib.hid (LLeft.of_still S5.out LL)
        obtain ⟨c6, own6, lo6, ho6, lm6⟩ := W6.out
        have HX6 := Lib.hid (show own6 gx = none ∧ lo6 gx = none by rw [(ho6 gx HX3.out).1, (ho6 gx HX3.out).2]; exact HX2.out)
        have CH6 := Lib.hid (fun W (M' : Me) (S' : Lg) (l : LLeft w6 W base g gl own6 lo6 M' S') => show LLeft w W base g gl own lo M' S' from CH.out _ _ _ (LLeft.chain c6 ho6 l))
        have SDIR := Lib.hid (syncDir_M lm6.med G2.out.ok (by have := G2.out.cnt; have := BND.out.1; omega))
        rw [← hM3, ← her3] at SDIR
        clear hM3 her3
        have LM6 := Lib.hid lm6
        have HX66 := Lib.hid (show gx < w6.heap.size from Nat.lt_of_lt_of_le HX3.out c6.size)
        have k6 := HLD.out.1
        clear LL c6 ho6 lm6 NM SY CELLS KC CH
        go_wp2_with fail
        refine SDIR.out.mono ?_
        rintro e w7 ⟨rfl, l7⟩
        have kx : w7.cell? ⟨gx, 0, none⟩ = some (.int .i64 (pa : Int)) := (World.cell?_of_block (w := w6) (l7.1.block gx HX66.out (fun hh => hh HX6.out.1))).trans HLD.out.2
        have L7 := LLeft.med LM6.out l7
        by_cases z3 : er3 = 0
        · subst z3
          have EB := Lib.hid (EC3.out.trans (if_neg (by simp)))
          obtain ⟨c7, own7, lo7, ho7, lm7⟩ := L7
          obtain ⟨⟨bb, k4⟩, f4, k3, f3, L8⟩ := lm7.settled
          have L8w := Lib.hid (CH6.out _ _ _ (LLeft.chain c7 ho7 L8))
          obtain ⟨w8, hw8⟩ : ∃ w8, w8 = (w7.setCell ⟨gl, 4, none⟩ (.bool false)).setCell ⟨gl, 3, none⟩ (.int .i64 0) := ⟨_, rfl⟩
          have kx8 : w8.cell? ⟨gx, 0, none⟩ = some (.int .i64 (pa : Int)) := by
            rw [hw8]
            have b1 := (chg_set w7 gl 4 (.bool false)).block gx (Nat.lt_of_lt_of_le HX66.out l7.1.size) (fun e => HNE.out e.symm)
            have b2 := (chg_set (w7.setCell ⟨gl, 4, none⟩ (.bool false)) gl 3 (.int .i64 0)).block gx (Nat.lt_of_lt_of_le (Nat.lt_of_lt_of_le HX66.out l7.1.size) (chg_set w7 gl 4 (.bool false)).size) (fun e => HNE.out e.symm)
            exact (World.cell?_of_block (w := w7) (b2.trans b1)).trans kx
          have HW8 := Lib.hid hw8
          rw [← hw8] at L8w
          clear c7 ho7 lm7 L8 hw8 l7 k6 EC2 EC3 SDIR
          go_upto_region 9 with fail
          rw [← HW8.out]
          clear k3 k4 f3 f4 HW8 kx
          go_wp2_with fail
          go_ret2
          exact ⟨gf, GFF.out, by rw [EB.out]; rfl, by rw [EB.out]; exact L8w.out⟩
        · have b1 : (er3 == 0) = false := by simpa using z3
          have b2 : (er3 != 0) = true := by simpa using z3
          have EB := Lib.hid (EC3.out.trans (if_pos z3))
          have L7w := Lib.hid (CH6.out _ _ _ L7)
          clear z3 l7 L7 kx k6 EC2 EC3 SDIR
          go_wp2_with fail
          go_ret2
          exact ⟨gf, GFF.out, by rw [EB.out]; rfl, by rw [EB.out]; exact L7w.out⟩
      · have b1 : (er2 == 0) = false := by simpa using z2
        have b2 : (er2 != 0) = true := by simpa using z2
        have EB := Lib.hid (EC2.out.trans (if_pos z2))
        have L6w := Lib.hid (CH.out _ _ _ (LLeft.of_still S5.out (LLeft.med (LM3.out.still S5.out) L6.out)))
        clear z2 NM SY CELLS KC CH EC2
        go_wp2_with fail
        go_ret2
        exact ⟨gf, GFF.out, by rw [EB.out]; rfl, by rw [EB.out]; exact L6w.out⟩
  · have b1 : (er == 0) = false := by simpa using z1
    have b2 : (er != 0) = true := by simpa using z1
    have EB := Lib.hid (show commitL M S gf = (0, er, M1, S1) from EC.out.trans (if_pos z1))
    clear z1
    go_wp2_with fail
    go_ret2
    exact ⟨gf, GFF.out, by rw [EB.out]; rfl, by rw [EB.out]; exact L3.out⟩
end Go.Proofs.YtfneloobfidckaaGreatDoor

/- What the room is worth, from call to call. It proves no statement. -/

namespace Go.Proofs.YtfneloobfidckaaGreatDoor
open Go.RowKit Go.Maps Go.WideMaps Go.Sort
set_option linter.unusedVariables false
set_option linter.unusedSimpArgs false

def szF (fs : Nat → Option Fi) (f : Nat) : Nat := match fs f with | some F => F.now.length | none => 0
def sumN (fs : Nat → Option Fi) (N : NT) : Nat := (N.map fun p => szF fs p.2).sum
theorem used_sumN (M : Me) : M.used = sumN M.fs M.now := by
  rw [Me.used_eq]
  rfl
theorem sumN_ins (fs : Nat → Option Fi) (x : List UInt8 × Nat) (N : NT) : sumN fs (nIns x N) = szF fs x.2 + sumN fs N := by
  induction N with
  | nil => simp [sumN, nIns]
  | cons y r ih =>
    unfold nIns
    split
    · simp [sumN]
    · unfold sumN at ih ⊢
      rw [List.map_cons, List.sum_cons, ih, List.map_cons, List.sum_cons]
      omega
theorem sumN_del (fs : Nat → Option Fi) (N : NT) (s : List UInt8) : sumN fs (nDel N s) ≤ sumN fs N := by
  unfold nDel
  induction N with
  | nil => exact Nat.le_refl _
  | cons y r ih =>
    rw [List.filter_cons]
    unfold sumN at ih ⊢
    split
    · rw [List.map_cons, List.sum_cons, List.map_cons, List.sum_cons]; omega
    · rw [List.map_cons, List.sum_cons]; omega
theorem sumN_del_mem (fs : Nat → Option Fi) {N : NT} {s : List UInt8} {gf : Nat} (hm : (s, gf) ∈ N) : sumN fs (nDel N s) + szF fs gf ≤ sumN fs N := by
  induction N with
  | nil => cases hm
  | cons y r ih =>
    unfold nDel
    rw [List.filter_cons]
    rcases List.mem_cons.1 hm with h | h
    · subst h
      have h1 := sumN_del fs r s
      unfold nDel at h1
      unfold sumN at h1 ⊢
      simp only [beq_self_eq_true, Bool.not_true, Bool.false_eq_true, if_false, List.map_cons, List.sum_cons]
      omega
    · have h1 := ih h
      unfold nDel at h1
      unfold sumN at h1 ⊢
      split
      · rw [List.map_cons, List.sum_cons, List.map_cons, List.sum_cons]; omega
      · rw [List.map_cons, List.sum_cons]; omega
/-- No file has two names. -/
def Once (N : NT) : Prop := (N.map (·.2)).Nodup
theorem Once.del {N : NT} (h : Once N) (s : List UInt8) : Once (nDel N s) := by
  unfold Once nDel at *
  exact List.Nodup.sublist (List.Sublist.map _ List.filter_sublist) h
theorem once_ins {x : List UInt8 × Nat} {N : NT} : Once (nIns x N) ↔ (∀ p ∈ N, p.2 ≠ x.2) ∧ Once N := by
  induction N with
  | nil => simp [nIns, Once]
  | cons y r ih =>
    unfold nIns
    split
    · unfold Once
      rw [List.map_cons, List.nodup_cons]
      constructor
      · rintro ⟨h1, h2⟩
        exact ⟨fun p hp e => h1 (by rw [← e]; exact List.mem_map.2 ⟨p, hp, rfl⟩), h2⟩
      · rintro ⟨h1, h2⟩
        refine ⟨fun hm => ?_, h2⟩
        obtain ⟨p, hp, e⟩ := List.mem_map.1 hm
        exact h1 p hp e
    · unfold Once at ih ⊢
      rw [List.map_cons, List.nodup_cons, ih, List.map_cons, List.nodup_cons]
      constructor
      · rintro ⟨h1, h2, h3⟩
        refine ⟨fun p hp e => ?_, ?_, h3⟩
        · rcases List.mem_cons.1 hp with rfl | hp
          · exact h1 (by rw [e]; exact List.mem_map.2 ⟨x, mem_ins.2 (.inl rfl), rfl⟩)
          · exact h2 p hp e
        · intro hm
          obtain ⟨p, hp, e⟩ := List.mem_map.1 hm
          exact h1 (List.mem_map.2 ⟨p, mem_ins.2 (.inr hp), e⟩)
      · rintro ⟨h1, h2, h3⟩
        refine ⟨fun hm => ?_, fun p hp => h1 p (List.mem_cons_of_mem _ hp), h3⟩
        obtain ⟨p, hp, e⟩ := List.mem_map.1 hm
        rcases mem_ins.1 hp with rfl | hp
        · exact h1 y (by simp) e.symm
        · exact h2 (List.mem_map.2 ⟨p, hp, e⟩)
theorem Once.ne_del {N : NT} (h : Once N) {s : List UInt8} {gf : Nat} (hm : (s, gf) ∈ N) : ∀ p ∈ nDel N s, p.2 ≠ gf := by
  intro p hp e
  obtain ⟨hp1, hp2⟩ := List.mem_filter.1 hp
  have : p = (s, gf) := by
    unfold Once at h
    clear hp
    induction N with
    | nil => cases hm
    | cons y r ih =>
      rw [List.map_cons, List.nodup_cons] at h
      rcases List.mem_cons.1 hm with h1 | h1
      · rcases List.mem_cons.1 hp1 with h2 | h2
        · rw [h2, h1]
        · exact absurd (List.mem_map.2 ⟨p, h2, by rw [e, ← h1]⟩) h.1
      · rcases List.mem_cons.1 hp1 with h2 | h2
        · exact absurd (List.mem_map.2 ⟨_, h1, by rw [← h2, e]⟩) h.1
        · exact ih h.2 h1 h2
  subst this
  simp at hp2
theorem szF_other {fs : Nat → Option Fi} {gf x : Nat} (F : Fi) (h : x ≠ gf) : szF (upd fs gf F) x = szF fs x := by unfold szF; rw [upd_other _ _ h]
theorem szF_same (fs : Nat → Option Fi) (gf : Nat) (F : Fi) : szF (upd fs gf F) gf = F.now.length := by unfold szF; rw [upd_same]
theorem szF_of {fs : Nat → Option Fi} {gf : Nat} {F : Fi} (h : fs gf = some F) : szF fs gf = F.now.length := by unfold szF; rw [h]
theorem sumN_out {fs : Nat → Option Fi} {gf : Nat} (F : Fi) {N : NT} (h : ∀ p ∈ N, p.2 ≠ gf) : sumN (upd fs gf F) N = sumN fs N := by
  unfold sumN
  congr 1
  exact List.map_congr_left (fun p hp => szF_other F (h p hp))
/-- One file's bytes changed. -/
theorem sumN_upd {fs : Nat → Option Fi} {gf : Nat} (F : Fi) {N : NT} (h : Once N) {s : List UInt8} (hm : (s, gf) ∈ N) : sumN (upd fs gf F) N + szF fs gf = sumN fs N + F.now.length := by
  induction N with
  | nil => cases hm
  | cons y r ih =>
    have h' := h
    unfold Once at h'
    rw [List.map_cons, List.nodup_cons] at h'
    have e1 : ∀ fs, sumN fs (y :: r) = szF fs y.2 + sumN fs r := fun fs => by unfold sumN; rw [List.map_cons, List.sum_cons]
    rw [e1, e1]
    rcases List.mem_cons.1 hm with h1 | h1
    · subst h1
      rw [szF_same, sumN_out F (fun p hp e => h'.1 (List.mem_map.2 ⟨p, hp, e⟩))]
      dsimp only
      omega
    · have hne : y.2 ≠ gf := fun e => h'.1 (List.mem_map.2 ⟨_, h1, by rw [e]⟩)
      have := ih h'.2 h1
      rw [szF_other F hne]
      omega
/-- The room holds. -/
structure Me.Fits (M : Me) (rm : Int) : Prop where
  room : M.room = rm
  once : Once M.now
  used : (sumN M.fs M.now : Int) ≤ rm
theorem Me.Fits.new {room : Int} (h : 0 ≤ room) : (Me.new room).Fits room := ⟨rfl, List.nodup_nil, by show ((0 : Nat) : Int) ≤ room; omega⟩
theorem Me.Fits.dead {M : Me} {room : Int} (h : M.Fits room) : M.dead.Fits room := ⟨h.room, h.once, h.used⟩
theorem Me.Fits.create {M : Me} {room : Int} (h : M.Fits room) (hok : M.ok) (s : ByteArray) (gf : Nat) (hg : M.fs gf = none) : (opCreate M s gf).2.Fits room := by
  unfold opCreate
  split
  · exact h
  split
  · exact h
  split
  · exact h
  split
  · exact h
  split
  · exact h.dead
  have hout : ∀ p ∈ M.now, p.2 ≠ gf := fun p hp e => by
    have hp' := hp
    rw [hok.eq] at hp'
    obtain ⟨F, hF⟩ := steps_files hok.ff hok.fw p hp'
    rw [e, hg] at hF
    cases hF
  have e0 : nmStep M.now (⟨#[]⟩, s, (gf : Int)) = nPut (nDel M.now []) s.data.toList gf := by
    unfold nmStep
    rw [if_neg (by show ¬ (gf : Int) < 0; omega)]
    rfl
  have hsub : ∀ p ∈ nDel (nDel M.now []) s.data.toList, p.2 ≠ gf := fun p hp => hout p (List.mem_filter.1 (List.mem_filter.1 hp).1).1
  refine ⟨h.room, ?_, ?_⟩
  · show Once (nmStep M.now (⟨#[]⟩, s, (gf : Int)))
    rw [e0]
    exact once_ins.2 ⟨hsub, (h.once.del _).del _⟩
  · show (sumN (upd M.fs gf ⟨[], [], []⟩) (nmStep M.now (⟨#[]⟩, s, (gf : Int))) : Int) ≤ room
    rw [e0]
    unfold nPut
    rw [sumN_ins, sumN_out _ hsub, szF_same]
    have h1 := sumN_del M.fs (nDel M.now []) s.data.toList
    have h2 := sumN_del M.fs M.now []
    have h3 := h.used
    show ((0 + sumN M.fs (nDel (nDel M.now []) s.data.toList) : Nat) : Int) ≤ room
    omega
theorem Me.Fits.link {M : Me} {room : Int} (h : M.Fits room) (s t : ByteArray) (gf : Nat) (hm : (s.data.toList, gf) ∈ M.now) : (M.link (s, t, (gf : Int)) M.fs).Fits room := by
  have e0 : nmStep M.now (s, t, (gf : Int)) = nPut (nDel M.now s.data.toList) t.data.toList gf := by
    unfold nmStep
    rw [if_neg (by show ¬ (gf : Int) < 0; omega)]
    rfl
  have hne := h.once.ne_del hm
  refine ⟨h.room, ?_, ?_⟩
  · show Once (nmStep M.now (s, t, (gf : Int)))
    rw [e0]
    exact once_ins.2 ⟨fun p hp => hne p (List.mem_filter.1 hp).1, (h.once.del _).del _⟩
  · show (sumN M.fs (nmStep M.now (s, t, (gf : Int))) : Int) ≤ room
    rw [e0]
    unfold nPut
    rw [sumN_ins]
    have h1 := sumN_del M.fs (nDel M.now s.data.toList) t.data.toList
    have h2 := sumN_del_mem M.fs hm
    have h3 := h.used
    show ((szF M.fs gf + sumN M.fs (nDel (nDel M.now s.data.toList) t.data.toList) : Nat) : Int) ≤ room
    omega
theorem Me.Fits.unlink {M : Me} {room : Int} (h : M.Fits room) (s : ByteArray) : (M.link (s, ⟨#[]⟩, -1) M.fs).Fits room := by
  have e0 : nmStep M.now (s, ⟨#[]⟩, -1) = nDel M.now s.data.toList := by
    unfold nmStep
    rw [if_pos (by show (-1 : Int) < 0; decide)]
  refine ⟨h.room, ?_, ?_⟩
  · show Once (nmStep M.now (s, ⟨#[]⟩, -1))
    rw [e0]
    exact h.once.del _
  · show (sumN M.fs (nmStep M.now (s, ⟨#[]⟩, -1)) : Int) ≤ room
    rw [e0]
    have h1 := sumN_del M.fs M.now s.data.toList
    have h3 := h.used
    omega
theorem Me.Fits.rename {M : Me} {room : Int} (h : M.Fits room) (s t : ByteArray) : (opRename M s t).2.Fits room := by
  unfold opRename
  split
  · exact h
  rename_i gf F hf
  split
  · exact h
  unfold opName
  split
  · exact h.dead
  · exact h.link s t gf (nFind_mem (Me.find_fs hf).2.1)
theorem Me.Fits.remove {M : Me} {room : Int} (h : M.Fits room) (s : ByteArray) : (opRemove M s).2.Fits room := by
  unfold opRemove
  split
  · exact h
  unfold opName
  split
  · exact h.dead
  · exact h.unlink s
/-- A file that turns, and is not longer than the room lets it. -/
theorem Me.Fits.wrote {M : Me} {room : Int} (h : M.Fits room) {s : List UInt8} {gf : Nat} {F F' : Fi} (hk : nFind M.now s = some gf) (hF : M.fs gf = some F) (hl : (sumN M.fs M.now : Int) + F'.now.length ≤ room + F.now.length) : (sumN (upd M.fs gf F') M.now : Int) ≤ room := by
  have := sumN_upd (fs := M.fs) F' h.once (nFind_mem hk)
  rw [szF_of hF] at this
  omega
theorem Me.Fits.append {M : Me} {room : Int} (h : M.Fits room) (s : ByteArray) (x : List UInt8) : (opAppend M s x).2.Fits room := by
  unfold opAppend
  split
  · exact h
  rename_i gf F hf
  obtain ⟨hF, hk, _⟩ := Me.find_fs hf
  split
  · exact h
  rename_i hr
  split
  · exact h.dead
  refine ⟨h.room, h.once, ?_⟩
  show (sumN (upd M.fs gf _) M.now : Int) ≤ room
  refine h.wrote hk hF ?_
  rw [used_sumN, h.room] at hr
  have : (F.wrote ⟨F.now.length, x⟩).now.length = F.now.length + x.length := by show (F.now.take F.now.length ++ x).length = _; rw [List.take_length, List.length_append]
  omega
theorem Me.Fits.truncate {M : Me} {room : Int} (h : M.Fits room) (s : ByteArray) (n : Int) : (opTruncate M s n).2.Fits room := by
  unfold opTruncate
  split
  · exact h
  rename_i gf F hf
  obtain ⟨hF, hk, _⟩ := Me.find_fs hf
  split
  · exact h
  split
  · exact h.dead
  refine ⟨h.room, h.once, ?_⟩
  show (sumN (upd M.fs gf _) M.now : Int) ≤ room
  refine h.wrote hk hF ?_
  have : (F.wrote ⟨n.toNat, []⟩).now.length ≤ F.now.length := by show (F.now.take n.toNat ++ []).length ≤ _; rw [List.append_nil, List.length_take]; omega
  have := h.used
  omega
theorem Me.Fits.sync {M : Me} {room : Int} (h : M.Fits room) (s : ByteArray) : (opSync M s).2.Fits room := by
  unfold opSync
  split
  · exact h
  rename_i gf F hf
  obtain ⟨hF, hk, _⟩ := Me.find_fs hf
  split
  · exact h.dead
  refine ⟨h.room, h.once, ?_⟩
  show (sumN (upd M.fs gf _) M.now : Int) ≤ room
  refine h.wrote hk hF ?_
  have := h.used
  show (sumN M.fs M.now : Int) + F.now.length ≤ room + F.now.length
  omega
theorem Me.Fits.syncDir {M : Me} {room : Int} (h : M.Fits room) : (opSyncDir M).2.Fits room := by
  unfold opSyncDir
  split
  · exact h
  split
  · exact h.dead
  · exact ⟨h.room, h.once, h.used⟩
theorem Me.Fits.arm {M : Me} {room : Int} (h : M.Fits room) (n : Int) : (opArm M n).2.Fits room := by
  unfold opArm
  split
  · exact h
  split
  · exact h
  · exact ⟨h.room, h.once, h.used⟩
theorem Me.Fits.rotted {M : Me} {room : Int} (h : M.Fits room) (s : ByteArray) (x : Int) (m : Nat) (o : Option Nat) : (M.rotted s x m o).2.Fits room := by
  unfold Me.rotted
  split
  · exact h
  rename_i gf hk
  split
  · exact h
  rename_i F hF
  split
  · exact h
  refine ⟨h.room, h.once, ?_⟩
  show (sumN (upd M.fs gf _) M.now : Int) ≤ room
  refine h.wrote hk hF ?_
  rw [rotAt_now, List.length_modify]
  have := h.used
  omega
end Go.Proofs.YtfneloobfidckaaGreatDoor
