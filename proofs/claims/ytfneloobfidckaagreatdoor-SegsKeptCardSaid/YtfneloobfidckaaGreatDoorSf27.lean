/- Contracts and facts, several texts in one. It proves no statement. -/
import Derived.Test.YtfneloobfidckaaGreatDoorSf26
import Derived.Test.YtfneloobfidckaaGreatDoorSf22
import Derived.Test.YtfneloobfidckaaGreatDoorSf11

/- Contract: how many bytes a segment's file has. It proves no statement. -/

namespace Go.Proofs.YtfneloobfidckaaGreatDoor
open Go.RowKit Go.Maps Go.WideMaps Go.Sort
set_option linter.unusedVariables false
set_option linter.unusedSimpArgs false

/-- A segment's size, told anew. -/
def Lg.sized (S : Lg) (i z : Nat) : Lg := { S with segs := S.segs.modify i fun p => (p.1, z) }
def sizeL (M : Me) (S : Lg) (i : Nat) : Nat × Lg := match S.segs[i]? with
  | some p => if (M.bytes (nameS (p.1 : Int))).2 = 12 then (p.2, S) else ((M.bytes (nameS (p.1 : Int))).1.length, S.sized i (M.bytes (nameS (p.1 : Int))).1.length)
  | none => (0, S)
theorem segV_modify : ∀ (X : List (Nat × Nat)) (i z : Nat), i < X.length → segV (X.modify i fun p => (p.1, z)) = (segV X).set (i * 2 + 1) (.int .i64 (z : Int))
  | [], i, z, h => absurd h (by simp)
  | y :: r, 0, z, h => by simp [segV]
  | y :: r, i + 1, z, h => by
    have ih := segV_modify r i z (by simpa using h)
    have e : ∀ (y : Nat × Nat) r, segV (y :: r) = .int .i64 (y.1 : Int) :: .int .i64 (y.2 : Int) :: segV r := fun y r => by simp [segV]
    rw [List.modify_succ_cons, e, e, ih, show (i + 1) * 2 + 1 = (i * 2 + 1) + 1 + 1 by omega, List.set_cons_succ, List.set_cons_succ]
theorem Lg.sized_length (S : Lg) (i z : Nat) : (S.sized i z).segs.length = S.segs.length := by unfold Lg.sized; simp
/-- The size stored. -/
theorem LM.sized {w : World} {base g gl : Nat} {own : Own} {lo : LOwn} {M : Me} {S : Lg} {sv : Value} (h : LM w base g gl own lo M S) (hl : LogI w base lo g gl S sv) {i c bq : Nat} (hi : i < S.segs.length) (hsv : sv = .slice (some ⟨bq, 0, none⟩) S.segs.length c) (z : Nat) :
    w.frozen? ⟨bq, i * 2 + 1, none⟩ = false ∧ LLeft w (w.setCell ⟨bq, i * 2 + 1, none⟩ (.int .i64 (z : Int))) base g gl own lo M (S.sized i z) := by
  subst hsv
  have hne : bq ≠ gl := fun e => own_neM hl.blk hl.row (by decide) (by rw [← e]; rfl)
  have cc := chg_set w bq (i * 2 + 1) (.int .i64 (z : Int))
  refine ⟨hl.row.frozenAt _, h.turn hl (cc.mono (fun b _ e => .inr (by rw [show b = bq from e]; rfl))) (sv' := .slice (some ⟨bq, 0, none⟩) S.segs.length c) (cc.blk hl.blk (fun e => hne e.symm)) ?_ (.inl rfl)⟩
  have := (hl.row.stored (i * 2 + 1) (.int .i64 (z : Int))).1
  rw [← segV_modify _ _ _ hi] at this
  rw [Lg.sized_length]
  exact this
set_option maxRecDepth 100000 in
set_option maxHeartbeats 6400000 in
theorem lsize_any {w : World} {base g gl k : Nat} {own : Own} {lo : LOwn} {M : Me} {S : Lg} (h : LM w base g gl own lo M S) (hg : M.good k) (T : SgT w) {i : Nat} (hi : i < S.segs.length) (hfew : S.segs.length ≤ 1048577) :
    Calls Tryz.prog 117 #[.pointer (some ⟨gl, 0, none⟩), .int .i64 (i : Int)] w fun e w' => e = .returned (.int .i64 ((sizeL M S i).1 : Int)) ∧ LLeft w w' base g gl own lo M (sizeL M S i).2 := by
  obtain ⟨p, hp⟩ : ∃ p, S.segs[i]? = some p := ⟨_, List.getElem?_eq_getElem hi⟩
  obtain ⟨sv, hl⟩ := h.log
  obtain ⟨A, c, hsv, q1, q2, hcl⟩ := hl.form
  obtain ⟨bq, hA, hlo, d1, d2⟩ := hcl i p hp
  subst hA
  have k0 := hl.cells.1
  have k2 := hl.cells.2.2.1
  rw [hsv] at k2
  have hgl : gl < w.heap.size := hl.blk.lt
  have hbq : bq < w.heap.size := (hl.dom bq (by rw [hlo]; simp)).2
  have KC := Lib.hid (fun W (s : Still w W) => show W.cell? ⟨gl, 0, none⟩ = some (.pointer (some ⟨g, 0, none⟩)) ∧ W.cell? ⟨bq, i * 2, none⟩ = some (.int .i64 (p.1 : Int)) ∧ W.cell? ⟨bq, i * 2 + 1, none⟩ = some (.int .i64 (p.2 : Int)) from ⟨(s.cell (p := ⟨gl, 0, none⟩) hgl).trans k0, (s.cell (p := ⟨bq, i * 2, none⟩) hbq).trans d1, (s.cell (p := ⟨bq, i * 2 + 1, none⟩) hbq).trans d2⟩)
  have NM := Lib.hid (fun W (s : Still w W) => name_any (p.1 : Int) W (T.still s))
  have SZ := Lib.hid (fun W (s : Still w W) => size_M (nameS (p.1 : Int)) (h.med.still s) hg.ok (by have := nameS_size (p.1 : Int); unfold maxLen; omega))
  have SD := Lib.hid (fun W (s : Still w W) z => (h.still s).sized (hl.keep (Chg.of_still s (fun _ => False)) (fun _ h => h.elim)) hi hsv z)
  have LW := Lib.hid h
  have EL := Lib.hid (show sizeL M S i = if (M.bytes (nameS (p.1 : Int))).2 = 12 then (p.2, S) else ((M.bytes (nameS (p.1 : Int))).1.length, S.sized i (M.bytes (nameS (p.1 : Int))).1.length) by unfold sizeL; rw [hp])
  obtain ⟨nm, hnm⟩ : ∃ nm, nm = nameS (p.1 : Int) := ⟨_, rfl⟩
  rw [← hnm] at NM SZ EL
  obtain ⟨zl, hzl⟩ : ∃ zl, zl = (M.bytes nm).1.length := ⟨_, rfl⟩
  obtain ⟨er, her⟩ : ∃ er, er = (M.bytes nm).2 := ⟨_, rfl⟩
  rw [← hzl, ← her] at EL
  rw [← hzl, ← her] at SZ
  obtain ⟨pa, hpa⟩ : ∃ pa, pa = p.1 := ⟨_, rfl⟩
  obtain ⟨pb, hpb⟩ : ∃ pb, pb = p.2 := ⟨_, rfl⟩
  rw [← hpa, ← hpb] at KC
  rw [← hpb] at EL
  rw [← hpa] at NM
  obtain ⟨ml, hml⟩ : ∃ ml, ml = S.segs.length := ⟨_, rfl⟩
  rw [← hml] at k2 q1 hi hfew
  have z3 : (0 : Int) ≤ (i : Int) := by omega
  have z4 : (i : Int) < (ml : Int) := by omega
  clear h hl hsv hcl hp d1 d2 k0 hgl hbq hlo hnm hzl her hpa hpb T hg hi hfew hml
  go_enter Tryz.func117, Tryz.ntmps117
  go_upto_region 2 with fail
  go_region_held3 (fun W => W.cell? ⟨gl, 0, none⟩ = some (.pointer (some ⟨g, 0, none⟩)) ∧ W.cell? ⟨bq, i * 2, none⟩ = some (.int .i64 (pa : Int))) (first | exact ⟨(KC.out _ (Still.refl _).drew).1, (KC.out _ (Still.refl _).drew).2.1⟩ | exact ⟨(KC.out _ S3.out).1, (KC.out _ S3.out).2.1⟩) (first
    | (go_at_call 89; with_reducible refine (NM.out _ (Still.refl _).drew).mono ?_; rintro e w3 ⟨rfl, s3⟩; have S3 := Lib.hid (Still.trans (Still.refl _).drew s3); clear s3)
    | (go_at_call 76; with_reducible refine (SZ.out _ S3.out).mono ?_; rintro e w4 ⟨rfl, rfl⟩))
  all_goals
    have k5 := (KC.out _ S3.out).2.2
    by_cases h12 : er = 12
    · subst h12
      have EA := Lib.hid (EL.out.trans (if_pos rfl))
      clear SD SZ NM EL KC
      go_wp2_with fail
      go_ret
      exact ⟨by rw [EA.out]; rfl, by rw [EA.out]; exact LLeft.still LW.out S3.out⟩
    · have b1 : (er != 12) = true := by simpa using h12
      have EA := Lib.hid (EL.out.trans (if_neg h12))
      obtain ⟨fz, FL⟩ := SD.out _ S3.out zl
      have FL := Lib.hid (LLeft.of_still S3.out FL)
      clear SD SZ NM EL KC h12
      go_wp2_with fail
      go_ret
      exact ⟨by rw [EA.out]; rfl, by rw [EA.out]; exact FL.out⟩
end Go.Proofs.YtfneloobfidckaaGreatDoor

/- Contract: an entry's bytes put behind those of the open segment. It proves no statement. -/

namespace Go.Proofs.YtfneloobfidckaaGreatDoor
open Go.RowKit Go.Maps Go.WideMaps Go.Sort
set_option linter.unusedVariables false
set_option linter.unusedSimpArgs false

def extendL (M : Me) (S : Lg) (b : List UInt8) : Int × Me × Lg := match S.segs.getLast? with
  | some p => if (opAppend M (nameS (p.1 : Int)) b).1 = 0 then (0, (opAppend M (nameS (p.1 : Int)) b).2, S.sized (S.segs.length - 1) (p.2 + b.length)) else ((opAppend M (nameS (p.1 : Int)) b).1, (opAppend M (nameS (p.1 : Int)) b).2, S)
  | none => (0, M, S)
set_option maxRecDepth 100000 in
set_option maxHeartbeats 6400000 in
theorem extend_any {w : World} {base g gl k : Nat} {own : Own} {lo : LOwn} {M : Me} {S : Lg} {A : Option Addr} {n c : Nat} {b : List UInt8} (h : LM w base g gl own lo M S) (hg : M.good k) (hk : k ≤ 800000) (T : SgT w) {m : Nat} {p : Nat × Nat} (hm : S.segs.length = m + 1) (hp : S.segs[m]? = some p) (hfew : m + 1 ≤ 1048577) (hp2 : p.2 ≤ 4611686018427387904) (hr : Reads w w.heap.size A n b) (hA : A = none → n = 0 ∧ c = 0) (hn : n ≤ 70368744177664) :
    Calls Tryz.prog 144 #[.pointer (some ⟨gl, 0, none⟩), .slice A n c] w fun e w' => e = .returned (.int .i64 (extendL M S b).1) ∧ LLeft w w' base g gl own lo (extendL M S b).2.1 (extendL M S b).2.2 := by
  obtain ⟨sv, hl⟩ := h.log
  obtain ⟨AA, cc, hsv, q1, q2, hcl⟩ := hl.form
  obtain ⟨bq, hAA, hlo, d1, d2⟩ := hcl m p hp
  subst hAA
  have k0 := hl.cells.1
  have k2 := hl.cells.2.2.1
  rw [hsv, hm] at k2
  rw [hm] at q1
  have hgl : gl < w.heap.size := hl.blk.lt
  have hbq : bq < w.heap.size := (hl.dom bq (by rw [hlo]; simp)).2
  have KC := Lib.hid (fun W (s : Still w W) => show W.cell? ⟨gl, 0, none⟩ = some (.pointer (some ⟨g, 0, none⟩)) ∧ W.cell? ⟨gl, 2, none⟩ = some (.slice (some ⟨bq, 0, none⟩) (m + 1) cc) ∧ W.cell? ⟨bq, m * 2, none⟩ = some (.int .i64 (p.1 : Int)) from ⟨(s.cell (p := ⟨gl, 0, none⟩) hgl).trans k0, (s.cell (p := ⟨gl, 2, none⟩) hgl).trans k2, (s.cell (p := ⟨bq, m * 2, none⟩) hbq).trans d1⟩)
  have LAST := Lib.hid (fun W (s : Still w W) => llast_w (hl.keep (Chg.of_still s (fun _ => False)) (fun _ h => h.elim)) hm hfew)
  have NM := Lib.hid (fun W (s : Still w W) => name_any (p.1 : Int) W (T.still s))
  obtain ⟨nm, hnm⟩ : ∃ nm, nm = nameS (p.1 : Int) := ⟨_, rfl⟩
  have hsz : nm.size ≤ maxLen := by rw [hnm]; have := nameS_size (p.1 : Int); unfold maxLen; omega
  have AP := Lib.hid (fun W (s : Still w W) => append_M nm A n c w.heap.size b (h.med.still s) hg.ok (by have := hg.cnt; omega) hg.wt hsz (hr.still (Nat.le_refl _) s) s.size hA hn)
  have el : extendL M S b = if (opAppend M nm b).1 = 0 then (0, (opAppend M nm b).2, S.sized m (p.2 + b.length)) else ((opAppend M nm b).1, (opAppend M nm b).2, S) := by
    unfold extendL
    rw [List.getLast?_eq_getElem?, hm, show m + 1 - 1 = m by omega, hp, hnm]
  obtain ⟨er, her⟩ : ∃ er, er = (opAppend M nm b).1 := ⟨_, rfl⟩
  obtain ⟨M', hM'⟩ : ∃ M', M' = (opAppend M nm b).2 := ⟨_, rfl⟩
  rw [← her, ← hM'] at el
  rw [← her, ← hM'] at AP
  rw [← hnm] at NM
  have hb : b.length = n := hr.1
  rw [hb] at el
  have EL := Lib.hid el
  clear el
  have LW := Lib.hid h
  have HM := Lib.hid hm
  have FIN := Lib.hid (fun W W' (s : Still w W) (l : Left W W' base g own M') => show LLeft w W' base g gl own lo M' S ∧ W'.cell? ⟨bq, m * 2 + 1, none⟩ = some (.int .i64 (p.2 : Int)) ∧ ∀ z : Nat, W'.frozen? ⟨bq, m * 2 + 1, none⟩ = false ∧ LLeft w (W'.setCell ⟨bq, m * 2 + 1, none⟩ (.int .i64 (z : Int))) base g gl own lo M' (S.sized m z) from by
    have LL := (LLeft.med (h.still s) l)
    have hW := hl.keep (Chg.of_still s (fun _ => False)) (fun _ h => h.elim)
    obtain ⟨c1, own1, lo1, ho1, lm1⟩ := LL
    have hno : own bq = none := h.ap2 bq (by rw [hlo]; simp)
    have hl1 : LogI W' base lo g gl S sv := hW.keep l.1 (fun x hx => h.ap x hx)
    refine ⟨LLeft.of_still s ⟨c1, own1, lo1, ho1, lm1⟩, ?_, fun z => ?_⟩
    · exact (World.cell?_of_block (w := W) (l.1.block bq (Nat.lt_of_lt_of_le hbq s.size) (fun hh => hh hno))).trans ((s.cell (p := ⟨bq, m * 2 + 1, none⟩) hbq).trans d2)
    · have hl1' : LogI W' base lo1 g gl S sv := by
        refine ⟨hl1.blk, hl1.row, ?_, fun x hx => ?_, fun x hx => ?_⟩
        · rw [(ho1 gl hW.blk.lt).2]; exact hl1.ol
        · rw [(ho1 x (by
            obtain ⟨_, hlt⟩ := hW.row.lt x hx
            exact hlt)).2]; exact hl1.os x hx
        · obtain ⟨sv1, hx1⟩ := lm1.log
          exact hx1.dom x hx
      obtain ⟨fz, z2⟩ := lm1.sized hl1' (i := m) (by rw [hm]; omega) hsv z
      exact ⟨fz, LLeft.of_still s (LLeft.chain c1 ho1 z2)⟩)
  have CELLS := Lib.hid (fun W W' (s : Still w W) (l : Left W W' base g own M') => show W'.cell? ⟨gl, 0, none⟩ = some (.pointer (some ⟨g, 0, none⟩)) ∧ W'.cell? ⟨bq, m * 2, none⟩ = some (.int .i64 (p.1 : Int)) from by
    have n1 : own gl = none := h.ap2 gl (by rw [hl.ol]; simp)
    have n2 : own bq = none := h.ap2 bq (by rw [hlo]; simp)
    exact ⟨(World.cell?_of_block (w := W) (l.1.block gl (Nat.lt_of_lt_of_le hgl s.size) (fun hh => hh n1))).trans (KC.out W s).1, (World.cell?_of_block (w := W) (l.1.block bq (Nat.lt_of_lt_of_le hbq s.size) (fun hh => hh n2))).trans (KC.out W s).2.2⟩)
  obtain ⟨pa, hpa⟩ : ∃ pa, pa = p.1 := ⟨_, rfl⟩
  obtain ⟨pb, hpb⟩ : ∃ pb, pb = p.2 := ⟨_, rfl⟩
  rw [← hpa] at KC NM CELLS
  rw [← hpb] at EL FIN hp2
  have v1 : wrap64 ((pb : Int) + (n : Int)) = ((pb + n : Nat) : Int) := by unfold wrap64; omega
  have HV := Lib.hid v1
  obtain ⟨ml, hml⟩ : ∃ ml, ml = m + 1 := ⟨_, rfl⟩
  rw [← hml] at KC q1
  have z3 : (0 : Int) ≤ (m : Int) := by omega
  have z4 : (m : Int) < (ml : Int) := by omega
  clear h hl hsv hcl d1 d2 k0 k2 hgl hbq hlo hnm her hM' hpa hpb T hg hml hm hp hfew hp2 hr hA hn hk hb hsz v1
  go_enter Tryz.func144, Tryz.ntmps144
  go_wp2_with fail
  go_region_held3 (fun W => W.cell? ⟨gl, 2, none⟩ = some (.slice (some ⟨bq, 0, none⟩) ml cc)) (first | exact (KC.out _ (Still.refl _).drew).2.1) (first
    | (go_at_call 83; with_reducible refine (LAST.out _ (Still.refl _).drew).mono ?_; rintro e w3 ⟨rfl, rfl⟩))
  all_goals
    go_upto_region 2 with fail
    have D0 := Lib.hid (show Still w w.drew from (Still.refl _).drew)
    go_region_held3 (fun W => W.cell? ⟨gl, 0, none⟩ = some (.pointer (some ⟨g, 0, none⟩)) ∧ W.cell? ⟨bq, m * 2, none⟩ = some (.int .i64 (pa : Int))) (first | exact ⟨(KC.out _ D0.out.drew).1, (KC.out _ D0.out.drew).2.2⟩ | exact ⟨(KC.out _ S3.out).1, (KC.out _ S3.out).2.2⟩ | exact HLD.out) (first
      | (go_at_call 89; with_reducible refine (NM.out _ D0.out.drew).mono ?_; rintro e w3 ⟨rfl, s3⟩; have S3 := Lib.hid (Still.trans D0.out.drew s3); clear s3)
      | (go_at_call 123; with_reducible refine (AP.out _ S3.out).mono ?_; rintro e w4 ⟨rfl, l4⟩; have L4 := Lib.hid l4; clear l4; have HLD := Lib.hid (show w4.cell? ⟨gl, 0, none⟩ = some (.pointer (some ⟨g, 0, none⟩)) ∧ w4.cell? ⟨bq, m * 2, none⟩ = some (.int .i64 (pa : Int)) from CELLS.out _ _ S3.out L4.out)))
    all_goals
      obtain ⟨f1, f2, f3⟩ := FIN.out _ _ S3.out L4.out
      by_cases h0 : er = 0
      · subst h0
        have EA := Lib.hid (EL.out.trans (if_pos rfl))
        obtain ⟨fz, f4⟩ := f3 (pb + n)
        have F4 := Lib.hid f4
        have hv := HV.out
        clear f1 f3 f4 NM AP EL FIN KC CELLS LAST HLD
        go_wp2_with fail
        go_ret
        exact ⟨by first | rfl | (rw [EA.out]; rfl) | (rw [EA.out]), by rw [EA.out]; exact F4.out⟩
      · have b1 : (er == 0) = false := by simpa using h0
        have EA := Lib.hid (EL.out.trans (if_neg h0))
        have F1 := Lib.hid f1
        clear f1 f2 f3 NM AP EL FIN KC CELLS LAST HLD h0
        go_wp2_with fail
        go_ret
        exact ⟨by first | rfl | (rw [EA.out]; rfl) | (rw [EA.out]), by rw [EA.out]; exact F1.out⟩
end Go.Proofs.YtfneloobfidckaaGreatDoor

/- Contract: which segment a file is, by the program. It proves no statement. -/

namespace Go.Proofs.YtfneloobfidckaaGreatDoor
open Go.RowKit
set_option linter.unusedVariables false
set_option linter.unusedSimpArgs false

theorem trim_sgnB (n : Nat) : Lib.trimPrefix (sgnB n) [115, 101, 103, 46] = dig 8 n := by
  unfold Lib.trimPrefix
  have e : Lib.hasPrefix (sgnB n) [115, 101, 103, 46] = true := by
    unfold sgnB Lib.hasPrefix
    simp
  rw [if_pos e]
  rfl
theorem seg_atoi {s : List UInt8} {n : Nat} (h : segOf s = some n) : Lib.atoiAll (Lib.trimPrefix s [115, 101, 103, 46]) = .ok (n : Int) ∧ n < 1048576 ∧ s = sgnB n := by
  obtain ⟨h1, h2⟩ := segOf_some h
  refine ⟨?_, h2, h1⟩
  rw [h1, trim_sgnB]
  exact atoi_dig n (by omega)
theorem toList_ne {a b : ByteArray} (h : a ≠ b) : (a.toList == b.toList) = false := by
  rw [ByteArray.toList_eq, ByteArray.toList_eq, beq_eq_false_iff_ne]
  intro e
  apply h
  apply ByteArray.ext
  exact Array.ext' e
set_option maxRecDepth 100000 in
theorem number_any (s : ByteArray) (w : World) (T : SgT w) (hs : s.size ≤ 1099511627776) : Calls Tryz.prog 77 #[.string s] w fun e w' => e = .returned (.tuple #[.int .i64 (((segOf s.data.toList).getD 0 : Nat) : Int), .bool (segOf s.data.toList).isSome]) ∧ Still w w' := by
  have TR := Lib.hid (trim_lib s ⟨#[115, 101, 103, 46]⟩ w)
  have e0 : (⟨#[115, 101, 103, 46]⟩ : ByteArray).data.toList = [115, 101, 103, 46] := rfl
  rw [e0] at TR
  have SA := Lib.hid (fun n (h : segOf s.data.toList = some n) => seg_atoi h)
  obtain ⟨t, ht⟩ : ∃ t, t = Lib.trimPrefix s.data.toList [115, 101, 103, 46] := ⟨_, rfl⟩
  have hts : t.length ≤ 1099511627776 := by
    have h1 : t.length ≤ s.data.toList.length := by
      rw [ht]
      unfold Lib.trimPrefix
      split
      · rw [List.length_drop]; omega
      · exact Nat.le_refl _
    have h2 : s.data.toList.length = s.size := Array.length_toList
    omega
  have NM := Lib.hid (fun W (st : Still w W) v => name_any v W (T.still st))
  have hnil : s.data.toList = [] → t = [] := fun h => by rw [ht, h]; rfl
  rw [← ht] at TR SA
  have HSZ := Lib.hid (show (⟨t.toArray⟩ : ByteArray).size ≤ 1099511627776 by rw [sizeB]; exact hts)
  have HTL : (⟨t.toArray⟩ : ByteArray).data.toList = t := by simp
  cases ha : Lib.atoiAll t with
  | ok v =>
    have AT := Lib.hid (atoi_ok ⟨t.toArray⟩ (by have := HSZ.out; omega) v (by rw [HTL]; exact ha))
    have hres : (nameS v = s → segOf s.data.toList = some v.toNat ∧ ((v.toNat : Nat) : Int) = v) ∧ (nameS v ≠ s → segOf s.data.toList = none) := by
      refine ⟨fun h => ?_, fun h => ?_⟩
      · by_cases hr : 0 ≤ v ∧ v < 1048576
        · rw [← h, nameS_list, if_pos hr]
          exact ⟨segOf_sgnB _ (by omega), by omega⟩
        · have hn : s.data.toList = [] := by rw [← h, nameS_list, if_neg hr]
          rw [hnil hn] at ha
          cases ha
      · cases hq : segOf s.data.toList with
        | none => rfl
        | some n =>
          obtain ⟨k1, k2, k3⟩ := SA.out n hq
          rw [ha] at k1
          injection k1 with k1
          subst k1
          exfalso
          apply h
          rw [nameS_nat k2, ← k3]
    obtain ⟨V, hV⟩ : ∃ V, V = nameS v := ⟨_, rfl⟩
    have NV := Lib.hid (fun W (st : Still w W) => NM.out W st v)
    rw [← hV] at NV hres
    obtain ⟨X, hX⟩ : ∃ X : ByteArray, X = ⟨t.toArray⟩ := ⟨_, rfl⟩
    rw [← hX] at TR AT
    by_cases hv : V = s
    · obtain ⟨h1, h2⟩ := hres.1 hv
      rw [h1]
      show Calls _ _ _ _ fun e w' => e = .returned (.tuple #[.int .i64 ((v.toNat : Nat) : Int), .bool true]) ∧ Still w w'
      rw [h2]
      subst hv
      clear hres h1 h2 hV hX ha ht hts hnil HTL SA NM T hs
      go_enter Tryz.func77, Tryz.ntmps77
      go_wp2_with fail
      refine TR.out.mono ?_
      rintro e w1 ⟨rfl, rfl⟩
      go_wp2_with fail
      refine (AT.out w1).mono ?_
      rintro e w2 ⟨rfl, hw2⟩
      have S2 := Lib.hid (show Still w1 w2 from by
        rcases hw2 with rfl | ⟨t, rfl⟩
        · exact Still.refl _
        · exact Lib.bytesWorld_below _ _ _)
      clear hw2
      go_wp2_with fail
      refine (NV.out _ S2.out).mono ?_
      rintro e w3 ⟨rfl, s3⟩
      have S3 := Lib.hid (Still.trans S2.out s3)
      clear s3
      go_wp2_with fail
      go_ret2
      exact ⟨rfl, S3.out⟩
    · rw [hres.2 hv]
      show Calls _ _ _ _ fun e w' => e = .returned (.tuple #[.int .i64 0, .bool false]) ∧ Still w w'
      have ne := toList_ne hv
      clear hres hV hX ha ht hts hnil HTL SA NM T hs hv
      go_enter Tryz.func77, Tryz.ntmps77
      go_wp2_with fail
      refine TR.out.mono ?_
      rintro e w1 ⟨rfl, rfl⟩
      go_wp2_with fail
      refine (AT.out w1).mono ?_
      rintro e w2 ⟨rfl, hw2⟩
      have S2 := Lib.hid (show Still w1 w2 from by
        rcases hw2 with rfl | ⟨t, rfl⟩
        · exact Still.refl _
        · exact Lib.bytesWorld_below _ _ _)
      clear hw2
      go_wp2_with fail
      refine (NV.out _ S2.out).mono ?_
      rintro e w3 ⟨rfl, s3⟩
      have S3 := Lib.hid (Still.trans S2.out s3)
      clear s3
      go_wp2_with fail
      go_ret2
      exact ⟨rfl, S3.out⟩
  | range =>
    have hno : segOf s.data.toList = none := by
      cases hq : segOf s.data.toList with
      | none => rfl
      | some n => have := (SA.out n hq).1; rw [ha] at this; cases this
    rw [hno]
    show Calls _ _ _ _ fun e w' => e = .returned (.tuple #[.int .i64 0, .bool false]) ∧ Still w w'
    obtain ⟨tp, p, hvar⟩ := T.rng
    have AT := Lib.hid (atoi_range ⟨t.toArray⟩ (by have := HSZ.out; omega) (by rw [HTL]; exact ha) tp p w hvar)
    obtain ⟨X, hX⟩ : ∃ X : ByteArray, X = ⟨t.toArray⟩ := ⟨_, rfl⟩
    rw [← hX] at TR AT
    obtain ⟨Z, hZ⟩ : ∃ Z, Z = Lib.atoiSat (⟨t.toArray⟩ : ByteArray).data.toList := ⟨_, rfl⟩
    rw [hX, ← hZ, ← hX] at AT
    clear hX ha ht hts hnil HTL SA NM T hs hno hvar hZ
    go_enter Tryz.func77, Tryz.ntmps77
    go_wp2_with fail
    refine TR.out.mono ?_
    rintro e w1 ⟨rfl, rfl⟩
    go_wp2_with fail
    refine AT.out.mono ?_
    rintro e w2 ⟨N, rfl, _, _, b2⟩
    have S2 := Lib.hid b2
    clear b2
    go_wp2_with fail
    go_ret2
    exact ⟨rfl, S2.out⟩
  | _ =>
    have hno : segOf s.data.toList = none := by
      cases hq : segOf s.data.toList with
      | none => rfl
      | some n => have := (SA.out n hq).1; rw [ha] at this; cases this
    rw [hno]
    show Calls _ _ _ _ fun e w' => e = .returned (.tuple #[.int .i64 0, .bool false]) ∧ Still w w'
    obtain ⟨tp, p, hvar⟩ := T.syn
    have AT := Lib.hid (atoi_syn ⟨t.toArray⟩ (by have := HSZ.out; omega) (by rw [HTL, ha]; trivial) tp p w hvar)
    obtain ⟨X, hX⟩ : ∃ X : ByteArray, X = ⟨t.toArray⟩ := ⟨_, rfl⟩
    rw [← hX] at TR AT
    clear hX ha ht hts hnil HTL SA NM T hs hno hvar
    go_enter Tryz.func77, Tryz.ntmps77
    go_wp2_with fail
    refine TR.out.mono ?_
    rintro e w1 ⟨rfl, rfl⟩
    go_wp2_with fail
    refine AT.out.mono ?_
    rintro e w2 ⟨N, rfl, _, _, b2⟩
    have S2 := Lib.hid b2
    clear b2
    go_wp2_with fail
    go_ret2
    exact ⟨rfl, S2.out⟩
end Go.Proofs.YtfneloobfidckaaGreatDoor

/- Rows of names; the document's Same of two that are alike. It proves no statement. -/

namespace Go.Proofs.YtfneloobfidckaaGreatDoor
open Go.RowKit Go.Maps Go.WideMaps
set_option linter.unusedVariables false
set_option linter.unusedSimpArgs false

/-- Rows of names that can be read. -/
def NamesR (w : World) (A : Option Addr) (n : Nat) (N : NT) : Prop := N.length = n ∧ (0 < n → ∃ b o, A = some ⟨b, o, none⟩ ∧ b < w.heap.size ∧ ∀ i p, N[i]? = some p → w.cell? ⟨b, o + i, none⟩ = some (.string ⟨p.1.toArray⟩))
theorem NamesR.still {w w' : World} {A : Option Addr} {n : Nat} {N : NT} (h : NamesR w A n N) (s : Still w w') : NamesR w' A n N :=
  ⟨h.1, fun hn => by
    obtain ⟨b, o, e, hb, hc⟩ := h.2 hn
    exact ⟨b, o, e, Nat.lt_of_lt_of_le hb s.size, fun i p hp => (s.cell (p := ⟨b, o + i, none⟩) hb).trans (hc i p hp)⟩⟩
theorem NamesR.of_own {w : World} {base n c : Nat} {A : Option Addr} {N : NT} (h : w.ownsRow base 9 1 (.slice A n c) n (namesV N)) : NamesR w A n N := by
  have hl : N.length = n := by have := h.1; rw [namesV_length] at this; omega
  refine ⟨hl, fun hn => ?_⟩
  rcases h.2 with ⟨_, h0⟩ | ⟨g, cp, cur, hv, hg, hb, _⟩
  · omega
  · injection hv with hv1
    subst hv1
    refine ⟨g, 0, rfl, (Array.getElem?_eq_some_iff.1 hb).1, fun i p hp => ?_⟩
    have hi : i < N.length := (List.getElem?_eq_some_iff.1 hp).1
    rw [Nat.zero_add, h.cellAt i (by omega)]
    exact namesV_get N i p hp
set_option maxRecDepth 100000 in
set_option maxHeartbeats 1600000 in
/-- The document's Same of two rows of names that are alike. -/
theorem names_same (A A' : Option Addr) (n c c' : Nat) (N : NT) (w : World) (h : NamesR w A n N) (h' : NamesR w A' n N) (hn : n ≤ 70368744177664) :
    Calls Tryz.prog 54 #[.slice A n c, .slice A' n c'] w fun e w' => e = .returned (.bool true) ∧ ∃ m, w' = w.drewN m := by
  have HH := Lib.hid h
  have HH' := Lib.hid h'
  clear h h'
  go_enter Tryz.func54, Tryz.ntmps54
  go_wp2_with fail
  go_loopw [5] (fun iv wr => ∃ k : Nat, k ≤ n ∧ iv = .int .i64 k ∧ Hid (∃ m, wr = w.drewN m)) (fun iv _ => n - (intOf iv).toNat)
  case atStart => exact ⟨0, Nat.zero_le _, rfl, 0, rfl⟩
  case round =>
    obtain ⟨k, hk, rfl, hin⟩ := hrel
    obtain ⟨mm, hwm⟩ := hin.out
    have st : Still w wr := by rw [hwm]; exact still_drewN (Still.refl w) mm
    have HWM := Lib.hid hwm
    have hr := HH.out.still st
    have hr' := HH'.out.still st
    clear hwm st
    by_cases hlt : k < n
    · obtain ⟨b, o, rfl, hb, hc⟩ := hr.2 (by omega)
      obtain ⟨b', o', rfl, hb', hc'⟩ := hr'.2 (by omega)
      obtain ⟨pp, hp⟩ : ∃ pp, N[k]? = some pp := ⟨_, List.getElem?_eq_getElem (by rw [hr.1]; exact hlt)⟩
      have d1 := hc k _ hp
      have d2 := hc' k _ hp
      obtain ⟨X, hX⟩ : ∃ X : ByteArray, X = ⟨pp.1.toArray⟩ := ⟨_, rfl⟩
      rw [← hX] at d1 d2
      have z1 : (0 : Int) ≤ (k : Int) := by omega
      have z2 : (k : Int) < (n : Int) := by omega
      have HLT := Lib.hid hlt
      clear hc hc' hb hb' hlt hr hr' hp hX
      go_wp2_with fail
      go_quiet (fail)
      go_wp2_with fail
      go_roundw
      case rel => exact ⟨k + 1, by have := HLT.out; omega, by go_num, mm + nq, by rw [HWM.out, World.drewN_drewN]⟩
      case measure => simp [intOf]; have := HLT.out; omega
    · obtain rfl : k = n := by omega
      clear hr hr'
      go_wp2_with fail
      go_ret
      exact ⟨rfl, mm, HWM.out⟩
end Go.Proofs.YtfneloobfidckaaGreatDoor
