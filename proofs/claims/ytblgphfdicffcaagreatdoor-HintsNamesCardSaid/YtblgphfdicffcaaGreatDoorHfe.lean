/- Contracts and facts, several texts in one. It proves no statement. -/
import Derived.Test.YtblgphfdicffcaaGreatDoorHfd
import Derived.Test.YtblgphfdicffcaaGreatDoorHfa
import Derived.Outline
import Derived.Deep.DeepMust
import Derived.Deep.RegionHeld
import Derived.Test.YtblgphfdicffcaaGreatDoorHfb
import Derived.Deep.WholeRow
import Derived.Great.Walk
import Derived.Great.BuildSlice
import Derived.StillTailTactics
import Derived.Deep.DeepCutAuto
import Derived.Deep.CutBlock
import Derived.Deep.QuietTactic
import Derived.BigQuiet
import Derived.Laws.CopyOwn

/- Contract: Append, where it appends. It proves no statement. -/


namespace Go.Proofs.YtblgphfdicffcaaGreatDoor
open Go.RowKit Go.Maps Go.WideMaps
set_option linter.unusedVariables false
set_option linter.unusedSimpArgs false

theorem own_lower9 {w : World} {base base' n : Nat} {v : Value} {xs : List Value} (h : w.ownsRow base 5 1 v n xs) (hb : base' ≤ base) : w.ownsRow base' 5 1 v n xs := by
  refine ⟨h.1, ?_⟩
  rcases h.2 with h0 | ⟨g, c, cur, h1, h2, h3⟩
  · exact .inl h0
  · exact .inr ⟨g, c, cur, h1, Nat.le_trans hb h2, h3⟩
set_option maxRecDepth 100000 in
set_option maxHeartbeats 3200000 in
theorem append_ok {w : World} {g : Nat} {room : Int} {bn bf : Nat} {wv : Value} {left : Int} (h : MedB w g room bn bf wv left false) (hl : left ≤ 9223372036854775807) (hl0 : left ≠ 0) (s : ByteArray) (hs : s.size ≤ maxLen) (n : Nat) (D : DataW Unit) (hown : NM w bn n D) (sz : Int → Nat) (hsz : Sized w D sz)
    (gf nf base k : Nat) (nv fv wtv : Value) (l x : List UInt8) (cs : List Value) (A : Option Addr) (m c B : Nat) (hlk : look D s = (gf : Int)) (hf : FileB w gf nv fv wtv) (hnv : w.ownsRow base 5 1 nv nf (bytesV l)) (hwt : w.ownsRow base 218 2 wtv k cs) (hbase : base ≤ w.heap.size)
    (hr : Reads w B A m x) (hB : B ≤ w.heap.size) (hA : A = none → m = 0 ∧ c = 0) (hnm : nf + m ≤ 100000000) (hk : k ≤ 1000000) (hu : usedOf sz D ≤ 35184372088832) (hroom : (m : Int) + usedOf sz D ≤ room) (hrm : room ≤ 16777216) :
    Calls Tryz.prog 206 #[.pointer (some ⟨g, 0, none⟩), .string s, .slice A m c] w fun e w' => e = .returned (.int .i64 0) ∧ ∃ nv' wtv' cv, MedB w' g room bn bf wv (stepR left false).1 false ∧ FileB w' gf nv' fv wtv' ∧ w'.ownsRow base 5 1 nv' (nf + m) (bytesV (l ++ x)) ∧ w'.ownsRow base 218 2 wtv' (k + 1) (cs ++ [.int .i64 nf, cv]) ∧ w'.ownsRow w.heap.size 5 1 cv m (bytesV x) ∧ Chg w w' (wrS g gf nv wtv) ∧ (nv'.ownBlock = nv.ownBlock ∨ ∃ j, nv'.ownBlock = some j ∧ w.heap.size ≤ j) ∧ (wtv'.ownBlock = wtv.ownBlock ∨ ∃ j, wtv'.ownBlock = some j ∧ w.heap.size ≤ j)  ∧ (∀ j, nv'.ownBlock = some j → cv.ownBlock ≠ some j) := by
  have hst : (stepR left false).2.2 = 0 ∧ (stepR left false).2.1 = false := by
    unfold stepR
    rw [if_neg hl0]
    split <;> exact ⟨rfl, rfl⟩
  obtain ⟨Anv, cnv, rfl, p1, p2, p3⟩ := own_form hnv
  have FD := Lib.hid (find_yes h s n D hown hs)
  rw [hlk, show findV false (gf : Int) = pv (gf : Int) from rfl, pv_at, show findE false (gf : Int) = if (gf : Int) < 0 then 9 else 0 from rfl, if_neg (by omega)] at FD
  have US := Lib.hid (used_yes (w := w.drew) (h.still ((Still.refl w).drew)) n D (World.ownsMap.drew hown) sz (hsz.chg (Chg.drew w (fun _ => False)) (fun _ _ _ _ h => h)) hu)
  have MM := Lib.hid (fun W (st : Still w W) => h.still st)
  have FF := Lib.hid (fun W (st : Still w W) => (show FileB W gf (.slice Anv nf cnv) fv wtv from Blk.still hf st))
  have CL := Lib.hid (fun W (st : Still w W) => bclone_any A m c x W B (hr.still hB st) (Nat.le_trans hB st.size) (by omega) hA)
  have WR := Lib.hid (fun W (st : Still w W) v (own : W.ownsRow w.heap.size 5 1 v m (bytesV x)) => (show ∃ Ac cc, v = .slice Ac m cc ∧ Calls Tryz.prog 252 #[.pointer (some ⟨g, 0, none⟩), .pointer (some ⟨gf, 0, none⟩), .agg #[.int .i64 nf, .slice Ac m cc]] W fun e w' => e = .returned (.int .i64 0) ∧ ∃ nv' wtv' cv, MedB w' g room bn bf wv (stepR left false).1 false ∧ FileB w' gf nv' fv wtv' ∧ w'.ownsRow base 5 1 nv' (nf + m) (bytesV (l ++ x)) ∧ w'.ownsRow base 218 2 wtv' (k + 1) (cs ++ [.int .i64 nf, cv]) ∧ w'.ownsRow w.heap.size 5 1 cv m (bytesV x) ∧ Chg w w' (wrS g gf (.slice Anv nf cnv) wtv) ∧ (nv'.ownBlock = (Value.slice Anv nf cnv).ownBlock ∨ ∃ j, nv'.ownBlock = some j ∧ w.heap.size ≤ j) ∧ (wtv'.ownBlock = wtv.ownBlock ∨ ∃ j, wtv'.ownBlock = some j ∧ w.heap.size ≤ j) ∧ (∀ j, nv'.ownBlock = some j → cv.ownBlock ≠ some j) from by
    obtain ⟨Ac, cc, rfl, q1, q2, q3⟩ := own_form own
    have C0 := Chg.of_still st (fun _ => False)
    refine ⟨Ac, cc, rfl, (write_ok (h.still st) hl hst.1 gf nf base k _ fv wtv l x cs Ac m cc W.heap.size (Blk.still hf st) (C0.own hnv (fun _ _ h => h)) (C0.own hwt (fun _ _ h => h)) (Nat.le_trans hbase st.size) (Reads.of_own own) (Nat.le_refl _) ?_ (fun e => (q3 e).2) hnm hk).mono ?_⟩
    · intro ad e hm
      rcases own.2 with ⟨_, h0⟩ | ⟨gg, cap, cur, hv, hlo, _⟩
      · omega
      · injection hv with hv1
        rw [e] at hv1
        injection hv1 with hv1
        rw [hv1]
        have := Blk.lt h
        simp only
        omega
    · rintro e w' ⟨he, nv', wtv', a1, a2, a3, a4, a5, a6, a7⟩
      rw [hst.2] at a1
      refine ⟨he, nv', wtv', _, a1, a2, a3, a4, a5.own own ?_, Chg.trans (C0.mono (fun _ _ h => h.elim)) a5 (fun _ _ h => h), ?_, ?_, ?_⟩
      · intro j hj
        have hjlo : w.heap.size ≤ j := (own.lt j hj).1
        rintro (q | q | q | q)
        · have := Blk.lt h; omega
        · have := Blk.lt hf; omega
        · have := (hnv.lt j q).2; omega
        · have := (hwt.lt j q).2; omega
      · rcases a6 with h | ⟨j, h, hj⟩
        · exact .inl h
        · exact .inr ⟨j, h, Nat.le_trans st.size hj⟩
      · rcases a7 with h | ⟨j, h, hj⟩
        · exact .inl h
        · exact .inr ⟨j, h, Nat.le_trans st.size hj⟩
      · intro j hj hc
        have h1 := own.lt j hc
        rcases a6 with h | ⟨q, h, hq⟩
        · rw [h] at hj
          have := (hnv.lt j hj).2
          omega
        · rw [h] at hj
          injection hj with hj
          omega))
  have c0 : w.drew.cell? ⟨g, 0, none⟩ = some (.int .i64 room) := Blk.cell h 0
  obtain ⟨U, hU⟩ : ∃ U, U = usedOf sz D := ⟨_, rfl⟩
  rw [← hU] at US hroom hu
  have d1 : ¬ (room - (U : Int) < (m : Int)) := by omega
  have d2 : (U : Int) ≤ 35184372088832 := by omega
  have d3 : (0 : Int) ≤ room := by omega
  have d4 : IntKind.i64.wrap (room - (U : Int)) = room - (U : Int) := by rw [IntKind.wrap_i64]; omega
  clear h hl hl0 hs hown hsz hf hnv hwt hbase hr hB hA hnm hk hst p1 p2 p3 hlk hU hroom
  go_enter Tryz.func206, Tryz.ntmps206
  go_wp2_with fail
  refine FD.out.mono ?_
  rintro e w2 ⟨rfl, rfl⟩
  go_wp2_with fail
  refine wp_region_held_drew (S := fun W => W.cell? ⟨g, 0, none⟩ = some (.int .i64 room)) (by kernel_rfl) c0 (fun hHeld => ?_)
  try simp only [Act.put, List.setIfInBounds_toArray, List.set_cons_zero, List.set_cons_succ]
  refine wpAnyH_take (i := 0) (v := .slice A m c) rfl (by kernel_rfl) (by kernel_rfl) (by kernel_rfl) (fun _ _ _ h => h) (Or.inl ⟨by kernel_rfl, fun W hS => by go_simp⟩) (by assumption) ?_
  try simp only [Act.put, List.setIfInBounds_toArray, List.set_cons_zero, List.set_cons_succ]
  refine wpAnyH_take (i := 1) (v := .int .i64 (m : Int)) rfl (by kernel_rfl) (by kernel_rfl) (by kernel_rfl) (fun _ _ _ h => h) (Or.inl ⟨by kernel_rfl, fun W hS => by go_simp⟩) (by assumption) ?_
  try simp only [Act.put, List.setIfInBounds_toArray, List.set_cons_zero, List.set_cons_succ]
  refine wpAnyH_take (i := 2) (v := .pointer (some ⟨g, 0, none⟩)) rfl (by kernel_rfl) (by kernel_rfl) (by kernel_rfl) (fun _ _ _ h => h) (Or.inl ⟨by kernel_rfl, fun W hS => by go_simp⟩) (by assumption) ?_
  try simp only [Act.put, List.setIfInBounds_toArray, List.set_cons_zero, List.set_cons_succ]
  refine wpAnyH_take (i := 3) (v := .pointer (some ⟨g, 0, none⟩)) rfl (by kernel_rfl) (by kernel_rfl) (by kernel_rfl) (fun _ _ _ h => h) (Or.inl ⟨by kernel_rfl, fun W hS => by go_simp⟩) (by assumption) ?_
  try simp only [Act.put, List.setIfInBounds_toArray, List.set_cons_zero, List.set_cons_succ]
  refine wpAnyH_take (i := 4) (v := .pointer (some ⟨g, 0, none⟩)) rfl (by kernel_rfl) (by kernel_rfl) (by kernel_rfl) (fun _ _ _ h => h) (Or.inl ⟨by kernel_rfl, fun W hS => by go_simp⟩) (by assumption) ?_
  try simp only [Act.put, List.setIfInBounds_toArray, List.set_cons_zero, List.set_cons_succ]
  refine wpAnyH_take (i := 5) (v := .int .i64 room) rfl (by kernel_rfl) (by kernel_rfl) (by kernel_rfl) (fun _ _ _ h => h) (Or.inl ⟨by kernel_rfl, fun W hS => by go_simp⟩) (by assumption) ?_
  try simp only [Act.put, List.setIfInBounds_toArray, List.set_cons_zero, List.set_cons_succ]
  refine wpAnyH_take (i := 6) (v := .pointer (some ⟨g, 0, none⟩)) rfl (by kernel_rfl) (by kernel_rfl) (by kernel_rfl) (fun _ _ _ h => h) (Or.inl ⟨by kernel_rfl, fun W hS => by go_simp⟩) (by assumption) ?_
  try simp only [Act.put, List.setIfInBounds_toArray, List.set_cons_zero, List.set_cons_succ]
  refine wpAnyH_ready (rs := [7]) (by kernel_rfl) (by simp) ?_
  refine AllReadyH.cons (o := ⟨some 27, .call { callee := .value (.func 251), args := #[.tmp 26], argTypes := #[67] }, _, _, _, _⟩) rfl (fun K' hK' => ?_) AllReadyH.nil
  have HK' := Lib.hid hK'
  clear hK'
  go_simp
  go_wp2_with (go_at_call 251; refine US.out.mono ?_; rintro e w3 ⟨rfl, s3⟩; have S3 := Lib.hid (show Still w w3 from ((Still.refl w).drew).trans s3))
  refine HK'.out.out _ _ (Blk.cell (MM.out w3 S3.out) 0) (fun hHeld => ?_)
  clear HK' K'
  try simp only [Act.put, List.setIfInBounds_toArray, List.set_cons_zero, List.set_cons_succ]
  refine wpAnyH_take (i := 8) (v := .int .i64 (room - (U : Int))) rfl (by kernel_rfl) (by kernel_rfl) (by kernel_rfl) (fun _ _ _ h => h) (Or.inl ⟨by kernel_rfl, fun W hS => by go_simp⟩) (by assumption) ?_
  try simp only [Act.put, List.setIfInBounds_toArray, List.set_cons_zero, List.set_cons_succ]
  refine wpAnyH_take (i := 9) (v := (.bool false)) rfl (by kernel_rfl) (by kernel_rfl) (by kernel_rfl) (fun _ _ _ h => h) (Or.inl ⟨by kernel_rfl, fun W hS => by go_simp⟩) (by assumption) ?_
  try simp only [Act.put, List.setIfInBounds_toArray, List.set_cons_zero, List.set_cons_succ]
  refine wpAnyH_take (i := 10) (v := (.bool false)) rfl (by kernel_rfl) (by kernel_rfl) (by kernel_rfl) (fun _ _ _ h => h) (Or.inl ⟨by kernel_rfl, fun W hS => by go_simp⟩) (by assumption) ?_
  try simp only [Act.put, List.setIfInBounds_toArray, List.set_cons_zero, List.set_cons_succ]
  refine wpAnyH_done (by kernel_rfl) ?_ _
  clear hHeld c0 US
  go_simp
  go_wp2_with fail
  refine wp_region_any (by kernel_rfl) ?_
  change wpAny _ _ _ _ _ _ _ w3.drew
  have SE := Lib.hid (show Still w w3.drew from S3.out.trans ((Still.refl w3).drew))
  obtain ⟨we, hwe⟩ : ∃ we, we = w3.drew := ⟨_, rfl⟩
  rw [← hwe] at SE ⊢
  have c0 : we.cell? ⟨gf, 0, none⟩ = some (.slice Anv nf cnv) := Blk.cell (FF.out we SE.out) 0
  have CLE := Lib.hid (CL.out we SE.out)
  clear hwe
  try simp only [Act.put, List.setIfInBounds_toArray, List.set_cons_zero, List.set_cons_succ]
  refine wpAny_take (i := 0) (v := .pointer (some ⟨g, 0, none⟩)) rfl (by kernel_rfl) (by kernel_rfl) (by kernel_rfl) (fun _ _ _ h => h) (Or.inl ⟨by kernel_rfl, fun w => by go_simp⟩) ?_
  try simp only [Act.put, List.setIfInBounds_toArray, List.set_cons_zero, List.set_cons_succ]
  refine wpAny_take (i := 1) (v := .pointer (some ⟨gf, 0, none⟩)) rfl (by kernel_rfl) (by kernel_rfl) (by kernel_rfl) (fun _ _ _ h => h) (Or.inl ⟨by kernel_rfl, fun w => by go_simp⟩) ?_
  try simp only [Act.put, List.setIfInBounds_toArray, List.set_cons_zero, List.set_cons_succ]
  refine wpAny_take (i := 2) (v := .pointer (some ⟨gf, 0, none⟩)) rfl (by kernel_rfl) (by kernel_rfl) (by kernel_rfl) (fun _ _ _ h => h) (Or.inl ⟨by kernel_rfl, fun w => by go_simp⟩) ?_
  try simp only [Act.put, List.setIfInBounds_toArray, List.set_cons_zero, List.set_cons_succ]
  refine wpAny_take (i := 3) (v := .pointer (some ⟨gf, 0, none⟩)) rfl (by kernel_rfl) (by kernel_rfl) (by kernel_rfl) (fun _ _ _ h => h) (Or.inl ⟨by kernel_rfl, fun w => by go_simp⟩) ?_
  try simp only [Act.put, List.setIfInBounds_toArray, List.set_cons_zero, List.set_cons_succ]
  refine wpAny_take (i := 4) (v := .pointer (some ⟨gf, 0, none⟩)) rfl (by kernel_rfl) (by kernel_rfl) (by kernel_rfl) (fun _ _ _ h => h) (Or.inl ⟨by kernel_rfl, fun w => by go_simp⟩) ?_
  try simp only [Act.put, List.setIfInBounds_toArray, List.set_cons_zero, List.set_cons_succ]
  refine wpAny_take (i := 7) (v := .slice A m c) rfl (by kernel_rfl) (by kernel_rfl) (by kernel_rfl) (fun _ _ _ h => h) (Or.inl ⟨by kernel_rfl, fun w => by go_simp⟩) ?_
  try simp only [Act.put, List.setIfInBounds_toArray, List.set_cons_zero, List.set_cons_succ]
  refine wpAny_ready (rs := [5, 8]) (by kernel_rfl) (by simp) ?_
  refine AllReady.cons (o := ⟨some 35, .load 34 (.tmp 34), _, _, _, none⟩) rfl (fun K' hK' => ?_) (AllReady.cons (o := ⟨some 38, .call { callee := .value (.func 118), args := #[.tmp 37], argTypes := #[34] }, _, _, _, none⟩) rfl (fun K' hK' => ?_) AllReady.nil)
  · have HK' := Lib.hid hK'
    clear hK'
    rw [if_pos (by kernel_rfl)]
    go_simp
    refine HK'.out _ _ ?_
    clear HK' K'
    try simp only [Act.put, List.setIfInBounds_toArray, List.set_cons_zero, List.set_cons_succ]
    refine wpAny_take (i := 6) (v := .int .i64 (nf : Int)) rfl (by kernel_rfl) (by kernel_rfl) (by kernel_rfl) (fun _ _ _ h => h) (Or.inl ⟨by kernel_rfl, fun w => by go_simp⟩) ?_
    try simp only [Act.put, List.setIfInBounds_toArray, List.set_cons_zero, List.set_cons_succ]
    refine wpAny_ready (rs := [8]) (by kernel_rfl) (by simp) ?_
    refine AllReady.cons (o := ⟨some 38, .call { callee := .value (.func 118), args := #[.tmp 37], argTypes := #[34] }, _, _, _, none⟩) rfl (fun K' hK' => ?_) AllReady.nil
    have HK' := Lib.hid hK'
    clear hK'
    go_simp
    go_wp2_with (go_at_call 118; refine CLE.out.mono ?_; rintro e w5 ⟨⟨v5, rfl, o5⟩, s5⟩)
    have S5 := Lib.hid (SE.out.trans s5)
    obtain ⟨Ac, cc, rfl, WW⟩ := WR.out w5 S5.out v5 (own_lower9 o5 SE.out.size)
    have WW2 := Lib.hid WW
    have c5 : w5.cell? ⟨gf, 0, none⟩ = some (.slice Anv nf cnv) := Blk.cell (FF.out w5 S5.out) 0
    clear o5 s5 WW
    refine HK'.out _ _ ?_
    clear HK' K'
    try simp only [Act.put, List.setIfInBounds_toArray, List.set_cons_zero, List.set_cons_succ]
    refine wpAny_take (i := 9) (v := .agg #[.int .i64 (nf : Int), .slice Ac m cc]) rfl (by kernel_rfl) (by kernel_rfl) (by kernel_rfl) (fun _ _ _ h => h) (Or.inl ⟨by kernel_rfl, fun w => by go_simp⟩) ?_
    try simp only [Act.put, List.setIfInBounds_toArray, List.set_cons_zero, List.set_cons_succ]
    refine wpAny_ready (rs := [10]) (by kernel_rfl) (by simp) ?_
    refine AllReady.cons (o := ⟨some 40, .call { callee := .value (.func 252), args := #[.tmp 30, .tmp 31, .tmp 39], argTypes := #[67, 153, 218] }, _, _, _, none⟩) rfl (fun K' hK' => ?_) AllReady.nil
    have HK' := Lib.hid hK'
    clear hK'
    go_simp
    go_wp2_with (go_at_call 252; refine WW2.out.mono ?_; rintro e w6 ⟨rfl, FN⟩)
    have FN2 := Lib.hid FN
    clear FN
    refine HK'.out _ _ ?_
    clear HK' K'
    try simp only [Act.put, List.setIfInBounds_toArray, List.set_cons_zero, List.set_cons_succ]
    refine wpAny_take (i := 11) (v := .int .i64 0) rfl (by kernel_rfl) (by kernel_rfl) (by kernel_rfl) (fun _ _ _ h => h) (Or.inl ⟨by kernel_rfl, fun w => by go_simp⟩) ?_
    try simp only [Act.put, List.setIfInBounds_toArray, List.set_cons_zero, List.set_cons_succ]
    refine wpAny_done (by kernel_rfl) ?_ _
    go_simp
    go_wp2_with fail
    go_ret
    exact ⟨rfl, FN2.out⟩
  · have HK' := Lib.hid hK'
    clear hK'
    go_simp
    go_wp2_with (go_at_call 118; refine CLE.out.mono ?_; rintro e w5 ⟨⟨v5, rfl, o5⟩, s5⟩)
    have S5 := Lib.hid (SE.out.trans s5)
    obtain ⟨Ac, cc, rfl, WW⟩ := WR.out w5 S5.out v5 (own_lower9 o5 SE.out.size)
    have WW2 := Lib.hid WW
    have c5 : w5.cell? ⟨gf, 0, none⟩ = some (.slice Anv nf cnv) := Blk.cell (FF.out w5 S5.out) 0
    clear o5 s5 WW
    refine HK'.out _ _ ?_
    clear HK' K'
    try simp only [Act.put, List.setIfInBounds_toArray, List.set_cons_zero, List.set_cons_succ]
    refine wpAny_ready (rs := [5]) (by kernel_rfl) (by simp) ?_
    refine AllReady.cons (o := ⟨some 35, .load 34 (.tmp 34), _, _, _, none⟩) rfl (fun K' hK' => ?_) AllReady.nil
    have HK' := Lib.hid hK'
    clear hK'
    rw [if_pos (by kernel_rfl)]
    go_simp
    refine HK'.out _ _ ?_
    clear HK' K'
    try simp only [Act.put, List.setIfInBounds_toArray, List.set_cons_zero, List.set_cons_succ]
    refine wpAny_take (i := 6) (v := .int .i64 (nf : Int)) rfl (by kernel_rfl) (by kernel_rfl) (by kernel_rfl) (fun _ _ _ h => h) (Or.inl ⟨by kernel_rfl, fun w => by go_simp⟩) ?_
    try simp only [Act.put, List.setIfInBounds_toArray, List.set_cons_zero, List.set_cons_succ]
    refine wpAny_take (i := 9) (v := .agg #[.int .i64 (nf : Int), .slice Ac m cc]) rfl (by kernel_rfl) (by kernel_rfl) (by kernel_rfl) (fun _ _ _ h => h) (Or.inl ⟨by kernel_rfl, fun w => by go_simp⟩) ?_
    try simp only [Act.put, List.setIfInBounds_toArray, List.set_cons_zero, List.set_cons_succ]
    refine wpAny_ready (rs := [10]) (by kernel_rfl) (by simp) ?_
    refine AllReady.cons (o := ⟨some 40, .call { callee := .value (.func 252), args := #[.tmp 30, .tmp 31, .tmp 39], argTypes := #[67, 153, 218] }, _, _, _, none⟩) rfl (fun K' hK' => ?_) AllReady.nil
    have HK' := Lib.hid hK'
    clear hK'
    go_simp
    go_wp2_with (go_at_call 252; refine WW2.out.mono ?_; rintro e w6 ⟨rfl, FN⟩)
    have FN2 := Lib.hid FN
    clear FN
    refine HK'.out _ _ ?_
    clear HK' K'
    try simp only [Act.put, List.setIfInBounds_toArray, List.set_cons_zero, List.set_cons_succ]
    refine wpAny_take (i := 11) (v := .int .i64 0) rfl (by kernel_rfl) (by kernel_rfl) (by kernel_rfl) (fun _ _ _ h => h) (Or.inl ⟨by kernel_rfl, fun w => by go_simp⟩) ?_
    try simp only [Act.put, List.setIfInBounds_toArray, List.set_cons_zero, List.set_cons_succ]
    refine wpAny_done (by kernel_rfl) ?_ _
    go_simp
    go_wp2_with fail
    go_ret
    exact ⟨rfl, FN2.out⟩
end Go.Proofs.YtblgphfdicffcaaGreatDoor

/- A region that stores into the very cells that it has loaded: a condition on the world that must hold only behind the operations that may come up while a load is pending. It proves no statement. -/




namespace Go.Proofs.YtblgphfdicffcaaGreatDoor
open Go Go.RowKit
set_option linter.unusedVariables false
set_option linter.unusedSimpArgs false

section
variable {P : Program} {ops : Array Oper} {Q : Exit → Act → World → Prop} {md : Region.Mode} {S : World → Prop} {U : List Nat}

/-- Whatever order is picked; behind an operation that is none of U, S holds. -/
def wpLate (P : Program) (md : Region.Mode) (ops : Array Oper) (Q : Exit → Act → World → Prop) (S : World → Prop) (U : List Nat) : Nat → Array Bool → Act → World → Prop
  | 0, done, a, w => Region.ready md ops done = [] ∧ Q .normal a w
  | fuel + 1, done, a, w =>
    (Region.ready md ops done = [] → Q .normal a w) ∧
    ∀ i ∈ Region.ready md ops done, wpOp P ops Q i (fun a' w' => (S w → U.contains i = false → S w') ∧ wpLate P md ops Q S U fuel (done.setIfInBounds i true) a' w') a w
theorem wpAny_of_late : ∀ (fuel : Nat) (done : Array Bool) (a : Act) (w : World), wpLate P md ops Q S U fuel done a w → wpAny P md ops Q fuel done a w
  | 0, _, _, _, h => h
  | fuel + 1, _, _, _, h => ⟨h.1, fun i hi => wpOp_mono (fun a' w' h' => wpAny_of_late fuel _ a' w' h'.2) (h.2 i hi)⟩
/-- What has come up stands with all that it waits for. -/
def Closed (md : Region.Mode) (ops : Array Oper) (done : Array Bool) : Prop :=
  ∀ j o, ops[j]? = some o → done.getD j false = true → ∀ e ∈ o.after, Region.binds md e = true → done.getD e.on false = true
def closedB (md : Region.Mode) (ops : Array Oper) (done : Array Bool) : Bool :=
  (List.range ops.size).all fun j => !done.getD j false || ((ops[j]?).map fun o => o.after.all fun e => !Region.binds md e || done.getD e.on false).getD true
theorem closed_spec {done : Array Bool} (h : closedB md ops done = true) : Closed md ops done := by
  intro j o ho hj e he hb
  have hlt : j < ops.size := (Array.getElem?_eq_some_iff.1 ho).1
  have h1 := List.all_eq_true.1 h j (List.mem_range.2 hlt)
  rw [hj, ho] at h1
  simp only [Bool.not_true, Bool.false_or, Option.map_some, Option.getD_some, Array.all_eq_true_iff_forall_mem] at h1
  have h2 := h1 e he
  rw [hb] at h2
  simpa using h2
theorem Closed.step {done : Array Bool} (h : Closed md ops done) {j : Nat} (hj : j ∈ Region.ready md ops done) : Closed md ops (done.setIfInBounds j true) := by
  intro k o ho hk e he hb
  obtain ⟨_, oj, hoj, hall⟩ := mem_ready.1 hj
  by_cases hkj : j = k
  · subst hkj
    rw [hoj] at ho
    cases ho
    exact getD_set_true (hall e he hb)
  · rw [getD_set_ne false hkj] at hk
    exact getD_set_true (h k o ho hk e he hb)
/-- Each of a row of operations waits for one that stands ahead of it, or for one of the first. -/
def waits (md : Region.Mode) (ops : Array Oper) : List Nat → List Nat → Bool
  | _, [] => true
  | seen, j :: r => ((ops[j]?).map fun o => o.after.any fun e => Region.binds md e && seen.contains e.on).getD false && waits md ops (j :: seen) r
theorem waits_spec {done : Array Bool} {i : Nat} (hc : Closed md ops done) : ∀ (r seen : List Nat), waits md ops seen r = true → (∀ s ∈ seen, done.getD s false = true → done.getD i false = true) →
    ∀ j ∈ r, ∀ o, ops[j]? = some o → (∀ e ∈ o.after, Region.binds md e = true → done.getD e.on false = true) → done.getD i false = true := by
  intro r
  induction r with
  | nil => intro seen _ _ j hj; cases hj
  | cons k r ih =>
    intro seen h hs j hj o ho hall
    unfold waits at h
    rw [Bool.and_eq_true] at h
    obtain ⟨h1, h2⟩ := h
    cases hk : ops[k]? with
    | none => rw [hk] at h1; simp at h1
    | some ok =>
      rw [hk] at h1
      simp only [Option.map_some, Option.getD_some] at h1
      obtain ⟨q, hq, h1⟩ := Array.any_eq_true.1 h1
      rw [Bool.and_eq_true] at h1
      have hmem : ok.after[q] ∈ ok.after := Array.getElem_mem hq
      have hin : ok.after[q].on ∈ seen := by simpa using h1.2
      rcases List.mem_cons.1 hj with rfl | hj
      · rw [hk] at ho
        cases ho
        exact hs _ hin (hall _ hmem h1.1)
      · refine ih (k :: seen) h2 ?_ j hj o ho hall
        intro s hsm hsd
        rcases List.mem_cons.1 hsm with rfl | hsm
        · exact hs _ hin (hc _ ok hk hsd _ hmem h1.1)
        · exact hs s hsm hsd
theorem wpLate_first {i : Nat} {oi : Oper} {v : Value} (hi : ops[i]? = some oi) (hsel : ∀ (j : Nat) (o : Oper) cs b, ops[j]? = some o → o.op ≠ .select cs b)
    (hQ : ∀ c a w, Q (.panic c) (a.put oi.dst v) w → Q (.panic c) a w) {S' : World → Prop} (R : List Nat) (hU : (∀ w, S' w) ∨ (S' = S ∧ waits md ops [i] R = true ∧ ∀ j ∈ U, j ∈ R)) :
    ∀ (fuel : Nat) (done : Array Bool) (a : Act) (w : World), Closed md ops done →
      (∀ j oj, ops[j]? = some oj → j ≠ i → done.getD j true = false → (∀ e ∈ oj.after, Region.binds md e = true → e.on ≠ i) → oi.apart ops oj = true) →
      i ∈ Region.ready md ops done → YieldsIf P ops S' oi v a → S' w →
      wpLate P md ops Q S U fuel (done.setIfInBounds i true) (a.put oi.dst v) w → wpLate P md ops Q S U (fuel + 1) done a w := by
  intro fuel
  induction fuel with
  | zero =>
    intro done a w _ _ hr hy hS H
    refine ⟨fun h => (by rw [h] at hr; cases hr), fun j hj => ?_⟩
    by_cases hji : j = i
    · subst hji; exact hy.wpOp hi hS ⟨fun h _ => h, H⟩
    · have := ready_mono hj hji
      rw [H.1] at this
      cases this
  | succ fuel ih =>
    intro done a w hcl hfree hr hy hS H
    refine ⟨fun h => (by rw [h] at hr; cases hr), fun j hj => ?_⟩
    by_cases hji : j = i
    · subst hji; exact hy.wpOp hi hS ⟨fun h _ => h, H⟩
    · have h1 := H.2 j (ready_mono hj hji)
      obtain ⟨hjun, oj, hoj, hall⟩ := mem_ready.1 hj
      have hiun : done.getD i false = false := by
        have h0 := (mem_ready.1 hr).1
        rcases Nat.lt_or_ge i done.size with h' | h'
        · simp [h'] at h0 ⊢; exact h0
        · simp [Array.getElem?_eq_none h']
      have hnot : ∀ e ∈ oj.after, Region.binds md e = true → e.on ≠ i := fun e he hb heq => by
        have h1 := hall e he hb
        rw [heq, hiun] at h1
        cases h1
      have hnU : (∀ w, S' w) ∨ (S' = S ∧ U.contains j = false) := by
        rcases hU with hU | ⟨hSS, hU, hsub⟩
        · exact .inl hU
        · refine .inr ⟨hSS, ?_⟩
          cases hc : U.contains j with
          | false => rfl
          | true =>
            have := waits_spec hcl R [i] hU (by intro s hs; simp at hs; subst hs; exact id) j (hsub j (by simpa using hc)) oj hoj hall
            rw [hiun] at this
            cases this
      have h2 := wpOp_putIf hoj (hfree j oj hoj hji hjun hnot) (fun cs b => hsel i oi cs b hi) (fun cs b => hsel j oj cs b hoj) hQ hy h1
      have hfree' : ∀ k ok, ops[k]? = some ok → k ≠ i → (done.setIfInBounds j true).getD k true = false →
          (∀ e ∈ ok.after, Region.binds md e = true → e.on ≠ i) → oi.apart ops ok = true := fun k ok hk hki hun hno => by
        refine hfree k ok hk hki ?_ hno
        by_cases hjk : j = k
        · subst hjk; exact hjun
        · rw [getD_set_ne true hjk] at hun; exact hun
      refine wpOp_mono (fun a' w' h3 => ⟨h3.2.1, ih (done.setIfInBounds j true) a' w' (hcl.step hj) hfree' (ready_mono hr (Ne.symm hji)) h3.1 ?_ ?_⟩) h2
      · rcases hnU with h | h
        · exact h w'
        · rw [h.1] at hS ⊢
          exact h3.2.1 hS h.2
      · rw [Array.setIfInBounds_comm _ _ hji]
        exact h3.2.2

/-- A load is taken first: all of U wait for it. -/
theorem wpLate_take {i : Nat} {oi : Oper} {v : Value} {fuel : Nat} {done : Array Bool} {a : Act} {w : World} (R : List Nat) (hi : ops[i]? = some oi)
    (hs : Region.noSelect ops = true) (hc : closedB md ops done = true) (hf : Region.free md ops done i = true) (hr : (Region.ready md ops done).contains i = true)
    (hR : waits md ops [i] R = true) (hsub : ∀ j ∈ U, j ∈ R)
    (hQ : ∀ c a w, Q (.panic c) (a.put oi.dst v) w → Q (.panic c) a w) (hy : YieldsIf P ops S oi v a) (hS : S w)
    (h : S w → wpLate P md ops Q S U fuel (done.setIfInBounds i true) (a.put oi.dst v) w) : wpLate P md ops Q S U (fuel + 1) done a w :=
  wpLate_first hi (Region.noSelect_spec hs) hQ R (.inr ⟨rfl, hR, hsub⟩) fuel done a w (closed_spec hc) (Region.free_spec hi hf) (by simpa using hr) hy hS (h hS)
/-- What yields in whatever world is taken first. -/
theorem wpLate_pure {i : Nat} {oi : Oper} {v : Value} {fuel : Nat} {done : Array Bool} {a : Act} {w : World} (hi : ops[i]? = some oi)
    (hs : Region.noSelect ops = true) (hc : closedB md ops done = true) (hf : Region.free md ops done i = true) (hr : (Region.ready md ops done).contains i = true)
    (hQ : ∀ c a w, Q (.panic c) (a.put oi.dst v) w → Q (.panic c) a w) (hy : YieldsIf P ops (fun _ => True) oi v a)
    (h : wpLate P md ops Q S U fuel (done.setIfInBounds i true) (a.put oi.dst v) w) : wpLate P md ops Q S U (fuel + 1) done a w :=
  wpLate_first hi (Region.noSelect_spec hs) hQ [] (.inl fun _ => trivial) fuel done a w (closed_spec hc) (Region.free_spec hi hf) (by simpa using hr) hy trivial h
/-- Only one may come up. -/
theorem wpLate_one {i : Nat} {o : Oper} {fuel : Nat} {done : Array Bool} {a : Act} {w : World} (hr : Region.ready md ops done = [i]) (ho : ops[i]? = some o)
    (h : ∀ K' : Act → World → Prop, Shut (∀ a' w', (S w → U.contains i = false → S w') → wpLate P md ops Q S U fuel (done.setIfInBounds i true) a' w' → K' a' w') →
      if Region.wanted o (yielded ops a.tmps) = true then Oper.wp P o a w K' Q else K' (a.put o.dst undef) w) : wpLate P md ops Q S U (fuel + 1) done a w := by
  refine ⟨fun h0 => absurd (hr ▸ h0) (by simp), ?_⟩
  intro j hj
  rw [hr] at hj
  have hji : j = i := by simpa using hj
  subst hji
  exact wpOp_step ho (fun K' hK => h K' (fun a w hS hW => hK a w ⟨hS, hW⟩))
theorem wpLate_done {done : Array Bool} {a : Act} {w : World} (hr : Region.ready md ops done = []) (h : Q .normal a w) : ∀ fuel, wpLate P md ops Q S U fuel done a w
  | 0 => ⟨hr, h⟩
  | _ + 1 => ⟨fun _ => h, by rw [hr]; simp⟩
theorem wp_region_late {id : Nat} {a : Act} {w : World} (U : List Nat) (hm : P.follows .mixedOrders = true) (hS : S w.drew)
    (h : S w.drew → wpLate P .any ops Q S U ops.size (Array.replicate ops.size false) a w.drew) : (Code.region id ops true).wp P Q a w :=
  wp_region_any hm (wpAny_of_late _ _ _ _ (h hS))
end
theorem storeVar_cell0 (P : Program) (e : TypeId) (hi : (P.info? e).map (·.size) = some 1) (a : Addr) (v o : Value) (hv : v.oneCell' = true) (w : World) (hc : w.cell? a = some o) (hf : w.frozen? a = false) :
    (storeVar e a v).run P w = .ok () (w.setCell a v) := by
  have h1 : v.cells = #[v] := by cases v <;> first | rfl | simp [Value.oneCell'] at hv
  cases hq : P.info? e with
  | none => simp [hq] at hi
  | some i =>
    have hs : i.size = 1 := by simpa [hq] using hi
    simp [storeVar, h1, sizeOf, typeInfo, hq, hs, storeCells, run_store P _ _ v _ hv, Addr.add_zero', hc, hf, Result.andThen]
theorem step_storeC (w : World) {P : Program} {o : Oper} {a : Act} {K : Act → World → Prop} {Q : Exit → Act → World → Prop} (ty : TypeId) (x y : Operand) (ho : o.op = .store ty x y)
    (b i : Nat) (v old : Value) (hx : a.eval x = .pointer (some ⟨b, i, none⟩)) (hy : a.eval y = v) (hv : v.oneCell' = true) (hi : (P.info? ty).map (·.size) = some 1) (hc : w.cell? ⟨b, i, none⟩ = some old) (hf : w.frozen? ⟨b, i, none⟩ = false)
    (h : K (a.put o.dst undef) (w.setCell ⟨b, i, none⟩ v)) : o.wp P a w K Q := by
  unfold Oper.wp execOp
  simp only [ho, hx, hy, Instr.storeAt, Instr.sureAddr, Sem.run_bind, Sem.run_pure, Result.andThen_ok, storeVar_cell0 P ty hi ⟨b, i, none⟩ v old hv w hc hf]
  exact h
end Go.Proofs.YtblgphfdicffcaaGreatDoor

/- The law of Late, for the medium's texts. It proves no statement. -/

/- 'var a [n]T': a new block of noughts. It proves no statement. -/




namespace Go.Proofs.YtblgphfdicffcaaGreatDoor
open Go.RowKit
set_option linter.unusedVariables false
set_option linter.unusedSimpArgs false

theorem run_alloc_arr {P : Program} (ρ : Operand → Value) (o : Oper) (t : TypeId) (ho : o.op = .alloc t) (cs : Array Value) (n : Nat) (h : (P.info? t).map (fun i => (i.zero, i.size)) = some (some (.agg cs), n)) (w : World) :
    (execOp ρ o).run P w = .ok (.value (.pointer (some ⟨w.heap.size, 0, none⟩))) (w.alloc (.cells cs t)) := by
  have hz := (zero_of_info h).1
  unfold execOp
  simp [ho, Instr.alloc, hz, Value.cells, newVar, newRow, Sem.run_bind]
theorem wpList_alloc_arr {P : Program} {ops : Array Oper} {rest : List Oper} {o : Oper} {a : Act} {w : World} {Q : Exit → Act → World → Prop} (hg : o.guard = none) (t : TypeId) (ho : o.op = .alloc t) (dst : Option Tmp) (hdst : o.dst = dst) (cs : Array Value) (n : Nat)
    (hi : (P.info? t).map (fun i => (i.zero, i.size)) = some (some (.agg cs), n)) (h : wpList P ops Q rest (a.put dst (.pointer (some ⟨w.heap.size, 0, none⟩))) (w.alloc (.cells cs t))) : wpList P ops Q (o :: rest) a w :=
  Go.Great.wpList_runTo hg dst hdst _ _ (run_alloc_arr _ o t ho cs n hi w) h
theorem wpList_box_arr {P : Program} {ops : Array Oper} {rest : List Oper} {o : Oper} {a : Act} {w : World} {Q : Exit → Act → World → Prop} (hg : o.guard = none) (t : TypeId) (x : Operand) (ho : o.op = .box t x) (dst : Option Tmp) (hdst : o.dst = dst) (cs : Array Value)
    (hx : a.eval x = .agg cs) (h : wpList P ops Q rest (a.put dst (.pointer (some ⟨w.heap.size, 0, none⟩))) (w.alloc (.cells cs t))) : wpList P ops Q (o :: rest) a w := by
  refine Go.Great.wpList_runTo hg dst hdst _ _ ?_ h
  unfold execOp
  simp [ho, hx, Instr.box, Value.cells, newVar, newRow, Sem.run_bind]
/-- An element of an array that is a value. -/
theorem run_index_arr {P : Program} (w : World) (t e : TypeId) (n : Nat) (k : IntKind) (ht : P.underlying t = some (.array n e)) (he : P.underlying e = some (.int k)) (hs : (P.info? e).map (·.size) = some 1)
    (cs : List Value) (hn : cs.length = n) (i : Nat) (hi : i < n) (v : Value) (hv : cs[i]? = some v) : (Instr.index t (.agg cs.toArray) (.int .i64 (i : Int))).run P w = .ok v w := by
  cases hq : P.info? e with
  | none => simp [hq] at hs
  | some ie =>
    have hz : ie.size = 1 := by simpa [hq] using hs
    simp [Instr.index, asIntOf, run_underlying ht, Sem.run_bind, sizeOf, typeInfo, hq, hz, part, isAgg, run_underlying he, hv, hi]
end Go.Proofs.YtblgphfdicffcaaGreatDoor

/- Texts and numbers that are cut; rows that lie apart. It proves no statement. -/










namespace Go.Proofs.YtblgphfdicffcaaGreatDoor
open Go.RowKit Go.Maps Go.WideMaps
set_option linter.unusedVariables false
set_option linter.unusedSimpArgs false

/-- A text cut to k bytes. -/
def shB (k : Nat) (s : ByteArray) : ByteArray := if s.size ≤ k then s else s.extract 0 k
theorem shB_size (k : Nat) (s : ByteArray) : (shB k s).size ≤ k := by
  unfold shB
  split
  · assumption
  · simp; omega
/-- A row of numbers, cut to 60. -/
theorem numbers_any (A : Option Addr) (n c : Nat) (w : World) (hc : n ≤ c) (hm : c ≤ 9223372036854775807) (hA : 0 < n → ∃ b o, A = some ⟨b, o, none⟩) :
    Calls Tryz.prog 31 #[.slice A n c, .int .i64 60] w fun e w' => e = .returned (.slice A (min n 60) c) ∧ w = w' := by
  by_cases hlt : 60 < n
  · obtain ⟨b, o, rfl⟩ := hA (by omega)
    have hmin : min n 60 = 60 := by omega
    have hc60 : (60 : Nat) ≤ c := by omega
    rw [hmin]
    go_enter Tryz.func31, Tryz.ntmps31
    go_wp2
    go_ret
    exact ⟨rfl, rfl⟩
  · have hmin : min n 60 = n := by omega
    rw [hmin]
    go_enter Tryz.func31, Tryz.ntmps31
    go_wp2
    go_ret
    exact ⟨rfl, rfl⟩
theorem own_low {w : World} {b b' n z : Nat} {e : TypeId} {v : Value} {xs : List Value} (h : w.ownsRow b e z v n xs) (hb : b' ≤ b) : w.ownsRow b' e z v n xs := by
  refine ⟨h.1, ?_⟩
  rcases h.2 with q | ⟨k, cap, cur, e1, e2, e3⟩
  · exact .inl q
  · exact .inr ⟨k, cap, cur, e1, Nat.le_trans hb e2, e3⟩
theorem own_apart {W W' : World} {B B' n n' z z' : Nat} {e e' : TypeId} {v v' : Value} {xs xs' : List Value} (h : W.ownsRow B e z v n xs) (h' : W.ownsRow B' e' z' v' n' xs') (ne : e ≠ e') (gr : W.grownBy W' v'.ownBlock) : W'.ownsRow B e z v n xs := by
  refine h.kept (row := v'.ownBlock) gr ?_
  rcases h.2 with ⟨rfl, _⟩ | ⟨g, cap, cur, rfl, _, hg, _⟩
  · exact .inl rfl
  · refine .inr (fun q => ?_)
    rcases h'.2 with ⟨rfl, _⟩ | ⟨g', cap', cur', rfl, _, hg', _⟩
    · cases q
    · have q' : g = g' := by simpa [Value.ownBlock] using q
      subst q'
      rw [hg] at hg'
      simp only [Option.some.injEq, Obj.cells.injEq] at hg'
      exact ne hg'.2.1
end Go.Proofs.YtblgphfdicffcaaGreatDoor

/- A file's settle, where only appends wait. It proves no statement. -/


namespace Go.Proofs.YtblgphfdicffcaaGreatDoor
open Go.RowKit Go.Maps Go.WideMaps
set_option linter.unusedVariables false
set_option linter.unusedSimpArgs false

/-- A row of changes, each of which lays bytes behind all that is there: the bytes X, the cells cs; their rows lie in blocks of F. -/
def HasA (w : World) (base st : Nat) (X : List (List UInt8)) (cs : List Value) (F : Nat → Prop) : Prop :=
  cs.length = 2 * X.length ∧ ∀ j x, X[j]? = some x → ∃ cv, cs[2 * j]? = some (.int .i64 ((st + (X.take j).flatten.length : Nat) : Int)) ∧ cs[2 * j + 1]? = some cv ∧ w.ownsRow base 5 1 cv x.length (bytesV x) ∧ ∀ k, cv.ownBlock = some k → F k
theorem HasA.nil (w : World) (base st : Nat) (F : Nat → Prop) : HasA w base st [] [] F := ⟨rfl, fun j x h => by simp at h⟩
theorem HasA.keep {w w' : World} {base st : Nat} {X : List (List UInt8)} {cs : List Value} {F S : Nat → Prop} (h : HasA w base st X cs F) (c : Chg w w' S) (hS : ∀ k, F k → ¬ S k) : HasA w' base st X cs F :=
  ⟨h.1, fun j x hx => by
    obtain ⟨cv, h1, h2, h3, h4⟩ := h.2 j x hx
    exact ⟨cv, h1, h2, c.own h3 (fun k hk => hS k (h4 k hk)), h4⟩⟩
theorem HasA.snoc {w : World} {base st : Nat} {X : List (List UInt8)} {cs : List Value} {F : Nat → Prop} (h : HasA w base st X cs F) (x : List UInt8) (cv : Value) (ho : w.ownsRow base 5 1 cv x.length (bytesV x)) :
    HasA w base st (X ++ [x]) (cs ++ [.int .i64 ((st + X.flatten.length : Nat) : Int), cv]) (fun k => F k ∨ cv.ownBlock = some k) := by
  refine ⟨by simp [h.1]; omega, fun j y hy => ?_⟩
  by_cases hj : j < X.length
  · rw [List.getElem?_append_left hj] at hy
    obtain ⟨cv', h1, h2, h3, h4⟩ := h.2 j y hy
    refine ⟨cv', ?_, ?_, h3, fun k hk => .inl (h4 k hk)⟩
    · rw [List.getElem?_append_left (by rw [h.1]; omega), List.take_append_of_le_length (by omega)]; exact h1
    · rw [List.getElem?_append_left (by rw [h.1]; omega)]; exact h2
  · have hl : j < (X ++ [x]).length := (List.getElem?_eq_some_iff.1 hy).1
    have hje : j = X.length := by simp at hl; omega
    subst hje
    have hyx : y = x := by simpa using hy.symm
    subst hyx
    refine ⟨cv, ?_, ?_, ho, fun k hk => .inr hk⟩
    · rw [List.getElem?_append_right (by rw [h.1]; omega), h.1]; simp
    · rw [List.getElem?_append_right (by rw [h.1]; omega), h.1]; simp
theorem Tryz.infoChange : (Tryz.prog.info? 218).map (fun i => (i.zero, i.size)) = some (some (.agg #[.int .i64 0, .slice none 0 0]), 2) := by kernel_rfl
theorem sizeCh : (Tryz.prog.info? 218).map (·.size) = some 2 := by kernel_rfl
theorem load_midM {P : Program} {ops : Array Oper} {rest : List Oper} {op : Oper} {a : Act} {w : World} {Q : Exit → Act → World → Prop} (hw : Region.wanted op (yielded ops a.tmps) = true) (ty : TypeId) (x : Operand) (ho : op.op = .load ty x)
    (b o : Nat) (hx : a.eval x = .pointer (some ⟨b, o, none⟩)) (cs : List Value) (d : TypeDesc) (hc : w.rangeAt b o cs)
    (hu : P.underlying ty = some d) (hd : d.isRow = true) (hi : (P.info? ty).map (·.size) = some cs.length)
    (h : wpList P ops Q rest (a.put op.dst (.agg cs.toArray)) w) : wpList P ops Q (op :: rest) a w := by
  unfold wpList
  rw [if_pos hw]
  exact .inl (wp_load_mid ty x ho b o hx cs d hc hu hd hi h)
theorem wpList_storeCh {ops : Array Oper} {rest : List Oper} {o : Oper} {a : Act} {w : World} {Q : Exit → Act → World → Prop} (hgd : o.guard = none) (x y : Operand) (ho : o.op = .store 218 x y)
    (g : Nat) (hx : a.eval x = .pointer (some ⟨g, 0, none⟩)) (cs old : Array Value) (hy : a.eval y = .agg cs) (h2 : cs.size = 2) (ho2 : old.size = 2) (h1 : cs.all (·.oneCell') = true) (hg : Blk w g 218 old)
    (h : wpList Tryz.prog ops Q rest (a.put o.dst undef) (w.setRow g cs)) : wpList Tryz.prog ops Q (o :: rest) a w :=
  wpList_plain hgd fun _ hQ => wp_store_row 218 x y ho g cs hx hy _ old hg (by rw [sizeCh, h2]) (by rw [h2, ho2]) h1 (hQ _ _ h)
theorem own_neM {w : World} {g base n z : Nat} {t e : TypeId} {cs : Array Value} {v : Value} {xs : List Value} (hb : Blk w g t cs) (ho : w.ownsRow base e z v n xs) (ne : e ≠ t) : v.ownBlock ≠ some g := by
  intro h
  rcases ho.2 with ⟨q, _⟩ | ⟨k, c, cur, q, _, h3, _⟩
  · rw [q] at h; cases h
  · rw [q] at h
    have e' : k = g := by simpa [Value.ownBlock] using h
    subst e'
    have h4 : w.heap[k]? = some (.cells cs t (0, 0)) := hb
    rw [h3] at h4
    simp at h4
    exact ne h4.2
theorem chg_set (w : World) (g i : Nat) (u : Value) : Chg w (w.setCell ⟨g, i, none⟩ u) (fun b => b = g) :=
  ⟨rfl, rfl, rfl, by simp [World.setCell], fun k _ hn => Below.heap_setCell w ⟨g, i, none⟩ u k hn⟩
theorem flat_more (X : List (List UInt8)) (j : Nat) (x : List UInt8) (h : X[j]? = some x) : (X.take (j + 1)).flatten = (X.take j).flatten ++ x := by
  rw [List.take_add_one, h, List.flatten_append]
  simp
theorem flat_le (X : List (List UInt8)) (j : Nat) : (X.take j).flatten.length ≤ X.flatten.length := by
  have h : X.flatten = (X.take j).flatten ++ (X.drop j).flatten := by rw [← List.flatten_append, List.take_append_drop]
  rw [h, List.length_append]
  omega

set_option maxRecDepth 100000 in
set_option maxHeartbeats 6400000 in
theorem fsettle_app {w : World} (gf : Nat) (nv fv : Value) (base n k bw cap : Nat) (l : List UInt8) (X : List (List UInt8)) (cs : List Value) (F : Nat → Prop) (hf : FileB w gf nv fv (.slice (some ⟨bw, 0, none⟩) k cap)) (hw : w.ownsRow base 218 2 (.slice (some ⟨bw, 0, none⟩) k cap) k cs)
    (hx : HasA w base l.length X cs F) (hk : k = X.length) (hfv : w.ownsRow base 5 1 fv l.length (bytesV l)) (hsep : ∀ b, fv.ownBlock = some b → ¬ F b) (hFg : ¬ F gf) (hbase : base ≤ w.heap.size) (hn : n ≤ k) (hk6 : k ≤ 1000000) (htot : l.length + X.flatten.length ≤ 100000000) :
    Calls Tryz.prog 134 #[.pointer (some ⟨gf, 0, none⟩), .int .i64 (n : Int)] w fun e w' => e = .returned (.tuple #[]) ∧ ∃ fv', FileB w' gf nv fv' (.slice none 0 0) ∧ w'.ownsRow base 5 1 fv' (l.length + (X.take n).flatten.length) (bytesV (l ++ (X.take n).flatten)) ∧ Chg w w' (fun b => b = gf ∨ fv.ownBlock = some b) ∧ (fv'.ownBlock = fv.ownBlock ∨ ∃ j, fv'.ownBlock = some j ∧ w.heap.size ≤ j) := by
  obtain ⟨hgl, hcap, cur, hcur, hbw⟩ : gf < w.heap.size ∧ k ≤ cap ∧ ∃ cur, Blk w bw 218 cur ∧ base ≤ bw := by
    rcases hw.2 with ⟨h, _⟩ | ⟨g, c, cur, h, h2, h3, h4, _⟩
    · cases h
    · injection h with q1 q2 q3
      injection q1 with q1
      injection q1 with q1 _ _
      subst q1 q3
      exact ⟨hf.lt, h4, cur, h3, h2⟩
  have hcapm : cap ≤ 9223372036854775807 := by
    rcases hw.2 with ⟨h, _⟩ | ⟨g, c, cur, h, h2, h3, h4, h5, _⟩
    · cases h
    · injection h with q1 q2 q3
      subst q3
      unfold maxLen at h5
      omega
  have hgb : gf ≠ bw := by
    intro e
    subst e
    have h1 : w.heap[gf]? = some (.cells #[nv, fv, .slice (some ⟨gf, 0, none⟩) k cap] 201 (0, 0)) := hf
    have h2 : w.heap[gf]? = some (.cells cur 218 (0, 0)) := hcur
    rw [h1] at h2
    simp at h2
  have hfb : fv.ownBlock ≠ some bw := by
    intro e
    rcases hfv.2 with ⟨h, _⟩ | ⟨g, c, cur', h, h2, h3, _⟩
    · rw [h] at e; cases e
    · rw [h] at e
      have e' : g = bw := by simpa [Value.ownBlock] using e
      subst e'
      have h4 : w.heap[g]? = some (.cells cur 218 (0, 0)) := hcur
      rw [h3] at h4
      simp at h4
  have hfg : fv.ownBlock ≠ some gf := by
    intro e
    rcases hfv.2 with ⟨h, _⟩ | ⟨g, c, cur', h, h2, h3, _⟩
    · rw [h] at e; cases e
    · rw [h] at e
      have e' : g = gf := by simpa [Value.ownBlock] using e
      subst e'
      have h4 : w.heap[g]? = some (.cells #[nv, fv, .slice (some ⟨bw, 0, none⟩) k cap] 201 (0, 0)) := hf
      rw [h3] at h4
      simp at h4
  obtain ⟨S, hS⟩ : ∃ S : Nat → Prop, S = fun b => b = gf ∨ fv.ownBlock = some b := ⟨_, rfl⟩
  have SF := Lib.hid (show ∀ b, F b → ¬ S b from fun b hb hs => by
    rw [hS] at hs
    rcases hs with rfl | hs
    · exact hFg hb
    · exact hsep b hs hb)
  have SB := Lib.hid (show ¬ S bw from fun hs => by
    rw [hS] at hs
    rcases hs with hs | hs
    · exact hgb hs.symm
    · exact hfb hs)
  rw [← hS]
  have c2 : w.cell? ⟨gf, 2, none⟩ = some (.slice (some ⟨bw, 0, none⟩) k cap) := hf.cell 2
  have FB := Lib.hid hf
  have OW := Lib.hid hw
  have HX := Lib.hid hx
  have HF := Lib.hid hfv
  have HB := Lib.hid hbase
  have HS := Lib.hid hS
  have HT := Lib.hid htot
  have GL := Lib.hid hgl
  have GB := Lib.hid (And.intro hgb (And.intro hfb hfg))
  have HK := Lib.hid hk
  clear hf hw hx hfv hsep hFg hbase htot hgl hcur hgb hfb hfg hS hbw hk
  go_enter Tryz.func134, Tryz.ntmps134
  go_wp2_with fail
  go_loopw [13] (fun iv wr => ∃ j : Nat, j ≤ n ∧ iv = .int .i64 j ∧ Hid (∃ fj, FileB wr gf nv fj (.slice (some ⟨bw, 0, none⟩) k cap) ∧ wr.ownsRow base 5 1 fj (l.length + (X.take j).flatten.length) (bytesV (l ++ (X.take j).flatten)) ∧ Chg w wr S ∧ (fj.ownBlock = fv.ownBlock ∨ ∃ q, fj.ownBlock = some q ∧ w.heap.size ≤ q))) (fun iv _ => n - (intOf iv).toNat)
  case atStart => exact ⟨0, by omega, rfl, fv, FB.out, by simpa using HF.out, Chg.refl _ _, .inl rfl⟩
  case round =>
    obtain ⟨j, hj, rfl, hh⟩ := hrel
    by_cases hlt : j < n
    · obtain ⟨fj, f1, f2, f3, f4⟩ := hh.out
      obtain ⟨x, hxj⟩ : ∃ x, X[j]? = some x := ⟨_, List.getElem?_eq_getElem (by have := HK.out; omega)⟩
      obtain ⟨cv, e0, e1, e2, e3⟩ := (HX.out.keep f3 SF.out).2 j x hxj
      obtain ⟨Ac, cc, rfl, q1, q2, q3⟩ := own_form e2
      obtain ⟨mc, hmc⟩ : ∃ mc, mc = x.length := ⟨_, rfl⟩
      obtain ⟨en, hen⟩ : ∃ en, en = l.length + (X.take j).flatten.length := ⟨_, rfl⟩
      obtain ⟨L, hL⟩ : ∃ L, L = l ++ (X.take j).flatten := ⟨_, rfl⟩
      have LL := Lib.hid (show L.length = en by rw [hL, List.length_append, hen])
      have NX := Lib.hid (show l.length + (X.take (j + 1)).flatten.length = en + mc ∧ l ++ (X.take (j + 1)).flatten = L ++ x by
        rw [flat_more X j x hxj, List.length_append, hen, hmc, hL, List.append_assoc]; exact ⟨by omega, rfl⟩)
      have EN := Lib.hid (show en + mc ≤ 100000000 by
        have h1 := flat_le X (j + 1)
        have h2 := NX.out.1
        have := HT.out
        omega)
      rw [← hen, ← hL] at f2
      rw [← hen] at e0
      rw [← hmc] at e2 q1 e1 e3
      obtain ⟨Av, vc, rfl, v1, v2, v3⟩ := own_form f2
      have F1 := Lib.hid f1
      have F2 := Lib.hid f2
      have F3 := Lib.hid f3
      have F4 := Lib.hid f4
      have E2 := Lib.hid e2
      have OWR := f3.own OW.out (fun k' hk' => by have h : bw = k' := by simpa [Value.ownBlock] using hk'
                                                  subst h; exact SB.out)
      have RNG := Lib.hid (show wr.rangeAt bw (2 * j) [.int .i64 (en : Int), .slice Ac mc cc] from by
        intro i u hu
        have hl2 : cs.length = 2 * k := by rw [HX.out.1, HK.out]
        have h5 : ∀ q u', cs[q]? = some u' → wr.cell? ⟨bw, q, none⟩ = some u' := fun q u' hq => by
          have hq2 : q < cs.length := (List.getElem?_eq_some_iff.1 hq).1
          have h6 := OWR.cellAt q (by omega)
          rw [hq] at h6
          exact h6
        match i, hu with
        | 0, hu =>
          have hu' : u = .int .i64 (en : Int) := by simpa using hu.symm
          subst hu'
          exact h5 _ _ e0
        | 1, hu =>
          have hu' : u = .slice Ac mc cc := by simpa using hu.symm
          subst hu'
          exact h5 _ _ e1)
      have RNG := Lib.hid (show wr.rangeAt bw (j * 2) [.int .i64 (en : Int), .slice Ac mc cc] by rw [Nat.mul_comm]; exact RNG.out)
      obtain ⟨gx, hgx⟩ : ∃ gx, gx = wr.heap.size := ⟨_, rfl⟩
      have BZ := Lib.hid (Blk.new wr 218 #[.int .i64 0, .slice none 0 0])
      have FJ := Lib.hid hlt
      have HFR := Lib.hid (F1.out.frozen 1)
      have G1 := Lib.hid (show gx ≠ gf by rw [hgx]; exact Nat.ne_of_gt F1.out.lt)
      have SZ := Lib.hid (show w.heap.size ≤ gx by rw [hgx]; exact F3.out.size)
      clear hh f1 f2 f3 f4 e0 e1 e2 e3 OWR hxj hen hL hmc c2
      go_upto_region 3 with (first
        | (guard_target =~ wpList _ _ _ (Oper.mk _ (Op.load _ _) _ _ _ _ :: _) _ _; go_must (refine load_midM (by kernel_rfl) 218 (.tmp 15) rfl bw (j * 2) (by kernel_rfl) [.int .i64 (en : Int), .slice Ac mc cc] _ RNG.out Tryz.underlying218 rfl sizeCh ?_))
        | (guard_target =~ wpList _ _ _ (Oper.mk _ (Op.alloc _) _ _ _ _ :: _) _ _; go_must (refine wpList_alloc_arr rfl 218 rfl (some 5) rfl _ 2 Tryz.infoChange ?_))
        | (guard_target =~ wpList _ _ _ (Oper.mk _ (Op.store _ _ _) _ _ _ _ :: _) _ _; go_must (refine wpList_storeCh rfl (.tmp 5) (.tmp 16) rfl wr.heap.size (by kernel_rfl) #[.int .i64 (en : Int), .slice Ac mc cc] _ (by kernel_rfl) rfl rfl (by kernel_rfl) BZ.out ?_)))
      rw [World.setRow_alloc_new, ← hgx]
      obtain ⟨w1, hw1⟩ : ∃ w1, w1 = wr.alloc (.cells #[.int .i64 (en : Int), .slice Ac mc cc] 218) := ⟨_, rfl⟩
      rw [← hw1]
      have S1 := Lib.hid (show Still wr w1 by rw [hw1]; exact (Still.refl _).alloc (Nat.le_refl _) _)
      have B1 := Lib.hid (show Blk w1 gx 218 #[.int .i64 (en : Int), .slice Ac mc cc] by rw [hw1, hgx]; exact Blk.new _ _ _)
      clear hw1 BZ hgx
      have SOK := Lib.hid (show ∀ W, Still w1 W → W.cell? ⟨gx, 0, none⟩ = some (.int .i64 (en : Int)) ∧ W.cell? ⟨gx, 1, none⟩ = some (.slice Ac mc cc) ∧ W.cell? ⟨gf, 1, none⟩ = some (.slice Av en vc) from fun W z => ⟨(B1.out.still z).cell 0, (B1.out.still z).cell 1, (Blk.still F1.out (S1.out.trans z)).cell 1⟩)
      refine wp_region_late (S := fun W => W.cell? ⟨gx, 0, none⟩ = some (.int .i64 (en : Int)) ∧ W.cell? ⟨gx, 1, none⟩ = some (.slice Ac mc cc) ∧ W.cell? ⟨gf, 1, none⟩ = some (.slice Av en vc)) [6, 9] (by kernel_rfl) (SOK.out _ ((Still.refl _).drew)) (fun hHeld => ?_)
      obtain ⟨wa, hwa⟩ : ∃ wa, wa = w1.drew := ⟨_, rfl⟩
      have SA := Lib.hid (show Still w1 wa by rw [hwa]; exact (Still.refl _).drew)
      try rw [← hwa] at hHeld
      rw [← hwa]
      clear hwa
      try simp only [Act.put, List.setIfInBounds_toArray, List.set_cons_zero, List.set_cons_succ]
      refine wpLate_pure (i := 0) (v := .pointer (some ⟨gf, 0, none⟩)) rfl (by kernel_rfl) (by kernel_rfl) (by kernel_rfl) (by kernel_rfl) (fun _ _ _ h => h) (Or.inl ⟨by kernel_rfl, fun w _ => by go_simp⟩) ?_
      try simp only [Act.put, List.setIfInBounds_toArray, List.set_cons_zero, List.set_cons_succ]
      refine wpLate_take (i := 1) (v := .agg #[.int .i64 (en : Int), .slice Ac mc cc]) [6, 9] rfl (by kernel_rfl) (by kernel_rfl) (by kernel_rfl) (by kernel_rfl) (by kernel_rfl) (by decide) (fun _ _ _ h => h) (Or.inl ⟨by kernel_rfl, fun w hS => by obtain ⟨h0, h1, h2⟩ := hS; go_simp⟩) (by assumption) (fun hHeld => ?_)
      try simp only [Act.put, List.setIfInBounds_toArray, List.set_cons_zero, List.set_cons_succ]
      refine wpLate_pure (i := 2) (v := .pointer (some ⟨gf, 0, none⟩)) rfl (by kernel_rfl) (by kernel_rfl) (by kernel_rfl) (by kernel_rfl) (fun _ _ _ h => h) (Or.inl ⟨by kernel_rfl, fun w _ => by go_simp⟩) ?_
      try simp only [Act.put, List.setIfInBounds_toArray, List.set_cons_zero, List.set_cons_succ]
      refine wpLate_pure (i := 3) (v := .pointer (some ⟨gf, 0, none⟩)) rfl (by kernel_rfl) (by kernel_rfl) (by kernel_rfl) (by kernel_rfl) (fun _ _ _ h => h) (Or.inl ⟨by kernel_rfl, fun w _ => by go_simp⟩) ?_
      try simp only [Act.put, List.setIfInBounds_toArray, List.set_cons_zero, List.set_cons_succ]
      refine wpLate_pure (i := 4) (v := .pointer (some ⟨gf, 1, none⟩)) rfl (by kernel_rfl) (by kernel_rfl) (by kernel_rfl) (by kernel_rfl) (fun _ _ _ h => h) (Or.inl ⟨by kernel_rfl, fun w _ => by go_simp⟩) ?_
      try simp only [Act.put, List.setIfInBounds_toArray, List.set_cons_zero, List.set_cons_succ]
      refine wpLate_take (i := 5) (v := .slice Av en vc) [6, 9] rfl (by kernel_rfl) (by kernel_rfl) (by kernel_rfl) (by kernel_rfl) (by kernel_rfl) (by decide) (fun _ _ _ h => h) (Or.inl ⟨by kernel_rfl, fun w hS => by obtain ⟨h0, h1, h2⟩ := hS; go_simp⟩) (by assumption) (fun hHeld => ?_)
      try simp only [Act.put, List.setIfInBounds_toArray, List.set_cons_zero, List.set_cons_succ]

      clear hHeld
      have CA := Lib.hid (change_add (.slice Av en vc) base en L Ac mc cc x wa wa.heap.size (own_still F2.out (S1.out.trans SA.out)) (Nat.le_trans HB.out (Nat.le_trans F3.out.size (S1.out.trans SA.out).size)) (Reads.of_own (own_low (own_still E2.out (S1.out.trans SA.out)) (Nat.le_refl _))) (Nat.le_refl _) (fun e => (q3 e).2) EN.out)
      refine wpLate_one (i := 6) (o := ⟨some 23, .call { callee := .value (.func 189), args := #[.tmp 18, .tmp 22], argTypes := #[218, 34] }, _, _, _, none⟩) (by kernel_rfl) rfl (fun K' hK' => ?_)
      go_simp
      go_wp2_with (go_at_call 189; refine CA.out.mono ?_; rintro e w3 ⟨v3, rfl, own3, gr3, loc3⟩)
      obtain ⟨A4, c4, rfl, z1, z2, z3⟩ := own_form own3
      have C3 := Lib.hid (show Chg wr w3 (fun b => (Value.slice Av en vc).ownBlock = some b) from (Chg.of_still (S1.out.trans SA.out) _).trans (Chg.of_grown gr3 (S := fun b => (Value.slice Av en vc).ownBlock = some b) (fun _ h _ => h)) (fun _ _ h => h))
      have NE := Lib.hid (own_neM F1.out F2.out (by decide))
      have F5 := Lib.hid (show FileB w3 gf nv (.slice Av en vc) (.slice (some ⟨bw, 0, none⟩) k cap) from C3.out.blk F1.out NE.out)
      have NE4 := Lib.hid (own_neM F5.out own3 (by decide))
      have O3 := Lib.hid own3
      have L3 := Lib.hid (show (Value.slice A4 (en + mc) c4).ownBlock = (Value.slice Av en vc).ownBlock ∨ ∃ q, (Value.slice A4 (en + mc) c4).ownBlock = some q ∧ w.heap.size ≤ q from by
        rcases loc3 with h | ⟨q, h, hq⟩
        · exact .inl h
        · exact .inr ⟨q, h, Nat.le_trans F3.out.size (Nat.le_trans (S1.out.trans SA.out).size hq)⟩)
      clear own3 gr3 loc3 z1 z2 z3 CA SOK SA S1 B1 RNG
      refine hK'.out _ _ (fun _ hu => absurd hu (by decide)) ?_
      clear hK' K'
      try simp only [Act.put, List.setIfInBounds_toArray, List.set_cons_zero, List.set_cons_succ]
      refine wpLate_pure (i := 7) (v := .pointer (some ⟨gf, 0, none⟩)) rfl (by kernel_rfl) (by kernel_rfl) (by kernel_rfl) (by kernel_rfl) (fun _ _ _ h => h) (Or.inl ⟨by kernel_rfl, fun w _ => by go_simp⟩) ?_
      try simp only [Act.put, List.setIfInBounds_toArray, List.set_cons_zero, List.set_cons_succ]
      refine wpLate_pure (i := 8) (v := .pointer (some ⟨gf, 1, none⟩)) rfl (by kernel_rfl) (by kernel_rfl) (by kernel_rfl) (by kernel_rfl) (fun _ _ _ h => h) (Or.inl ⟨by kernel_rfl, fun w _ => by go_simp⟩) ?_
      try simp only [Act.put, List.setIfInBounds_toArray, List.set_cons_zero, List.set_cons_succ]
      refine wpLate_one (i := 9) (o := ⟨none, .store 34 (.tmp 25) (.tmp 23), _, _, _, none⟩) (by kernel_rfl) rfl (fun K' hK' => ?_)
      rw [if_pos (by kernel_rfl)]
      have kc : w3.cell? ⟨gf, 1, none⟩ = some (.slice Av en vc) := F5.out.cell 1
      have kf := F5.out.frozen 1
      with_reducible refine step_storeC w3 34 (.tmp 25) (.tmp 23) (by kernel_rfl) gf 1 (.slice A4 (en + mc) c4) (.slice Av en vc) (by kernel_rfl) (by kernel_rfl) rfl (by kernel_rfl) kc kf ?_
      clear kc kf
      obtain ⟨w4, hw4⟩ : ∃ w4, w4 = w3.setCell ⟨gf, 1, none⟩ (.slice A4 (en + mc) c4) := ⟨_, rfl⟩
      rw [← hw4]
      have C4 := Lib.hid (show Chg w3 w4 (fun b => b = gf) by rw [hw4]; exact chg_set _ _ _ _)
      have F6 := Lib.hid (show FileB w4 gf nv (.slice A4 (en + mc) c4) (.slice (some ⟨bw, 0, none⟩) k cap) by rw [hw4]; exact Blk.setc F5.out 1 _)
      have FI4 := Lib.hid (show ∃ fj, FileB w4 gf nv fj (.slice (some ⟨bw, 0, none⟩) k cap) ∧ w4.ownsRow base 5 1 fj (l.length + (X.take (j + 1)).flatten.length) (bytesV (l ++ (X.take (j + 1)).flatten)) ∧ Chg w w4 S ∧ (fj.ownBlock = fv.ownBlock ∨ ∃ q, fj.ownBlock = some q ∧ w.heap.size ≤ q) from by
        refine ⟨_, F6.out, ?_, ?_, ?_⟩
        · rw [NX.out.1, NX.out.2]
          exact C4.out.own O3.out (fun b hb hs => NE4.out (by rw [hb, hs]))
        · refine (Chg.trans F3.out C3.out ?_).trans C4.out ?_
          · intro b hb hs
            rcases F4.out with h | ⟨q, h, hq⟩
            · rw [HS.out]; exact .inr (by rw [← h]; exact hs)
            · rw [h] at hs
              have : q = b := by simpa using hs
              omega
          · intro b hb hs
            rw [HS.out]
            exact .inl hs
        · rcases L3.out with h | h
          · rw [h]; exact F4.out
          · exact .inr h)
      clear hw4 C3 C4 F5 F6 O3 L3 NE NE4
      refine hK'.out _ _ (fun _ hu => absurd hu (by decide)) ?_
      clear hK' K'
      try simp only [Act.put, List.setIfInBounds_toArray, List.set_cons_zero, List.set_cons_succ]
      refine wpLate_done (by kernel_rfl) ?_ _
      go_wp2_with fail
      go_roundw
      case rel => exact ⟨j + 1, by have := FJ.out; omega, by go_num, FI4.out⟩
      case measure => simp [intOf]; have := FJ.out; omega
    · obtain rfl : j = n := by omega
      obtain ⟨fj, f1, f2, f3, f4⟩ := hh.out
      have k2 : wr.cell? ⟨gf, 2, none⟩ = some (.slice (some ⟨bw, 0, none⟩) k cap) := f1.cell 2
      have kf := f1.frozen 2
      have NE := Lib.hid (own_neM f1 f2 (by decide))
      have F1 := Lib.hid f1
      have F2 := Lib.hid f2
      have F3 := Lib.hid f3
      have F4 := Lib.hid f4
      clear hh f1 f2 f3 f4 c2
      go_wp2_with fail
      go_end0
      refine ⟨rfl, fj, Blk.setc F1.out 2 _, (chg_set wr gf 2 (.slice none 0 0)).own F2.out (fun b hb hs => NE.out (by rw [hb, hs])), F3.out.trans (chg_set wr gf 2 _) (fun b _ hs => by rw [HS.out]; exact .inl hs), F4.out⟩
end Go.Proofs.YtblgphfdicffcaaGreatDoor
