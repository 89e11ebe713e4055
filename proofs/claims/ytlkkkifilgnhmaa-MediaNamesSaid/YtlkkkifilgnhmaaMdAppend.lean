/- Contract: Append, where it appends. It proves no statement. -/
import Derived.Test.YtlkkkifilgnhmaaMdWrite
import Derived.Test.YtlkkkifilgnhmaaMdUsed
namespace Go.Proofs.Ytlkkkifilgnhmaa
open Go.RowKit Go.Maps Go.WideMaps
set_option linter.unusedVariables false
set_option linter.unusedSimpArgs false

theorem own_lower9 {w : World} {base base' n : Nat} {v : Value} {xs : List Value} (h : w.ownsRow base 5 1 v n xs) (hb : base' ≤ base) : w.ownsRow base' 5 1 v n xs := by
  refine ⟨h.1, ?_⟩
  rcases h.2 with h0 | ⟨g, c, cur, h1, h2, h3⟩
  · exact .inl h0
  · exact .inr ⟨g, c, cur, h1, Nat.le_trans hb h2, h3⟩
set_option maxRecDepth 100000 in
set_option maxHeartbeats 3200000 in
theorem append_ok {w : World} {g : Nat} {room : Int} {bn bf : Nat} {wv : Value} {left : Int} (h : MedB w g room bn bf wv left false) (hl : left ≤ 9223372036854775807) (hl0 : left ≠ 0) (s : ByteArray) (hs : s.size ≤ maxLen) (n : Nat) (D : DataW Unit) (hown : NM w bn n D) (sz : Int → Nat) (hsz : Sized w D sz)
    (gf nf base k : Nat) (nv fv wtv : Value) (l x : List UInt8) (cs : List Value) (A : Option Addr) (m c B : Nat) (hlk : look D s = (gf : Int)) (hf : FileB w gf nv fv wtv) (hnv : w.ownsRow base 5 1 nv nf (bytesV l)) (hwt : w.ownsRow base 84 2 wtv k cs) (hbase : base ≤ w.heap.size)
    (hr : Reads w B A m x) (hB : B ≤ w.heap.size) (hA : A = none → m = 0 ∧ c = 0) (hnm : nf + m ≤ 100000000) (hk : k ≤ 1000000) (hu : usedOf sz D ≤ 35184372088832) (hroom : (m : Int) + usedOf sz D ≤ room) (hrm : room ≤ 16777216) :
    Calls Try.prog 23 #[.pointer (some ⟨g, 0, none⟩), .string s, .slice A m c] w fun e w' => e = .returned (.int .i64 0) ∧ ∃ nv' wtv' cv, MedB w' g room bn bf wv (stepR left false).1 false ∧ FileB w' gf nv' fv wtv' ∧ w'.ownsRow base 5 1 nv' (nf + m) (bytesV (l ++ x)) ∧ w'.ownsRow base 84 2 wtv' (k + 1) (cs ++ [.int .i64 nf, cv]) ∧ w'.ownsRow w.heap.size 5 1 cv m (bytesV x) ∧ Chg w w' (wrS g gf nv wtv) ∧ (nv'.ownBlock = nv.ownBlock ∨ ∃ j, nv'.ownBlock = some j ∧ w.heap.size ≤ j) ∧ (wtv'.ownBlock = wtv.ownBlock ∨ ∃ j, wtv'.ownBlock = some j ∧ w.heap.size ≤ j)  ∧ (∀ j, nv'.ownBlock = some j → cv.ownBlock ≠ some j) := by
  have hst : (stepR left false).2.2 = 0 ∧ (stepR left false).2.1 = false := by
    unfold stepR
    rw [if_neg hl0]
    split <;> exact ⟨rfl, rfl⟩
  obtain ⟨Anv, cnv, rfl, p1, p2, p3⟩ := own_form hnv
  have FD := Lib.hid (find_yes h s n D hown hs)
  rw [hlk, show findV false (gf : Int) = pv (gf : Int) from rfl, pv_at, show findE false (gf : Int) = if (gf : Int) < 0 then 9 else 0 from rfl, if_neg (by omega)] at FD
  have US := Lib.hid (used_yes (w := w.drew) (h.still ((Still.refl w).drew)) n D (World.ownsMap.drew hown) sz (hsz.chg (Chg.drew w (fun _ => False)) (fun _ _ _ _ h => h)) hu)
  have MM := Lib.hid (fun W (st : Still w W) => h.still st)
  have FF := Lib.hid (fun W (st : Still w W) => (show FileB W gf (.slice Anv nf cnv) fv wtv from Blk.still hf st))
  have CL := Lib.hid (fun W (st : Still w W) => bclone_any A m c x W B (hr.still hB st) (Nat.le_trans hB st.size) (by omega) hA)
  have WR := Lib.hid (fun W (st : Still w W) v (own : W.ownsRow w.heap.size 5 1 v m (bytesV x)) => (show ∃ Ac cc, v = .slice Ac m cc ∧ Calls Try.prog 44 #[.pointer (some ⟨g, 0, none⟩), .pointer (some ⟨gf, 0, none⟩), .agg #[.int .i64 nf, .slice Ac m cc]] W fun e w' => e = .returned (.int .i64 0) ∧ ∃ nv' wtv' cv, MedB w' g room bn bf wv (stepR left false).1 false ∧ FileB w' gf nv' fv wtv' ∧ w'.ownsRow base 5 1 nv' (nf + m) (bytesV (l ++ x)) ∧ w'.ownsRow base 84 2 wtv' (k + 1) (cs ++ [.int .i64 nf, cv]) ∧ w'.ownsRow w.heap.size 5 1 cv m (bytesV x) ∧ Chg w w' (wrS g gf (.slice Anv nf cnv) wtv) ∧ (nv'.ownBlock = (Value.slice Anv nf cnv).ownBlock ∨ ∃ j, nv'.ownBlock = some j ∧ w.heap.size ≤ j) ∧ (wtv'.ownBlock = wtv.ownBlock ∨ ∃ j, wtv'.ownBlock = some j ∧ w.heap.size ≤ j) ∧ (∀ j, nv'.ownBlock = some j → cv.ownBlock ≠ some j) from by
    obtain ⟨Ac, cc, rfl, q1, q2, q3⟩ := own_form own
    have C0 := Chg.of_still st (fun _ => False)
    refine ⟨Ac, cc, rfl, (write_ok (h.still st) hl hst.1 gf nf base k _ fv wtv l x cs Ac m cc W.heap.size (Blk.still hf st) (C0.own hnv (fun _ _ h => h)) (C0.own hwt (fun _ _ h => h)) (Nat.le_trans hbase st.size) (Reads.of_own own) (Nat.le_refl _) ?_ (fun e => (q3 e).2) hnm hk).mono ?_⟩
    · intro ad e hm
      rcases own.2 with ⟨_, h0⟩ | ⟨gg, cap, cur, hv, hlo, _⟩
      · omega
      · injection hv with hv1
        rw [e] at hv1
        injection hv1 with hv1
        rw [hv1]
        have := Blk.lt h
        simp only
        omega
    · rintro e w' ⟨he, nv', wtv', a1, a2, a3, a4, a5, a6, a7⟩
      rw [hst.2] at a1
      refine ⟨he, nv', wtv', _, a1, a2, a3, a4, a5.own own ?_, Chg.trans (C0.mono (fun _ _ h => h.elim)) a5 (fun _ _ h => h), ?_, ?_, ?_⟩
      · intro j hj
        have hjlo : w.heap.size ≤ j := (own.lt j hj).1
        rintro (q | q | q | q)
        · have := Blk.lt h; omega
        · have := Blk.lt hf; omega
        · have := (hnv.lt j q).2; omega
        · have := (hwt.lt j q).2; omega
      · rcases a6 with h | ⟨j, h, hj⟩
        · exact .inl h
        · exact .inr ⟨j, h, Nat.le_trans st.size hj⟩
      · rcases a7 with h | ⟨j, h, hj⟩
        · exact .inl h
        · exact .inr ⟨j, h, Nat.le_trans st.size hj⟩
      · intro j hj hc
        have h1 := own.lt j hc
        rcases a6 with h | ⟨q, h, hq⟩
        · rw [h] at hj
          have := (hnv.lt j hj).2
          omega
        · rw [h] at hj
          injection hj with hj
          omega))
  have c0 : w.drew.cell? ⟨g, 0, none⟩ = some (.int .i64 room) := Blk.cell h 0
  obtain ⟨U, hU⟩ : ∃ U, U = usedOf sz D := ⟨_, rfl⟩
  rw [← hU] at US hroom hu
  have d1 : ¬ (room - (U : Int) < (m : Int)) := by omega
  have d2 : (U : Int) ≤ 35184372088832 := by omega
  have d3 : (0 : Int) ≤ room := by omega
  have d4 : IntKind.i64.wrap (room - (U : Int)) = room - (U : Int) := by rw [IntKind.wrap_i64]; omega
  clear h hl hl0 hs hown hsz hf hnv hwt hbase hr hB hA hnm hk hst p1 p2 p3 hlk hU hroom
  go_enter Try.func23, Try.ntmps23
  go_wp2_with fail
  refine FD.out.mono ?_
  rintro e w2 ⟨rfl, rfl⟩
  go_wp2_with fail
  refine wp_region_held_drew (S := fun W => W.cell? ⟨g, 0, none⟩ = some (.int .i64 room)) (by kernel_rfl) c0 (fun hHeld => ?_)
  try simp only [Act.put, List.setIfInBounds_toArray, List.set_cons_zero, List.set_cons_succ]
  refine wpAnyH_take (i := 0) (v := .slice A m c) rfl (by kernel_rfl) (by kernel_rfl) (by kernel_rfl) (fun _ _ _ h => h) (Or.inl ⟨by kernel_rfl, fun W hS => by go_simp⟩) (by assumption) ?_
  try simp only [Act.put, List.setIfInBounds_toArray, List.set_cons_zero, List.set_cons_succ]
  refine wpAnyH_take (i := 1) (v := .int .i64 (m : Int)) rfl (by kernel_rfl) (by kernel_rfl) (by kernel_rfl) (fun _ _ _ h => h) (Or.inl ⟨by kernel_rfl, fun W hS => by go_simp⟩) (by assumption) ?_
  try simp only [Act.put, List.setIfInBounds_toArray, List.set_cons_zero, List.set_cons_succ]
  refine wpAnyH_take (i := 2) (v := .pointer (some ⟨g, 0, none⟩)) rfl (by kernel_rfl) (by kernel_rfl) (by kernel_rfl) (fun _ _ _ h => h) (Or.inl ⟨by kernel_rfl, fun W hS => by go_simp⟩) (by assumption) ?_
  try simp only [Act.put, List.setIfInBounds_toArray, List.set_cons_zero, List.set_cons_succ]
  refine wpAnyH_take (i := 3) (v := .pointer (some ⟨g, 0, none⟩)) rfl (by kernel_rfl) (by kernel_rfl) (by kernel_rfl) (fun _ _ _ h => h) (Or.inl ⟨by kernel_rfl, fun W hS => by go_simp⟩) (by assumption) ?_
  try simp only [Act.put, List.setIfInBounds_toArray, List.set_cons_zero, List.set_cons_succ]
  refine wpAnyH_take (i := 4) (v := .pointer (some ⟨g, 0, none⟩)) rfl (by kernel_rfl) (by kernel_rfl) (by kernel_rfl) (fun _ _ _ h => h) (Or.inl ⟨by kernel_rfl, fun W hS => by go_simp⟩) (by assumption) ?_
  try simp only [Act.put, List.setIfInBounds_toArray, List.set_cons_zero, List.set_cons_succ]
  refine wpAnyH_take (i := 5) (v := .int .i64 room) rfl (by kernel_rfl) (by kernel_rfl) (by kernel_rfl) (fun _ _ _ h => h) (Or.inl ⟨by kernel_rfl, fun W hS => by go_simp⟩) (by assumption) ?_
  try simp only [Act.put, List.setIfInBounds_toArray, List.set_cons_zero, List.set_cons_succ]
  refine wpAnyH_take (i := 6) (v := .pointer (some ⟨g, 0, none⟩)) rfl (by kernel_rfl) (by kernel_rfl) (by kernel_rfl) (fun _ _ _ h => h) (Or.inl ⟨by kernel_rfl, fun W hS => by go_simp⟩) (by assumption) ?_
  try simp only [Act.put, List.setIfInBounds_toArray, List.set_cons_zero, List.set_cons_succ]
  refine wpAnyH_ready (rs := [7]) (by kernel_rfl) (by simp) ?_
  refine AllReadyH.cons (o := ⟨some 27, .call { callee := .value (.func 35), args := #[.tmp 26], argTypes := #[24] }, _, _, _, _⟩) rfl (fun K' hK' => ?_) AllReadyH.nil
  have HK' := Lib.hid hK'
  clear hK'
  go_simp
  go_wp2_with (go_at_call 35; refine US.out.mono ?_; rintro e w3 ⟨rfl, s3⟩; have S3 := Lib.hid (show Still w w3 from ((Still.refl w).drew).trans s3))
  refine HK'.out.out _ _ (Blk.cell (MM.out w3 S3.out) 0) (fun hHeld => ?_)
  clear HK' K'
  try simp only [Act.put, List.setIfInBounds_toArray, List.set_cons_zero, List.set_cons_succ]
  refine wpAnyH_take (i := 8) (v := .int .i64 (room - (U : Int))) rfl (by kernel_rfl) (by kernel_rfl) (by kernel_rfl) (fun _ _ _ h => h) (Or.inl ⟨by kernel_rfl, fun W hS => by go_simp⟩) (by assumption) ?_
  try simp only [Act.put, List.setIfInBounds_toArray, List.set_cons_zero, List.set_cons_succ]
  refine wpAnyH_take (i := 9) (v := (.bool false)) rfl (by kernel_rfl) (by kernel_rfl) (by kernel_rfl) (fun _ _ _ h => h) (Or.inl ⟨by kernel_rfl, fun W hS => by go_simp⟩) (by assumption) ?_
  try simp only [Act.put, List.setIfInBounds_toArray, List.set_cons_zero, List.set_cons_succ]
  refine wpAnyH_take (i := 10) (v := (.bool false)) rfl (by kernel_rfl) (by kernel_rfl) (by kernel_rfl) (fun _ _ _ h => h) (Or.inl ⟨by kernel_rfl, fun W hS => by go_simp⟩) (by assumption) ?_
  try simp only [Act.put, List.setIfInBounds_toArray, List.set_cons_zero, List.set_cons_succ]
  refine wpAnyH_done (by kernel_rfl) ?_ _
  clear hHeld c0 US
  go_simp
  go_wp2_with fail
  refine wp_region_any (by kernel_rfl) ?_
  change wpAny _ _ _ _ _ _ _ w3.drew
  have SE := Lib.hid (show Still w w3.drew from S3.out.trans ((Still.refl w3).drew))
  obtain ⟨we, hwe⟩ : ∃ we, we = w3.drew := ⟨_, rfl⟩
  rw [← hwe] at SE ⊢
  have c0 : we.cell? ⟨gf, 0, none⟩ = some (.slice Anv nf cnv) := Blk.cell (FF.out we SE.out) 0
  have CLE := Lib.hid (CL.out we SE.out)
  clear hwe
  try simp only [Act.put, List.setIfInBounds_toArray, List.set_cons_zero, List.set_cons_succ]
  refine wpAny_take (i := 0) (v := .pointer (some ⟨g, 0, none⟩)) rfl (by kernel_rfl) (by kernel_rfl) (by kernel_rfl) (fun _ _ _ h => h) (Or.inl ⟨by kernel_rfl, fun w => by go_simp⟩) ?_
  try simp only [Act.put, List.setIfInBounds_toArray, List.set_cons_zero, List.set_cons_succ]
  refine wpAny_take (i := 1) (v := .pointer (some ⟨gf, 0, none⟩)) rfl (by kernel_rfl) (by kernel_rfl) (by kernel_rfl) (fun _ _ _ h => h) (Or.inl ⟨by kernel_rfl, fun w => by go_simp⟩) ?_
  try simp only [Act.put, List.setIfInBounds_toArray, List.set_cons_zero, List.set_cons_succ]
  refine wpAny_take (i := 2) (v := .pointer (some ⟨gf, 0, none⟩)) rfl (by kernel_rfl) (by kernel_rfl) (by kernel_rfl) (fun _ _ _ h => h) (Or.inl ⟨by kernel_rfl, fun w => by go_simp⟩) ?_
  try simp only [Act.put, List.setIfInBounds_toArray, List.set_cons_zero, List.set_cons_succ]
  refine wpAny_take (i := 3) (v := .pointer (some ⟨gf, 0, none⟩)) rfl (by kernel_rfl) (by kernel_rfl) (by kernel_rfl) (fun _ _ _ h => h) (Or.inl ⟨by kernel_rfl, fun w => by go_simp⟩) ?_
  try simp only [Act.put, List.setIfInBounds_toArray, List.set_cons_zero, List.set_cons_succ]
  refine wpAny_take (i := 4) (v := .pointer (some ⟨gf, 0, none⟩)) rfl (by kernel_rfl) (by kernel_rfl) (by kernel_rfl) (fun _ _ _ h => h) (Or.inl ⟨by kernel_rfl, fun w => by go_simp⟩) ?_
  try simp only [Act.put, List.setIfInBounds_toArray, List.set_cons_zero, List.set_cons_succ]
  refine wpAny_take (i := 7) (v := .slice A m c) rfl (by kernel_rfl) (by kernel_rfl) (by kernel_rfl) (fun _ _ _ h => h) (Or.inl ⟨by kernel_rfl, fun w => by go_simp⟩) ?_
  try simp only [Act.put, List.setIfInBounds_toArray, List.set_cons_zero, List.set_cons_succ]
  refine wpAny_ready (rs := [5, 8]) (by kernel_rfl) (by simp) ?_
  refine AllReady.cons (o := ⟨some 35, .load 32 (.tmp 34), _, _, _, none⟩) rfl (fun K' hK' => ?_) (AllReady.cons (o := ⟨some 38, .call { callee := .value (.func 45), args := #[.tmp 37], argTypes := #[32] }, _, _, _, none⟩) rfl (fun K' hK' => ?_) AllReady.nil)
  · have HK' := Lib.hid hK'
    clear hK'
    rw [if_pos (by kernel_rfl)]
    go_simp
    refine HK'.out _ _ ?_
    clear HK' K'
    try simp only [Act.put, List.setIfInBounds_toArray, List.set_cons_zero, List.set_cons_succ]
    refine wpAny_take (i := 6) (v := .int .i64 (nf : Int)) rfl (by kernel_rfl) (by kernel_rfl) (by kernel_rfl) (fun _ _ _ h => h) (Or.inl ⟨by kernel_rfl, fun w => by go_simp⟩) ?_
    try simp only [Act.put, List.setIfInBounds_toArray, List.set_cons_zero, List.set_cons_succ]
    refine wpAny_ready (rs := [8]) (by kernel_rfl) (by simp) ?_
    refine AllReady.cons (o := ⟨some 38, .call { callee := .value (.func 45), args := #[.tmp 37], argTypes := #[32] }, _, _, _, none⟩) rfl (fun K' hK' => ?_) AllReady.nil
    have HK' := Lib.hid hK'
    clear hK'
    go_simp
    go_wp2_with (go_at_call 45; refine CLE.out.mono ?_; rintro e w5 ⟨⟨v5, rfl, o5⟩, s5⟩)
    have S5 := Lib.hid (SE.out.trans s5)
    obtain ⟨Ac, cc, rfl, WW⟩ := WR.out w5 S5.out v5 (own_lower9 o5 SE.out.size)
    have WW2 := Lib.hid WW
    have c5 : w5.cell? ⟨gf, 0, none⟩ = some (.slice Anv nf cnv) := Blk.cell (FF.out w5 S5.out) 0
    clear o5 s5 WW
    refine HK'.out _ _ ?_
    clear HK' K'
    try simp only [Act.put, List.setIfInBounds_toArray, List.set_cons_zero, List.set_cons_succ]
    refine wpAny_take (i := 9) (v := .agg #[.int .i64 (nf : Int), .slice Ac m cc]) rfl (by kernel_rfl) (by kernel_rfl) (by kernel_rfl) (fun _ _ _ h => h) (Or.inl ⟨by kernel_rfl, fun w => by go_simp⟩) ?_
    try simp only [Act.put, List.setIfInBounds_toArray, List.set_cons_zero, List.set_cons_succ]
    refine wpAny_ready (rs := [10]) (by kernel_rfl) (by simp) ?_
    refine AllReady.cons (o := ⟨some 40, .call { callee := .value (.func 44), args := #[.tmp 30, .tmp 31, .tmp 39], argTypes := #[24, 53, 84] }, _, _, _, none⟩) rfl (fun K' hK' => ?_) AllReady.nil
    have HK' := Lib.hid hK'
    clear hK'
    go_simp
    go_wp2_with (go_at_call 44; refine WW2.out.mono ?_; rintro e w6 ⟨rfl, FN⟩)
    have FN2 := Lib.hid FN
    clear FN
    refine HK'.out _ _ ?_
    clear HK' K'
    try simp only [Act.put, List.setIfInBounds_toArray, List.set_cons_zero, List.set_cons_succ]
    refine wpAny_take (i := 11) (v := .int .i64 0) rfl (by kernel_rfl) (by kernel_rfl) (by kernel_rfl) (fun _ _ _ h => h) (Or.inl ⟨by kernel_rfl, fun w => by go_simp⟩) ?_
    try simp only [Act.put, List.setIfInBounds_toArray, List.set_cons_zero, List.set_cons_succ]
    refine wpAny_done (by kernel_rfl) ?_ _
    go_simp
    go_wp2_with fail
    go_ret
    exact ⟨rfl, FN2.out⟩
  · have HK' := Lib.hid hK'
    clear hK'
    go_simp
    go_wp2_with (go_at_call 45; refine CLE.out.mono ?_; rintro e w5 ⟨⟨v5, rfl, o5⟩, s5⟩)
    have S5 := Lib.hid (SE.out.trans s5)
    obtain ⟨Ac, cc, rfl, WW⟩ := WR.out w5 S5.out v5 (own_lower9 o5 SE.out.size)
    have WW2 := Lib.hid WW
    have c5 : w5.cell? ⟨gf, 0, none⟩ = some (.slice Anv nf cnv) := Blk.cell (FF.out w5 S5.out) 0
    clear o5 s5 WW
    refine HK'.out _ _ ?_
    clear HK' K'
    try simp only [Act.put, List.setIfInBounds_toArray, List.set_cons_zero, List.set_cons_succ]
    refine wpAny_ready (rs := [5]) (by kernel_rfl) (by simp) ?_
    refine AllReady.cons (o := ⟨some 35, .load 32 (.tmp 34), _, _, _, none⟩) rfl (fun K' hK' => ?_) AllReady.nil
    have HK' := Lib.hid hK'
    clear hK'
    rw [if_pos (by kernel_rfl)]
    go_simp
    refine HK'.out _ _ ?_
    clear HK' K'
    try simp only [Act.put, List.setIfInBounds_toArray, List.set_cons_zero, List.set_cons_succ]
    refine wpAny_take (i := 6) (v := .int .i64 (nf : Int)) rfl (by kernel_rfl) (by kernel_rfl) (by kernel_rfl) (fun _ _ _ h => h) (Or.inl ⟨by kernel_rfl, fun w => by go_simp⟩) ?_
    try simp only [Act.put, List.setIfInBounds_toArray, List.set_cons_zero, List.set_cons_succ]
    refine wpAny_take (i := 9) (v := .agg #[.int .i64 (nf : Int), .slice Ac m cc]) rfl (by kernel_rfl) (by kernel_rfl) (by kernel_rfl) (fun _ _ _ h => h) (Or.inl ⟨by kernel_rfl, fun w => by go_simp⟩) ?_
    try simp only [Act.put, List.setIfInBounds_toArray, List.set_cons_zero, List.set_cons_succ]
    refine wpAny_ready (rs := [10]) (by kernel_rfl) (by simp) ?_
    refine AllReady.cons (o := ⟨some 40, .call { callee := .value (.func 44), args := #[.tmp 30, .tmp 31, .tmp 39], argTypes := #[24, 53, 84] }, _, _, _, none⟩) rfl (fun K' hK' => ?_) AllReady.nil
    have HK' := Lib.hid hK'
    clear hK'
    go_simp
    go_wp2_with (go_at_call 44; refine WW2.out.mono ?_; rintro e w6 ⟨rfl, FN⟩)
    have FN2 := Lib.hid FN
    clear FN
    refine HK'.out _ _ ?_
    clear HK' K'
    try simp only [Act.put, List.setIfInBounds_toArray, List.set_cons_zero, List.set_cons_succ]
    refine wpAny_take (i := 11) (v := .int .i64 0) rfl (by kernel_rfl) (by kernel_rfl) (by kernel_rfl) (fun _ _ _ h => h) (Or.inl ⟨by kernel_rfl, fun w => by go_simp⟩) ?_
    try simp only [Act.put, List.setIfInBounds_toArray, List.set_cons_zero, List.set_cons_succ]
    refine wpAny_done (by kernel_rfl) ?_ _
    go_simp
    go_wp2_with fail
    go_ret
    exact ⟨rfl, FN2.out⟩
end Go.Proofs.Ytlkkkifilgnhmaa
