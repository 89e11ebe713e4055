/- Contracts and facts, several texts in one. It proves no statement. -/
import Derived.Test.YtfneloobfidckaaGreatDoorSf05
import Derived.Test.YtfneloobfidckaaGreatDoorSf13
import Derived.Test.YtfneloobfidckaaGreatDoorSf15
import Derived.Test.YtfneloobfidckaaGreatDoorSf16

/- Contracts: Append by whatever its write answers; Append without room. It proves no statement. -/

namespace Go.Proofs.YtfneloobfidckaaGreatDoor
open Go.RowKit Go.Maps Go.WideMaps
set_option linter.unusedVariables false
set_option linter.unusedSimpArgs false

set_option maxRecDepth 100000 in
set_option maxHeartbeats 3200000 in
theorem append_by {w : World} {g : Nat} {room : Int} {bn bf : Nat} {wv : Value} {left : Int} (h : MedB w g room bn bf wv left false) (s : ByteArray) (hs : s.size ≤ maxLen) (n : Nat) (D : DataW Unit) (hown : NM w bn n D) (sz : Int → Nat) (hsz : Sized w D sz)
    (gf nf base : Nat) (nv fv wtv : Value) (l x : List UInt8) (A : Option Addr) (m c B : Nat) (hlk : look D s = (gf : Int)) (hf : FileB w gf nv fv wtv) (hnv : w.ownsRow base 5 1 nv nf (bytesV l))
    (hr : Reads w B A m x) (hB : B ≤ w.heap.size) (hA : A = none → m = 0 ∧ c = 0) (hm : m ≤ 70368744177664) (hu : usedOf sz D ≤ 35184372088832) (h0 : 0 ≤ room) (hrm : room ≤ 16777216) (hroom : (m : Int) + usedOf sz D ≤ room) (E : Int) (R : World → Prop)
    (hW : ∀ W, Still w W → ∀ Ac cc, W.ownsRow w.heap.size 5 1 (.slice Ac m cc) m (bytesV x) → Calls Tryz.prog 175 #[.pointer (some ⟨g, 0, none⟩), .pointer (some ⟨gf, 0, none⟩), .agg #[.int .i64 nf, .slice Ac m cc]] W fun e w' => e = .returned (.int .i64 E) ∧ R w') :
    Calls Tryz.prog 123 #[.pointer (some ⟨g, 0, none⟩), .string s, .slice A m c] w fun e w' => e = .returned (.int .i64 E) ∧ R w' := by
  obtain ⟨Anv, cnv, rfl, p1, p2, p3⟩ := own_form hnv
  have FD := Lib.hid (find_yes h s n D hown hs)
  rw [hlk, show findV false (gf : Int) = pv (gf : Int) from rfl, pv_at, show findE false (gf : Int) = if (gf : Int) < 0 then 9 else 0 from rfl, if_neg (by omega)] at FD
  have US := Lib.hid (used_yes (w := w.drew) (h.still ((Still.refl w).drew)) n D (World.ownsMap.drew hown) sz (hsz.chg (Chg.drew w (fun _ => False)) (fun _ _ _ _ h => h)) hu)
  have MM := Lib.hid (fun W (st : Still w W) => h.still st)
  have FF := Lib.hid (fun W (st : Still w W) => (show FileB W gf (.slice Anv nf cnv) fv wtv from Blk.still hf st))
  have CL := Lib.hid (fun W (st : Still w W) => bclone_any A m c x W B (hr.still hB st) (Nat.le_trans hB st.size) (by omega) hA)
  have c0 : w.drew.cell? ⟨g, 0, none⟩ = some (.int .i64 room) := Blk.cell h 0
  obtain ⟨U, hU⟩ : ∃ U, U = usedOf sz D := ⟨_, rfl⟩
  rw [← hU] at US hroom hu
  have d1 : ¬ (room - (U : Int) < (m : Int)) := by omega
  have d2 : (U : Int) ≤ 35184372088832 := by omega
  have d3 : (0 : Int) ≤ room := by omega
  have d4 : IntKind.i64.wrap (room - (U : Int)) = room - (U : Int) := by rw [IntKind.wrap_i64]; omega
  have WR := Lib.hid hW
  clear h hs hown hsz hf hnv hr hB hA p1 p2 p3 hlk hU hroom hW h0 hm
  go_enter Tryz.func123, Tryz.ntmps123
  go_wp2_with fail
  refine FD.out.mono ?_
  rintro e w2 ⟨rfl, rfl⟩
  go_wp2_with fail
  refine wp_region_held_drew (S := fun W => W.cell? ⟨g, 0, none⟩ = some (.int .i64 room)) (by kernel_rfl) c0 (fun hHeld => ?_)
  try simp only [Act.put, List.setIfInBounds_toArray, List.set_cons_zero, List.set_cons_succ]
  refine wpAnyH_take (i := 0) (v := .slice A m c) rfl (by kernel_rfl) (by kernel_rfl) (by kernel_rfl) (fun _ _ _ h => h) (Or.inl ⟨by kernel_rfl, fun W hS => by go_simp⟩) (by assumption) ?_
  try simp only [Act.put, List.setIfInBounds_toArray, List.set_cons_zero, List.set_cons_succ]
  refine wpAnyH_take (i := 1) (v := .int .i64 (m : Int)) rfl (by kernel_rfl) (by kernel_rfl) (by kernel_rfl) (fun _ _ _ h => h) (Or.inl ⟨by kernel_rfl, fun W hS => by go_simp⟩) (by assumption) ?_
  try simp only [Act.put, List.setIfInBounds_toArray, List.set_cons_zero, List.set_cons_succ]
  refine wpAnyH_take (i := 2) (v := .pointer (some ⟨g, 0, none⟩)) rfl (by kernel_rfl) (by kernel_rfl) (by kernel_rfl) (fun _ _ _ h => h) (Or.inl ⟨by kernel_rfl, fun W hS => by go_simp⟩) (by assumption) ?_
  try simp only [Act.put, List.setIfInBounds_toArray, List.set_cons_zero, List.set_cons_succ]
  refine wpAnyH_take (i := 3) (v := .pointer (some ⟨g, 0, none⟩)) rfl (by kernel_rfl) (by kernel_rfl) (by kernel_rfl) (fun _ _ _ h => h) (Or.inl ⟨by kernel_rfl, fun W hS => by go_simp⟩) (by assumption) ?_
  try simp only [Act.put, List.setIfInBounds_toArray, List.set_cons_zero, List.set_cons_succ]
  refine wpAnyH_take (i := 4) (v := .pointer (some ⟨g, 0, none⟩)) rfl (by kernel_rfl) (by kernel_rfl) (by kernel_rfl) (fun _ _ _ h => h) (Or.inl ⟨by kernel_rfl, fun W hS => by go_simp⟩) (by assumption) ?_
  try simp only [Act.put, List.setIfInBounds_toArray, List.set_cons_zero, List.set_cons_succ]
  refine wpAnyH_take (i := 5) (v := .int .i64 room) rfl (by kernel_rfl) (by kernel_rfl) (by kernel_rfl) (fun _ _ _ h => h) (Or.inl ⟨by kernel_rfl, fun W hS => by go_simp⟩) (by assumption) ?_
  try simp only [Act.put, List.setIfInBounds_toArray, List.set_cons_zero, List.set_cons_succ]
  refine wpAnyH_take (i := 6) (v := .pointer (some ⟨g, 0, none⟩)) rfl (by kernel_rfl) (by kernel_rfl) (by kernel_rfl) (fun _ _ _ h => h) (Or.inl ⟨by kernel_rfl, fun W hS => by go_simp⟩) (by assumption) ?_
  try simp only [Act.put, List.setIfInBounds_toArray, List.set_cons_zero, List.set_cons_succ]
  refine wpAnyH_ready (rs := [7]) (by kernel_rfl) (by simp) ?_
  refine AllReadyH.cons (o := ⟨some 27, .call { callee := .value (.func 47), args := #[.tmp 26], argTypes := #[25] }, _, _, _, _⟩) rfl (fun K' hK' => ?_) AllReadyH.nil
  have HK' := Lib.hid hK'
  clear hK'
  go_simp
  go_wp2_with (go_at_call 47; refine US.out.mono ?_; rintro e w3 ⟨rfl, s3⟩; have S3 := Lib.hid (show Still w w3 from ((Still.refl w).drew).trans s3))
  refine HK'.out.out _ _ (Blk.cell (MM.out w3 S3.out) 0) (fun hHeld => ?_)
  clear HK' K'
  try simp only [Act.put, List.setIfInBounds_toArray, List.set_cons_zero, List.set_cons_succ]
  refine wpAnyH_take (i := 8) (v := .int .i64 (room - (U : Int))) rfl (by kernel_rfl) (by kernel_rfl) (by kernel_rfl) (fun _ _ _ h => h) (Or.inl ⟨by kernel_rfl, fun W hS => by go_simp⟩) (by assumption) ?_
  try simp only [Act.put, List.setIfInBounds_toArray, List.set_cons_zero, List.set_cons_succ]
  refine wpAnyH_take (i := 9) (v := (.bool false)) rfl (by kernel_rfl) (by kernel_rfl) (by kernel_rfl) (fun _ _ _ h => h) (Or.inl ⟨by kernel_rfl, fun W hS => by go_simp⟩) (by assumption) ?_
  try simp only [Act.put, List.setIfInBounds_toArray, List.set_cons_zero, List.set_cons_succ]
  refine wpAnyH_take (i := 10) (v := (.bool false)) rfl (by kernel_rfl) (by kernel_rfl) (by kernel_rfl) (fun _ _ _ h => h) (Or.inl ⟨by kernel_rfl, fun W hS => by go_simp⟩) (by assumption) ?_
  try simp only [Act.put, List.setIfInBounds_toArray, List.set_cons_zero, List.set_cons_succ]
  refine wpAnyH_done (by kernel_rfl) ?_ _
  clear hHeld c0 US
  go_simp
  go_wp2_with fail
  refine wp_region_any (by kernel_rfl) ?_
  change wpAny _ _ _ _ _ _ _ w3.drew
  have SE := Lib.hid (show Still w w3.drew from S3.out.trans ((Still.refl w3).drew))
  obtain ⟨we, hwe⟩ : ∃ we, we = w3.drew := ⟨_, rfl⟩
  rw [← hwe] at SE ⊢
  have c0 : we.cell? ⟨gf, 0, none⟩ = some (.slice Anv nf cnv) := Blk.cell (FF.out we SE.out) 0
  have CLE := Lib.hid (CL.out we SE.out)
  clear hwe
  try simp only [Act.put, List.setIfInBounds_toArray, List.set_cons_zero, List.set_cons_succ]
  refine wpAny_take (i := 0) (v := .pointer (some ⟨g, 0, none⟩)) rfl (by kernel_rfl) (by kernel_rfl) (by kernel_rfl) (fun _ _ _ h => h) (Or.inl ⟨by kernel_rfl, fun w => by go_simp⟩) ?_
  try simp only [Act.put, List.setIfInBounds_toArray, List.set_cons_zero, List.set_cons_succ]
  refine wpAny_take (i := 1) (v := .pointer (some ⟨gf, 0, none⟩)) rfl (by kernel_rfl) (by kernel_rfl) (by kernel_rfl) (fun _ _ _ h => h) (Or.inl ⟨by kernel_rfl, fun w => by go_simp⟩) ?_
  try simp only [Act.put, List.setIfInBounds_toArray, List.set_cons_zero, List.set_cons_succ]
  refine wpAny_take (i := 2) (v := .pointer (some ⟨gf, 0, none⟩)) rfl (by kernel_rfl) (by kernel_rfl) (by kernel_rfl) (fun _ _ _ h => h) (Or.inl ⟨by kernel_rfl, fun w => by go_simp⟩) ?_
  try simp only [Act.put, List.setIfInBounds_toArray, List.set_cons_zero, List.set_cons_succ]
  refine wpAny_take (i := 3) (v := .pointer (some ⟨gf, 0, none⟩)) rfl (by kernel_rfl) (by kernel_rfl) (by kernel_rfl) (fun _ _ _ h => h) (Or.inl ⟨by kernel_rfl, fun w => by go_simp⟩) ?_
  try simp only [Act.put, List.setIfInBounds_toArray, List.set_cons_zero, List.set_cons_succ]
  refine wpAny_take (i := 4) (v := .pointer (some ⟨gf, 0, none⟩)) rfl (by kernel_rfl) (by kernel_rfl) (by kernel_rfl) (fun _ _ _ h => h) (Or.inl ⟨by kernel_rfl, fun w => by go_simp⟩) ?_
  try simp only [Act.put, List.setIfInBounds_toArray, List.set_cons_zero, List.set_cons_succ]
  refine wpAny_take (i := 7) (v := .slice A m c) rfl (by kernel_rfl) (by kernel_rfl) (by kernel_rfl) (fun _ _ _ h => h) (Or.inl ⟨by kernel_rfl, fun w => by go_simp⟩) ?_
  try simp only [Act.put, List.setIfInBounds_toArray, List.set_cons_zero, List.set_cons_succ]
  refine wpAny_ready (rs := [5, 8]) (by kernel_rfl) (by simp) ?_
  refine AllReady.cons (o := ⟨some 35, .load 42 (.tmp 34), _, _, _, none⟩) rfl (fun K' hK' => ?_) (AllReady.cons (o := ⟨some 38, .call { callee := .value (.func 165), args := #[.tmp 37], argTypes := #[42] }, _, _, _, none⟩) rfl (fun K' hK' => ?_) AllReady.nil)
  · have HK' := Lib.hid hK'
    clear hK'
    rw [if_pos (by kernel_rfl)]
    go_simp
    refine HK'.out _ _ ?_
    clear HK' K'
    try simp only [Act.put, List.setIfInBounds_toArray, List.set_cons_zero, List.set_cons_succ]
    refine wpAny_take (i := 6) (v := .int .i64 (nf : Int)) rfl (by kernel_rfl) (by kernel_rfl) (by kernel_rfl) (fun _ _ _ h => h) (Or.inl ⟨by kernel_rfl, fun w => by go_simp⟩) ?_
    try simp only [Act.put, List.setIfInBounds_toArray, List.set_cons_zero, List.set_cons_succ]
    refine wpAny_ready (rs := [8]) (by kernel_rfl) (by simp) ?_
    refine AllReady.cons (o := ⟨some 38, .call { callee := .value (.func 165), args := #[.tmp 37], argTypes := #[42] }, _, _, _, none⟩) rfl (fun K' hK' => ?_) AllReady.nil
    have HK' := Lib.hid hK'
    clear hK'
    go_simp
    go_wp2_with (go_at_call 165; refine CLE.out.mono ?_; rintro e w5 ⟨⟨v5, rfl, o5⟩, s5⟩)
    have S5 := Lib.hid (SE.out.trans s5)
    obtain ⟨Ac, cc, rfl⟩ := own_formV o5
    have WW2 := Lib.hid (WR.out w5 S5.out Ac cc (own_lower9 o5 SE.out.size))
    have c5 : w5.cell? ⟨gf, 0, none⟩ = some (.slice Anv nf cnv) := Blk.cell (FF.out w5 S5.out) 0
    clear o5 s5
    refine HK'.out _ _ ?_
    clear HK' K'
    try simp only [Act.put, List.setIfInBounds_toArray, List.set_cons_zero, List.set_cons_succ]
    refine wpAny_take (i := 9) (v := .agg #[.int .i64 (nf : Int), .slice Ac m cc]) rfl (by kernel_rfl) (by kernel_rfl) (by kernel_rfl) (fun _ _ _ h => h) (Or.inl ⟨by kernel_rfl, fun w => by go_simp⟩) ?_
    try simp only [Act.put, List.setIfInBounds_toArray, List.set_cons_zero, List.set_cons_succ]
    refine wpAny_ready (rs := [10]) (by kernel_rfl) (by simp) ?_
    refine AllReady.cons (o := ⟨some 40, .call { callee := .value (.func 175), args := #[.tmp 30, .tmp 31, .tmp 39], argTypes := #[25, 185, 267] }, _, _, _, none⟩) rfl (fun K' hK' => ?_) AllReady.nil
    have HK' := Lib.hid hK'
    clear hK'
    go_simp
    go_wp2_with (go_at_call 175; refine WW2.out.mono ?_; rintro e w6 ⟨rfl, FN⟩)
    have FN2 := Lib.hid FN
    clear FN
    refine HK'.out _ _ ?_
    clear HK' K'
    try simp only [Act.put, List.setIfInBounds_toArray, List.set_cons_zero, List.set_cons_succ]
    refine wpAny_take (i := 11) (v := .int .i64 E) rfl (by kernel_rfl) (by kernel_rfl) (by kernel_rfl) (fun _ _ _ h => h) (Or.inl ⟨by kernel_rfl, fun w => by go_simp⟩) ?_
    try simp only [Act.put, List.setIfInBounds_toArray, List.set_cons_zero, List.set_cons_succ]
    refine wpAny_done (by kernel_rfl) ?_ _
    go_simp
    go_wp2_with fail
    go_ret
    exact ⟨rfl, FN2.out⟩
  · have HK' := Lib.hid hK'
    clear hK'
    go_simp
    go_wp2_with (go_at_call 165; refine CLE.out.mono ?_; rintro e w5 ⟨⟨v5, rfl, o5⟩, s5⟩)
    have S5 := Lib.hid (SE.out.trans s5)
    obtain ⟨Ac, cc, rfl⟩ := own_formV o5
    have WW2 := Lib.hid (WR.out w5 S5.out Ac cc (own_lower9 o5 SE.out.size))
    have c5 : w5.cell? ⟨gf, 0, none⟩ = some (.slice Anv nf cnv) := Blk.cell (FF.out w5 S5.out) 0
    clear o5 s5
    refine HK'.out _ _ ?_
    clear HK' K'
    try simp only [Act.put, List.setIfInBounds_toArray, List.set_cons_zero, List.set_cons_succ]
    refine wpAny_ready (rs := [5]) (by kernel_rfl) (by simp) ?_
    refine AllReady.cons (o := ⟨some 35, .load 42 (.tmp 34), _, _, _, none⟩) rfl (fun K' hK' => ?_) AllReady.nil
    have HK' := Lib.hid hK'
    clear hK'
    rw [if_pos (by kernel_rfl)]
    go_simp
    refine HK'.out _ _ ?_
    clear HK' K'
    try simp only [Act.put, List.setIfInBounds_toArray, List.set_cons_zero, List.set_cons_succ]
    refine wpAny_take (i := 6) (v := .int .i64 (nf : Int)) rfl (by kernel_rfl) (by kernel_rfl) (by kernel_rfl) (fun _ _ _ h => h) (Or.inl ⟨by kernel_rfl, fun w => by go_simp⟩) ?_
    try simp only [Act.put, List.setIfInBounds_toArray, List.set_cons_zero, List.set_cons_succ]
    refine wpAny_take (i := 9) (v := .agg #[.int .i64 (nf : Int), .slice Ac m cc]) rfl (by kernel_rfl) (by kernel_rfl) (by kernel_rfl) (fun _ _ _ h => h) (Or.inl ⟨by kernel_rfl, fun w => by go_simp⟩) ?_
    try simp only [Act.put, List.setIfInBounds_toArray, List.set_cons_zero, List.set_cons_succ]
    refine wpAny_ready (rs := [10]) (by kernel_rfl) (by simp) ?_
    refine AllReady.cons (o := ⟨some 40, .call { callee := .value (.func 175), args := #[.tmp 30, .tmp 31, .tmp 39], argTypes := #[25, 185, 267] }, _, _, _, none⟩) rfl (fun K' hK' => ?_) AllReady.nil
    have HK' := Lib.hid hK'
    clear hK'
    go_simp
    go_wp2_with (go_at_call 175; refine WW2.out.mono ?_; rintro e w6 ⟨rfl, FN⟩)
    have FN2 := Lib.hid FN
    clear FN
    refine HK'.out _ _ ?_
    clear HK' K'
    try simp only [Act.put, List.setIfInBounds_toArray, List.set_cons_zero, List.set_cons_succ]
    refine wpAny_take (i := 11) (v := .int .i64 E) rfl (by kernel_rfl) (by kernel_rfl) (by kernel_rfl) (fun _ _ _ h => h) (Or.inl ⟨by kernel_rfl, fun w => by go_simp⟩) ?_
    try simp only [Act.put, List.setIfInBounds_toArray, List.set_cons_zero, List.set_cons_succ]
    refine wpAny_done (by kernel_rfl) ?_ _
    go_simp
    go_wp2_with fail
    go_ret
    exact ⟨rfl, FN2.out⟩
set_option maxRecDepth 100000 in
set_option maxHeartbeats 3200000 in
theorem append_full {w : World} {g : Nat} {room : Int} {bn bf : Nat} {wv : Value} {left : Int} (h : MedB w g room bn bf wv left false) (s : ByteArray) (hs : s.size ≤ maxLen) (n : Nat) (D : DataW Unit) (hown : NM w bn n D) (sz : Int → Nat) (hsz : Sized w D sz)
    (gf nf base : Nat) (nv fv wtv : Value) (l x : List UInt8) (A : Option Addr) (m c B : Nat) (hlk : look D s = (gf : Int)) (hf : FileB w gf nv fv wtv) (hnv : w.ownsRow base 5 1 nv nf (bytesV l))
    (hr : Reads w B A m x) (hB : B ≤ w.heap.size) (hA : A = none → m = 0 ∧ c = 0) (hm : m ≤ 70368744177664) (hu : usedOf sz D ≤ 35184372088832) (h0 : 0 ≤ room) (hrm : room ≤ 16777216) (hroom : room < (m : Int) + usedOf sz D) :
    Calls Tryz.prog 123 #[.pointer (some ⟨g, 0, none⟩), .string s, .slice A m c] w fun e w' => e = .returned (.int .i64 11) ∧ Still w w' := by
  obtain ⟨Anv, cnv, rfl, p1, p2, p3⟩ := own_form hnv
  have FD := Lib.hid (find_yes h s n D hown hs)
  rw [hlk, show findV false (gf : Int) = pv (gf : Int) from rfl, pv_at, show findE false (gf : Int) = if (gf : Int) < 0 then 9 else 0 from rfl, if_neg (by omega)] at FD
  have US := Lib.hid (used_yes (w := w.drew) (h.still ((Still.refl w).drew)) n D (World.ownsMap.drew hown) sz (hsz.chg (Chg.drew w (fun _ => False)) (fun _ _ _ _ h => h)) hu)
  have MM := Lib.hid (fun W (st : Still w W) => h.still st)
  have FF := Lib.hid (fun W (st : Still w W) => (show FileB W gf (.slice Anv nf cnv) fv wtv from Blk.still hf st))
  have CL := Lib.hid (fun W (st : Still w W) => bclone_any A m c x W B (hr.still hB st) (Nat.le_trans hB st.size) (by omega) hA)
  have c0 : w.drew.cell? ⟨g, 0, none⟩ = some (.int .i64 room) := Blk.cell h 0
  obtain ⟨U, hU⟩ : ∃ U, U = usedOf sz D := ⟨_, rfl⟩
  rw [← hU] at US hroom hu
  have d1 : room - (U : Int) < (m : Int) := by omega
  have d2 : (U : Int) ≤ 35184372088832 := by omega
  have d4 : IntKind.i64.wrap (room - (U : Int)) = room - (U : Int) := by rw [IntKind.wrap_i64]; omega
  clear h hs hown hsz hf hnv hr hB hA p1 p2 p3 hlk hU hroom hm CL
  go_enter Tryz.func123, Tryz.ntmps123
  go_wp2_with fail
  refine FD.out.mono ?_
  rintro e w2 ⟨rfl, rfl⟩
  go_wp2_with fail
  refine wp_region_held_drew (S := fun W => W.cell? ⟨g, 0, none⟩ = some (.int .i64 room)) (by kernel_rfl) c0 (fun hHeld => ?_)
  try simp only [Act.put, List.setIfInBounds_toArray, List.set_cons_zero, List.set_cons_succ]
  refine wpAnyH_take (i := 0) (v := .slice A m c) rfl (by kernel_rfl) (by kernel_rfl) (by kernel_rfl) (fun _ _ _ h => h) (Or.inl ⟨by kernel_rfl, fun W hS => by go_simp⟩) (by assumption) ?_
  try simp only [Act.put, List.setIfInBounds_toArray, List.set_cons_zero, List.set_cons_succ]
  refine wpAnyH_take (i := 1) (v := .int .i64 (m : Int)) rfl (by kernel_rfl) (by kernel_rfl) (by kernel_rfl) (fun _ _ _ h => h) (Or.inl ⟨by kernel_rfl, fun W hS => by go_simp⟩) (by assumption) ?_
  try simp only [Act.put, List.setIfInBounds_toArray, List.set_cons_zero, List.set_cons_succ]
  refine wpAnyH_take (i := 2) (v := .pointer (some ⟨g, 0, none⟩)) rfl (by kernel_rfl) (by kernel_rfl) (by kernel_rfl) (fun _ _ _ h => h) (Or.inl ⟨by kernel_rfl, fun W hS => by go_simp⟩) (by assumption) ?_
  try simp only [Act.put, List.setIfInBounds_toArray, List.set_cons_zero, List.set_cons_succ]
  refine wpAnyH_take (i := 3) (v := .pointer (some ⟨g, 0, none⟩)) rfl (by kernel_rfl) (by kernel_rfl) (by kernel_rfl) (fun _ _ _ h => h) (Or.inl ⟨by kernel_rfl, fun W hS => by go_simp⟩) (by assumption) ?_
  try simp only [Act.put, List.setIfInBounds_toArray, List.set_cons_zero, List.set_cons_succ]
  refine wpAnyH_take (i := 4) (v := .pointer (some ⟨g, 0, none⟩)) rfl (by kernel_rfl) (by kernel_rfl) (by kernel_rfl) (fun _ _ _ h => h) (Or.inl ⟨by kernel_rfl, fun W hS => by go_simp⟩) (by assumption) ?_
  try simp only [Act.put, List.setIfInBounds_toArray, List.set_cons_zero, List.set_cons_succ]
  refine wpAnyH_take (i := 5) (v := .int .i64 room) rfl (by kernel_rfl) (by kernel_rfl) (by kernel_rfl) (fun _ _ _ h => h) (Or.inl ⟨by kernel_rfl, fun W hS => by go_simp⟩) (by assumption) ?_
  try simp only [Act.put, List.setIfInBounds_toArray, List.set_cons_zero, List.set_cons_succ]
  refine wpAnyH_take (i := 6) (v := .pointer (some ⟨g, 0, none⟩)) rfl (by kernel_rfl) (by kernel_rfl) (by kernel_rfl) (fun _ _ _ h => h) (Or.inl ⟨by kernel_rfl, fun W hS => by go_simp⟩) (by assumption) ?_
  try simp only [Act.put, List.setIfInBounds_toArray, List.set_cons_zero, List.set_cons_succ]
  refine wpAnyH_ready (rs := [7]) (by kernel_rfl) (by simp) ?_
  refine AllReadyH.cons (o := ⟨some 27, .call { callee := .value (.func 47), args := #[.tmp 26], argTypes := #[25] }, _, _, _, _⟩) rfl (fun K' hK' => ?_) AllReadyH.nil
  have HK' := Lib.hid hK'
  clear hK'
  go_simp
  go_wp2_with (go_at_call 47; refine US.out.mono ?_; rintro e w3 ⟨rfl, s3⟩; have S3 := Lib.hid (show Still w w3 from ((Still.refl w).drew).trans s3))
  refine HK'.out.out _ _ (Blk.cell (MM.out w3 S3.out) 0) (fun hHeld => ?_)
  clear HK' K'
  try simp only [Act.put, List.setIfInBounds_toArray, List.set_cons_zero, List.set_cons_succ]
  refine wpAnyH_take (i := 8) (v := .int .i64 (room - (U : Int))) rfl (by kernel_rfl) (by kernel_rfl) (by kernel_rfl) (fun _ _ _ h => h) (Or.inl ⟨by kernel_rfl, fun W hS => by go_simp⟩) (by assumption) ?_
  try simp only [Act.put, List.setIfInBounds_toArray, List.set_cons_zero, List.set_cons_succ]
  refine wpAnyH_take (i := 9) (v := (.bool true)) rfl (by kernel_rfl) (by kernel_rfl) (by kernel_rfl) (fun _ _ _ h => h) (Or.inl ⟨by kernel_rfl, fun W hS => by go_simp⟩) (by assumption) ?_
  try simp only [Act.put, List.setIfInBounds_toArray, List.set_cons_zero, List.set_cons_succ]
  refine wpAnyH_take (i := 10) (v := (.bool true)) rfl (by kernel_rfl) (by kernel_rfl) (by kernel_rfl) (fun _ _ _ h => h) (Or.inl ⟨by kernel_rfl, fun W hS => by go_simp⟩) (by assumption) ?_
  try simp only [Act.put, List.setIfInBounds_toArray, List.set_cons_zero, List.set_cons_succ]
  refine wpAnyH_done (by kernel_rfl) ?_ _
  clear hHeld c0 US
  go_simp
  go_wp2_with fail
  go_ret
  exact ⟨rfl, S3.out⟩
end Go.Proofs.YtfneloobfidckaaGreatDoor

/- A medium's calls on its state, whatever stands against them: what a call leaves. It proves no statement. -/




namespace Go.Proofs.YtfneloobfidckaaGreatDoor
open Go.RowKit Go.Maps Go.WideMaps Go.Sort
set_option linter.unusedVariables false
set_option linter.unusedSimpArgs false

/-- What a call leaves of a medium. -/
def Left (w w' : World) (base g : Nat) (own : Own) (M' : Me) : Prop := Chg w w' (fun b => own b ≠ none) ∧ ∃ own' : Own, (∀ b, b < w.heap.size → own' b = own b) ∧ MedI w' base own' g M'
theorem Left.still {w w' : World} {base g : Nat} {own : Own} {M : Me} (h : MedI w base own g M) (s : Still w w') : Left w w' base g own M := ⟨Chg.of_still s _, own, fun _ _ => rfl, h.still s⟩
theorem Left.same {w : World} {base g : Nat} {own : Own} {M : Me} (h : MedI w base own g M) : Left w w base g own M := Left.still h (Still.refl w)
theorem MedB.uniq {w : World} {g : Nat} {room room' : Int} {bn bf bn' bf' : Nat} {wv wv' : Value} {left left' : Int} {off off' : Bool} (h : MedB w g room bn bf wv left off) (h' : MedB w g room' bn' bf' wv' left' off') : bn = bn' ∧ bf = bf' ∧ wv = wv' := by
  have h1 : w.heap[g]? = some (.cells #[.int .i64 room, .map (some bn), .map (some bf), wv, .int .i64 left, .bool off, .bool true] 147 (0, 0)) := h
  have h2 : w.heap[g]? = some (.cells #[.int .i64 room', .map (some bn'), .map (some bf'), wv', .int .i64 left', .bool off', .bool true] 147 (0, 0)) := h'
  rw [h1] at h2
  simp only [Option.some.injEq, Obj.cells.injEq, Array.mk.injEq, List.cons.injEq, Value.map.injEq, and_true, true_and] at h2
  exact ⟨h2.2.1, h2.2.2.1, h2.2.2.2.1⟩
theorem MedI.reB {w w' : World} {base g : Nat} {own : Own} {M : Me} {bn bf : Nat} {wv : Value} {room' left' : Int} {off off' : Bool} (h : MedI w base own g M) (d : MedB w g M.room bn bf wv M.left off) (m : MedB w' g room' bn bf wv left' off') (c : Chg w w' (fun x => x = g)) : Left w w' base g own { M with room := room', left := left', off := off' } := by
  obtain ⟨⟨bn2, bf2, wv2, ns, nn, nf, d1, d2, d3, d4, d5, d6, d7, d8, d9, d10, d11, d12⟩, hfi, hdom, hlow, hnog⟩ := h
  obtain ⟨rfl, rfl, rfl⟩ := d.uniq d1
  exact ⟨c.mono (fun b _ hb => by rw [hb, d9]; simp), own, fun _ _ => rfl, ⟨⟨bn, bf, wv, ns, nn, nf, m, c.nm d2 (nm_ne d2 d1), c.nm d3 (nm_ne d3 d1), d4, d5, c.own d6 (fun b hb e => own_neM d1 d6 (by decide) (by rw [hb, e])), d7, d8, d9, d10, d11, d12⟩, hfi.keep c (fun b gf k F hs hF e => by rw [hs, d9] at e; simp at e; rw [← e.1, hnog] at hF; cases hF), fun b hb => ⟨(hdom b hb).1, Nat.lt_of_lt_of_le (hdom b hb).2 c.size⟩, Nat.le_trans hlow c.size, hnog⟩⟩
/-- Without power. -/
def Me.dead (M : Me) : Me := { M with off := true }
theorem Me.dead_ok {M : Me} (h : M.ok) : M.dead.ok := ⟨h.rn, h.rf, h.ff, h.fw, h.eq, h.room, h.left, h.len⟩
theorem MedI.dead {w w' : World} {base g : Nat} {own : Own} {M : Me} {bn bf : Nat} {wv : Value} (h : MedI w base own g M) (h0 : M.left = 0) (d : MedB w g M.room bn bf wv M.left false) (m : MedB w' g M.room bn bf wv 0 true) (c : Chg w w' (fun x => x = g)) : Left w w' base g own M.dead := by
  have := h.reB d m c
  have e : ({ M with room := M.room, left := 0, off := true } : Me) = M.dead := by rw [← h0]; rfl
  rw [e] at this
  exact this
/-- Nobody's file. -/
theorem MedI.fresh {w : World} {base g : Nat} {own : Own} {M : Me} (h : MedI w base own g M) : M.fs w.heap.size = none := by
  cases hq : M.fs w.heap.size with
  | none => rfl
  | some F => have := (h.files _ F hq).2.2.2.lt; omega
/-- A file that is there. -/
theorem Me.there {M : Me} (h : M.ok) {s : List UInt8} {gf : Nat} (hk : nFind M.now s = some gf) : ∃ F, M.fs gf = some F := by
  have hm := nFind_mem hk
  have h1 := h.eq
  rw [h1] at hm
  exact steps_files h.ff h.fw _ hm
theorem stepL_eq {M : Me} : stepL M.left = stepL M.left := rfl

def opCreate (M : Me) (s : ByteArray) (gf : Nat) : Int × Me :=
  if M.off = true then (12, M) else if nmOK s.data.toList = false then (7, M) else if (nFind M.now s.data.toList).isSome = true then (10, M) else if 500 ≤ M.now.length then (16, M) else if M.left = 0 then (12, M.dead) else (0, M.link (⟨#[]⟩, s, (gf : Int)) (upd M.fs gf ⟨[], [], []⟩))
theorem create_M {w : World} {base g : Nat} {own : Own} {M : Me} (s : ByteArray) (h : MedI w base own g M) (hok : M.ok) (hcnt : M.cnt ≤ 900000) (hs : s.size ≤ maxLen) :
    Calls Tryz.prog 121 #[.pointer (some ⟨g, 0, none⟩), .string s] w fun e w' => ∃ gf, M.fs gf = none ∧ w.heap.size ≤ gf ∧ e = .returned (.int .i64 (opCreate M s gf).1) ∧ Left w w' base g own (opCreate M s gf).2 := by
  have hfr := h.fresh
  obtain ⟨bn, bf, wv, ns, nn, nf, d1, d2, _⟩ := h.dir
  by_cases c1 : M.off = true
  · rw [c1] at d1
    refine (create_err _ s w 12 (by decide) (works_off d1)).mono ?_
    rintro e w' ⟨he, rfl⟩
    refine ⟨_, hfr, Nat.le_refl _, ?_⟩
    unfold opCreate
    rw [if_pos c1]
    exact ⟨he, Left.same h⟩
  have hoff : M.off = false := by simpa using c1
  have d1o := d1
  rw [hoff] at d1
  by_cases c2 : nmOK s.data.toList = false
  · refine (create_bad _ s hs c2 w (works_on d1)).mono ?_
    rintro e w' ⟨he, rfl⟩
    refine ⟨_, hfr, Nat.le_refl _, ?_⟩
    unfold opCreate
    rw [if_neg c1, if_pos c2]
    exact ⟨he, Left.same h⟩
  have hnm : nmOK s.data.toList = true := by simpa using c2
  by_cases c3 : (nFind M.now s.data.toList).isSome = true
  · obtain ⟨gq, hq⟩ := Option.isSome_iff_exists.1 c3
    refine (create_there d1 s nn _ d2 hs hnm gq (look_found hq)).mono ?_
    rintro e w' ⟨he, rfl⟩
    refine ⟨_, hfr, Nat.le_refl _, ?_⟩
    unfold opCreate
    rw [if_neg c1, if_neg c2, if_pos c3]
    exact ⟨he, Left.same h⟩
  have hno : nFind M.now s.data.toList = none := by simpa using c3
  have hlk : look (nmD M.now) s = -1 := by rw [look_nm, hno]
  by_cases c4 : 500 ≤ M.now.length
  · refine (create_many d1 s nn _ d2 hs hnm hlk (by rw [size_nm]; exact c4)).mono ?_
    rintro e w' ⟨he, rfl⟩
    refine ⟨_, hfr, Nat.le_refl _, ?_⟩
    unfold opCreate
    rw [if_neg c1, if_neg c2, if_neg c3, if_pos c4]
    exact ⟨he, Left.same h⟩
  by_cases c5 : M.left = 0
  · have d1z := d1
    rw [c5] at d1z
    refine (create_dead d1z s nn _ d2 hs hnm hlk (by rw [size_nm]; omega)).mono ?_
    rintro e w' ⟨he, m, c⟩
    refine ⟨_, hfr, Nat.le_refl _, ?_⟩
    unfold opCreate
    rw [if_neg c1, if_neg c2, if_neg c3, if_neg c4, if_pos c5]
    exact ⟨he, h.dead c5 d1 m c⟩
  · refine (create_I s h hok hoff c5 hcnt hs hnm hno (by omega)).mono ?_
    rintro e w' ⟨he, c, own', gf, ho, hn, hg, m⟩
    refine ⟨gf, hn, hg, ?_⟩
    unfold opCreate
    rw [if_neg c1, if_neg c2, if_neg c3, if_neg c4, if_neg c5]
    exact ⟨he, c, own', ho, m⟩
/-- A file that is there, its power on. -/
def Me.find (M : Me) (s : ByteArray) : Int ⊕ (Nat × Fi) := if M.off = true then .inl 12 else match nFind M.now s.data.toList with
  | none => .inl 9
  | some gf => match M.fs gf with
    | none => .inl 9
    | some F => .inr (gf, F)
theorem find_M {w : World} {base g : Nat} {own : Own} {M : Me} (s : ByteArray) (h : MedI w base own g M) (hok : M.ok) (hs : s.size ≤ maxLen) :
    (∃ E, M.find s = .inl E ∧ (E = 12 ∨ E = 9) ∧ Calls Tryz.prog 137 #[.pointer (some ⟨g, 0, none⟩), .string s] w fun e w' => e = .returned (.tuple #[.pointer none, .int .i64 E]) ∧ w = w')
    ∨ ∃ gf F, M.find s = .inr (gf, F) ∧ M.off = false ∧ nFind M.now s.data.toList = some gf ∧ M.fs gf = some F ∧ Calls Tryz.prog 137 #[.pointer (some ⟨g, 0, none⟩), .string s] w fun e w' => e = .returned (.tuple #[.pointer (some ⟨gf, 0, none⟩), .int .i64 0]) ∧ w = w' := by
  obtain ⟨bn, bf, wv, ns, nn, nf, d1, d2, _⟩ := h.dir
  by_cases c1 : M.off = true
  · rw [c1] at d1
    exact .inl ⟨12, by unfold Me.find; rw [if_pos c1], .inl rfl, find_off d1 s nn _ d2 hs⟩
  have hoff : M.off = false := by simpa using c1
  rw [hoff] at d1
  cases hk : nFind M.now s.data.toList with
  | none => exact .inl ⟨9, by unfold Me.find; rw [if_neg c1, hk], .inr rfl, find_none d1 s nn _ d2 hs (by rw [look_nm, hk])⟩
  | some gf =>
    obtain ⟨F, hF⟩ := Me.there hok hk
    refine .inr ⟨gf, F, ?_, hoff, hk ▸ rfl, hF, find_there d1 s nn _ d2 hs gf (look_found hk)⟩
    unfold Me.find
    rw [if_neg c1, hk]
    simp only [hF]
end Go.Proofs.YtfneloobfidckaaGreatDoor
