/- Contracts: a call, of a medium that no call made. It proves no statement. -/
import Derived.Test.YtpjmokchaiaacaaMdNo
import Derived.Test.YtpjmokchaiaacaaMdFew
import Derived.Test.YtpjmokchaiaacaaSpoil
import Derived.OwnWalk
namespace Go.Proofs.Ytpjmokchaiaacaa
open Go.RowKit Go.Maps Go.WideMaps
set_option linter.unusedVariables false
set_option linter.unusedSimpArgs false

set_option maxRecDepth 100000 in
set_option maxHeartbeats 3200000 in
theorem does_no0 (P : Value) (nn mm : Int) (s t : ByteArray) (A : Option Addr) (m c : Nat) (A2 : Option Addr) (n2 c2 : Nat) (L : List UInt8) (w : World) (B : Nat) (hN : NoMed w P) (hr : Reads w B A m L) (hB : B ≤ w.heap.size) (hm : m ≤ 100) (hA : A = none → m = 0 ∧ c = 0) (hs : s.size ≤ maxLen) :
    Calls Try.prog 19 #[P, .agg #[.int .i64 0, .string s, .string t, .int .i64 nn, .int .i64 mm, .slice A m c, .slice A2 n2 c2]] w fun e w' => e = .returned (.tuple #[.slice none 0 0, .int .i64 1, .bool false]) ∧ Still w w' := by
  have CP := Lib.hid (fun W (z : Still w W) => copy_any A m c L W _ (hr.still hB z) (by omega) hA)
  have NO := Lib.hid (fun W (z : Still w W) => create_no P s W (hN.still z))
  obtain ⟨wb, hwb⟩ : ∃ wb, wb = w.alloc (.cells #[.int .i64 0, .string s, .string t, .int .i64 nn, .int .i64 mm, .slice A m c, .slice A2 n2 c2] 43) := ⟨_, rfl⟩
  obtain ⟨g, hg⟩ : ∃ g, g = w.heap.size := ⟨_, rfl⟩
  have SB := Lib.hid (show Still w wb by rw [hwb]; exact (Still.refl _).alloc (Nat.le_refl _) _)
  have BB := Lib.hid (show Blk wb g 43 #[.int .i64 0, .string s, .string t, .int .i64 nn, .int .i64 mm, .slice A m c, .slice A2 n2 c2] by rw [hwb, hg]; exact Blk.new _ _ _)
  have HW := Lib.hid hwb
  have HG := Lib.hid hg
  have HM := Lib.hid hm
  clear hN hr hB hA hs hwb hg hm
  go_enter Try.func19, Try.ntmps19
  go_upto_region 1 with (guard_target =~ wpList _ _ _ (Oper.mk _ (Op.box _ _) _ _ _ _ :: _) _ _; go_must (refine wpList_box_arr rfl 43 (.tmp 1) rfl (some 3) rfl #[.int .i64 0, .string s, .string t, .int .i64 nn, .int .i64 mm, .slice A m c, .slice A2 n2 c2] (by kernel_rfl) ?_))
  rw [← HW.out, ← HG.out]
  have b5 : wb.cell? ⟨g, 5, none⟩ = some (.slice A m c) := BB.out.cell 5
  go_wp2_with (first
    | (go_at_call 44; refine (CP.out _ SB.out).mono ?_; rintro e w2 ⟨⟨v2, rfl, own2⟩, s2⟩; clear own2; have SB2 := Lib.hid (SB.out.trans s2); have e0 : w2.cell? ⟨g, 0, none⟩ = some (.int .i64 0) := (BB.out.still s2).cell 0; have e1 : w2.cell? ⟨g, 1, none⟩ = some (.string s) := (BB.out.still s2).cell 1; have e2 : w2.cell? ⟨g, 2, none⟩ = some (.string t) := (BB.out.still s2).cell 2; have e3 : w2.cell? ⟨g, 3, none⟩ = some (.int .i64 nn) := (BB.out.still s2).cell 3; have e4 : w2.cell? ⟨g, 4, none⟩ = some (.int .i64 mm) := (BB.out.still s2).cell 4; have e5 : w2.cell? ⟨g, 5, none⟩ = some (.slice A m c) := (BB.out.still s2).cell 5; have e6 : w2.cell? ⟨g, 6, none⟩ = some (.slice A2 n2 c2) := (BB.out.still s2).cell 6)
    | (go_at_call 23; refine (NO.out _ SB2.out).mono ?_; rintro e w3 ⟨rfl, rfl⟩))
  go_ret3
  exact ⟨rfl, SB2.out⟩

set_option maxRecDepth 100000 in
set_option maxHeartbeats 3200000 in
theorem does_no1 (P : Value) (nn mm : Int) (s t : ByteArray) (A : Option Addr) (m c : Nat) (A2 : Option Addr) (n2 c2 : Nat) (L : List UInt8) (w : World) (B : Nat) (hN : NoMed w P) (hr : Reads w B A m L) (hB : B ≤ w.heap.size) (hm : m ≤ 100) (hA : A = none → m = 0 ∧ c = 0) (hs : s.size ≤ maxLen) :
    Calls Try.prog 19 #[P, .agg #[.int .i64 1, .string s, .string t, .int .i64 nn, .int .i64 mm, .slice A m c, .slice A2 n2 c2]] w fun e w' => e = .returned (.tuple #[.slice none 0 0, .int .i64 1, .bool false]) ∧ Still w w' := by
  have CP := Lib.hid (fun W (z : Still w W) => copy_any A m c L W _ (hr.still hB z) (by omega) hA)
  have NO := Lib.hid (fun A3 c3 W (z : Still w W) => append_no P s A3 m c3 W (hN.still z))
  obtain ⟨wb, hwb⟩ : ∃ wb, wb = w.alloc (.cells #[.int .i64 1, .string s, .string t, .int .i64 nn, .int .i64 mm, .slice A m c, .slice A2 n2 c2] 43) := ⟨_, rfl⟩
  obtain ⟨g, hg⟩ : ∃ g, g = w.heap.size := ⟨_, rfl⟩
  have SB := Lib.hid (show Still w wb by rw [hwb]; exact (Still.refl _).alloc (Nat.le_refl _) _)
  have BB := Lib.hid (show Blk wb g 43 #[.int .i64 1, .string s, .string t, .int .i64 nn, .int .i64 mm, .slice A m c, .slice A2 n2 c2] by rw [hwb, hg]; exact Blk.new _ _ _)
  have HW := Lib.hid hwb
  have HG := Lib.hid hg
  have HM := Lib.hid hm
  clear hN hr hB hA hs hwb hg hm
  go_enter Try.func19, Try.ntmps19
  go_upto_region 1 with (guard_target =~ wpList _ _ _ (Oper.mk _ (Op.box _ _) _ _ _ _ :: _) _ _; go_must (refine wpList_box_arr rfl 43 (.tmp 1) rfl (some 3) rfl #[.int .i64 1, .string s, .string t, .int .i64 nn, .int .i64 mm, .slice A m c, .slice A2 n2 c2] (by kernel_rfl) ?_))
  rw [← HW.out, ← HG.out]
  have b5 : wb.cell? ⟨g, 5, none⟩ = some (.slice A m c) := BB.out.cell 5
  go_wp2_with (first
    | (go_at_call 44; refine (CP.out _ SB.out).mono ?_; rintro e w2 ⟨⟨v2, rfl, own2⟩, s2⟩; obtain ⟨A3, c3, rfl, f1, f2, f3⟩ := own_form own2; have O2 := Lib.hid own2; clear own2; have SB2 := Lib.hid (SB.out.trans s2); have e0 : w2.cell? ⟨g, 0, none⟩ = some (.int .i64 1) := (BB.out.still s2).cell 0; have e1 : w2.cell? ⟨g, 1, none⟩ = some (.string s) := (BB.out.still s2).cell 1; have e2 : w2.cell? ⟨g, 2, none⟩ = some (.string t) := (BB.out.still s2).cell 2; have e3 : w2.cell? ⟨g, 3, none⟩ = some (.int .i64 nn) := (BB.out.still s2).cell 3; have e4 : w2.cell? ⟨g, 4, none⟩ = some (.int .i64 mm) := (BB.out.still s2).cell 4; have e5 : w2.cell? ⟨g, 5, none⟩ = some (.slice A m c) := (BB.out.still s2).cell 5; have e6 : w2.cell? ⟨g, 6, none⟩ = some (.slice A2 n2 c2) := (BB.out.still s2).cell 6)
    | (go_at_call 24; refine (NO.out _ _ _ SB2.out).mono ?_; rintro e w3 ⟨rfl, rfl⟩))
  have BO := Lib.hid (fun h0 => byt_own O2.out h0)
  go_loopw [9] (fun iv wr => ∃ i : Nat, i ≤ m ∧ iv = .int .i64 i ∧ Hid (Still w wr ∧ (0 < m → ∃ gb, A3 = some ⟨gb, 0, none⟩ ∧ w.heap.size ≤ gb ∧ Byt wr gb m))) (fun iv _ => m - (intOf iv).toNat)
  case atStart =>
    refine ⟨0, by omega, rfl, SB2.out, fun h0 => ?_⟩
    obtain ⟨gb, c', hv, hlo, hb⟩ := BO.out h0
    injection hv with hv1 hv2 hv3
    exact ⟨gb, hv1, Nat.le_trans SB.out.size hlo, hb⟩
  case round =>
    obtain ⟨i, hi, rfl, hh⟩ := hrel
    have M1 : m ≤ 100 := HM.out
    obtain ⟨z1, z2⟩ := hh.out
    by_cases hlt : i < m
    · obtain ⟨gb, rfl, hlo, hb⟩ := z2 (by omega)
      obtain ⟨y, y0, y1, hc, hf⟩ := hb.at_ hlt
      have Z1 := Lib.hid z1
      have HB := Lib.hid hb
      clear z1 z2 hh hb BO O2 f1 f2 f3
      go_wp2_with fail
      go_roundw
      case rel =>
        refine ⟨i + 1, by omega, by go_num, Z1.out.setCell hlo _, fun _ => ⟨gb, rfl, hlo, ?_⟩⟩
        have hu := u8_more y y0 y1
        exact HB.out.set hlt hu.1 hu.2
      case measure => simp [intOf]; omega
    · obtain rfl : i = m := by omega
      have Z1 := Lib.hid z1
      clear z1 z2 hh BO O2
      go_wp2_with fail
      go_ret3
      exact ⟨rfl, Z1.out⟩

set_option maxRecDepth 100000 in
set_option maxHeartbeats 3200000 in
theorem does_no2 (P : Value) (nn mm : Int) (s t : ByteArray) (A : Option Addr) (m c : Nat) (A2 : Option Addr) (n2 c2 : Nat) (L : List UInt8) (w : World) (B : Nat) (hN : NoMed w P) (hr : Reads w B A m L) (hB : B ≤ w.heap.size) (hm : m ≤ 100) (hA : A = none → m = 0 ∧ c = 0) (hs : s.size ≤ maxLen) :
    Calls Try.prog 19 #[P, .agg #[.int .i64 2, .string s, .string t, .int .i64 nn, .int .i64 mm, .slice A m c, .slice A2 n2 c2]] w fun e w' => e = .returned (.tuple #[.slice none 0 0, .int .i64 1, .bool false]) ∧ Still w w' := by
  have CP := Lib.hid (fun W (z : Still w W) => copy_any A m c L W _ (hr.still hB z) (by omega) hA)
  have NO := Lib.hid (fun W (z : Still w W) => truncate_no P s nn W (hN.still z))
  obtain ⟨wb, hwb⟩ : ∃ wb, wb = w.alloc (.cells #[.int .i64 2, .string s, .string t, .int .i64 nn, .int .i64 mm, .slice A m c, .slice A2 n2 c2] 43) := ⟨_, rfl⟩
  obtain ⟨g, hg⟩ : ∃ g, g = w.heap.size := ⟨_, rfl⟩
  have SB := Lib.hid (show Still w wb by rw [hwb]; exact (Still.refl _).alloc (Nat.le_refl _) _)
  have BB := Lib.hid (show Blk wb g 43 #[.int .i64 2, .string s, .string t, .int .i64 nn, .int .i64 mm, .slice A m c, .slice A2 n2 c2] by rw [hwb, hg]; exact Blk.new _ _ _)
  have HW := Lib.hid hwb
  have HG := Lib.hid hg
  have HM := Lib.hid hm
  clear hN hr hB hA hs hwb hg hm
  go_enter Try.func19, Try.ntmps19
  go_upto_region 1 with (guard_target =~ wpList _ _ _ (Oper.mk _ (Op.box _ _) _ _ _ _ :: _) _ _; go_must (refine wpList_box_arr rfl 43 (.tmp 1) rfl (some 3) rfl #[.int .i64 2, .string s, .string t, .int .i64 nn, .int .i64 mm, .slice A m c, .slice A2 n2 c2] (by kernel_rfl) ?_))
  rw [← HW.out, ← HG.out]
  have b5 : wb.cell? ⟨g, 5, none⟩ = some (.slice A m c) := BB.out.cell 5
  go_wp2_with (first
    | (go_at_call 44; refine (CP.out _ SB.out).mono ?_; rintro e w2 ⟨⟨v2, rfl, own2⟩, s2⟩; clear own2; have SB2 := Lib.hid (SB.out.trans s2); have e0 : w2.cell? ⟨g, 0, none⟩ = some (.int .i64 2) := (BB.out.still s2).cell 0; have e1 : w2.cell? ⟨g, 1, none⟩ = some (.string s) := (BB.out.still s2).cell 1; have e2 : w2.cell? ⟨g, 2, none⟩ = some (.string t) := (BB.out.still s2).cell 2; have e3 : w2.cell? ⟨g, 3, none⟩ = some (.int .i64 nn) := (BB.out.still s2).cell 3; have e4 : w2.cell? ⟨g, 4, none⟩ = some (.int .i64 mm) := (BB.out.still s2).cell 4; have e5 : w2.cell? ⟨g, 5, none⟩ = some (.slice A m c) := (BB.out.still s2).cell 5; have e6 : w2.cell? ⟨g, 6, none⟩ = some (.slice A2 n2 c2) := (BB.out.still s2).cell 6)
    | (go_at_call 45; refine (NO.out _ SB2.out).mono ?_; rintro e w3 ⟨rfl, rfl⟩))
  go_ret3
  exact ⟨rfl, SB2.out⟩

set_option maxRecDepth 100000 in
set_option maxHeartbeats 3200000 in
theorem does_no3 (P : Value) (nn mm : Int) (s t : ByteArray) (A : Option Addr) (m c : Nat) (A2 : Option Addr) (n2 c2 : Nat) (L : List UInt8) (w : World) (B : Nat) (hN : NoMed w P) (hr : Reads w B A m L) (hB : B ≤ w.heap.size) (hm : m ≤ 100) (hA : A = none → m = 0 ∧ c = 0) (hs : s.size ≤ maxLen) :
    Calls Try.prog 19 #[P, .agg #[.int .i64 3, .string s, .string t, .int .i64 nn, .int .i64 mm, .slice A m c, .slice A2 n2 c2]] w fun e w' => e = .returned (.tuple #[.slice none 0 0, .int .i64 1, .bool false]) ∧ Still w w' := by
  have CP := Lib.hid (fun W (z : Still w W) => copy_any A m c L W _ (hr.still hB z) (by omega) hA)
  have NO := Lib.hid (fun W (z : Still w W) => rename_no P s t W (hN.still z))
  obtain ⟨wb, hwb⟩ : ∃ wb, wb = w.alloc (.cells #[.int .i64 3, .string s, .string t, .int .i64 nn, .int .i64 mm, .slice A m c, .slice A2 n2 c2] 43) := ⟨_, rfl⟩
  obtain ⟨g, hg⟩ : ∃ g, g = w.heap.size := ⟨_, rfl⟩
  have SB := Lib.hid (show Still w wb by rw [hwb]; exact (Still.refl _).alloc (Nat.le_refl _) _)
  have BB := Lib.hid (show Blk wb g 43 #[.int .i64 3, .string s, .string t, .int .i64 nn, .int .i64 mm, .slice A m c, .slice A2 n2 c2] by rw [hwb, hg]; exact Blk.new _ _ _)
  have HW := Lib.hid hwb
  have HG := Lib.hid hg
  have HM := Lib.hid hm
  clear hN hr hB hA hs hwb hg hm
  go_enter Try.func19, Try.ntmps19
  go_upto_region 1 with (guard_target =~ wpList _ _ _ (Oper.mk _ (Op.box _ _) _ _ _ _ :: _) _ _; go_must (refine wpList_box_arr rfl 43 (.tmp 1) rfl (some 3) rfl #[.int .i64 3, .string s, .string t, .int .i64 nn, .int .i64 mm, .slice A m c, .slice A2 n2 c2] (by kernel_rfl) ?_))
  rw [← HW.out, ← HG.out]
  have b5 : wb.cell? ⟨g, 5, none⟩ = some (.slice A m c) := BB.out.cell 5
  go_wp2_with (first
    | (go_at_call 44; refine (CP.out _ SB.out).mono ?_; rintro e w2 ⟨⟨v2, rfl, own2⟩, s2⟩; clear own2; have SB2 := Lib.hid (SB.out.trans s2); have e0 : w2.cell? ⟨g, 0, none⟩ = some (.int .i64 3) := (BB.out.still s2).cell 0; have e1 : w2.cell? ⟨g, 1, none⟩ = some (.string s) := (BB.out.still s2).cell 1; have e2 : w2.cell? ⟨g, 2, none⟩ = some (.string t) := (BB.out.still s2).cell 2; have e3 : w2.cell? ⟨g, 3, none⟩ = some (.int .i64 nn) := (BB.out.still s2).cell 3; have e4 : w2.cell? ⟨g, 4, none⟩ = some (.int .i64 mm) := (BB.out.still s2).cell 4; have e5 : w2.cell? ⟨g, 5, none⟩ = some (.slice A m c) := (BB.out.still s2).cell 5; have e6 : w2.cell? ⟨g, 6, none⟩ = some (.slice A2 n2 c2) := (BB.out.still s2).cell 6)
    | (go_at_call 46; refine (NO.out _ SB2.out).mono ?_; rintro e w3 ⟨rfl, rfl⟩))
  go_ret3
  exact ⟨rfl, SB2.out⟩

set_option maxRecDepth 100000 in
set_option maxHeartbeats 3200000 in
theorem does_no4 (P : Value) (nn mm : Int) (s t : ByteArray) (A : Option Addr) (m c : Nat) (A2 : Option Addr) (n2 c2 : Nat) (L : List UInt8) (w : World) (B : Nat) (hN : NoMed w P) (hr : Reads w B A m L) (hB : B ≤ w.heap.size) (hm : m ≤ 100) (hA : A = none → m = 0 ∧ c = 0) (hs : s.size ≤ maxLen) :
    Calls Try.prog 19 #[P, .agg #[.int .i64 4, .string s, .string t, .int .i64 nn, .int .i64 mm, .slice A m c, .slice A2 n2 c2]] w fun e w' => e = .returned (.tuple #[.slice none 0 0, .int .i64 1, .bool false]) ∧ Still w w' := by
  have CP := Lib.hid (fun W (z : Still w W) => copy_any A m c L W _ (hr.still hB z) (by omega) hA)
  have NO := Lib.hid (fun W (z : Still w W) => remove_no P s W (hN.still z))
  obtain ⟨wb, hwb⟩ : ∃ wb, wb = w.alloc (.cells #[.int .i64 4, .string s, .string t, .int .i64 nn, .int .i64 mm, .slice A m c, .slice A2 n2 c2] 43) := ⟨_, rfl⟩
  obtain ⟨g, hg⟩ : ∃ g, g = w.heap.size := ⟨_, rfl⟩
  have SB := Lib.hid (show Still w wb by rw [hwb]; exact (Still.refl _).alloc (Nat.le_refl _) _)
  have BB := Lib.hid (show Blk wb g 43 #[.int .i64 4, .string s, .string t, .int .i64 nn, .int .i64 mm, .slice A m c, .slice A2 n2 c2] by rw [hwb, hg]; exact Blk.new _ _ _)
  have HW := Lib.hid hwb
  have HG := Lib.hid hg
  have HM := Lib.hid hm
  clear hN hr hB hA hs hwb hg hm
  go_enter Try.func19, Try.ntmps19
  go_upto_region 1 with (guard_target =~ wpList _ _ _ (Oper.mk _ (Op.box _ _) _ _ _ _ :: _) _ _; go_must (refine wpList_box_arr rfl 43 (.tmp 1) rfl (some 3) rfl #[.int .i64 4, .string s, .string t, .int .i64 nn, .int .i64 mm, .slice A m c, .slice A2 n2 c2] (by kernel_rfl) ?_))
  rw [← HW.out, ← HG.out]
  have b5 : wb.cell? ⟨g, 5, none⟩ = some (.slice A m c) := BB.out.cell 5
  go_wp2_with (first
    | (go_at_call 44; refine (CP.out _ SB.out).mono ?_; rintro e w2 ⟨⟨v2, rfl, own2⟩, s2⟩; clear own2; have SB2 := Lib.hid (SB.out.trans s2); have e0 : w2.cell? ⟨g, 0, none⟩ = some (.int .i64 4) := (BB.out.still s2).cell 0; have e1 : w2.cell? ⟨g, 1, none⟩ = some (.string s) := (BB.out.still s2).cell 1; have e2 : w2.cell? ⟨g, 2, none⟩ = some (.string t) := (BB.out.still s2).cell 2; have e3 : w2.cell? ⟨g, 3, none⟩ = some (.int .i64 nn) := (BB.out.still s2).cell 3; have e4 : w2.cell? ⟨g, 4, none⟩ = some (.int .i64 mm) := (BB.out.still s2).cell 4; have e5 : w2.cell? ⟨g, 5, none⟩ = some (.slice A m c) := (BB.out.still s2).cell 5; have e6 : w2.cell? ⟨g, 6, none⟩ = some (.slice A2 n2 c2) := (BB.out.still s2).cell 6)
    | (go_at_call 47; refine (NO.out _ SB2.out).mono ?_; rintro e w3 ⟨rfl, rfl⟩))
  go_ret3
  exact ⟨rfl, SB2.out⟩

set_option maxRecDepth 100000 in
set_option maxHeartbeats 3200000 in
theorem does_no5 (P : Value) (nn mm : Int) (s t : ByteArray) (A : Option Addr) (m c : Nat) (A2 : Option Addr) (n2 c2 : Nat) (L : List UInt8) (w : World) (B : Nat) (hN : NoMed w P) (hr : Reads w B A m L) (hB : B ≤ w.heap.size) (hm : m ≤ 100) (hA : A = none → m = 0 ∧ c = 0) (hs : s.size ≤ maxLen) :
    Calls Try.prog 19 #[P, .agg #[.int .i64 5, .string s, .string t, .int .i64 nn, .int .i64 mm, .slice A m c, .slice A2 n2 c2]] w fun e w' => e = .returned (.tuple #[.slice none 0 0, .int .i64 1, .bool false]) ∧ Still w w' := by
  have CP := Lib.hid (fun W (z : Still w W) => copy_any A m c L W _ (hr.still hB z) (by omega) hA)
  have NO := Lib.hid (fun W (z : Still w W) => sync_no P s W (hN.still z))
  obtain ⟨wb, hwb⟩ : ∃ wb, wb = w.alloc (.cells #[.int .i64 5, .string s, .string t, .int .i64 nn, .int .i64 mm, .slice A m c, .slice A2 n2 c2] 43) := ⟨_, rfl⟩
  obtain ⟨g, hg⟩ : ∃ g, g = w.heap.size := ⟨_, rfl⟩
  have SB := Lib.hid (show Still w wb by rw [hwb]; exact (Still.refl _).alloc (Nat.le_refl _) _)
  have BB := Lib.hid (show Blk wb g 43 #[.int .i64 5, .string s, .string t, .int .i64 nn, .int .i64 mm, .slice A m c, .slice A2 n2 c2] by rw [hwb, hg]; exact Blk.new _ _ _)
  have HW := Lib.hid hwb
  have HG := Lib.hid hg
  have HM := Lib.hid hm
  clear hN hr hB hA hs hwb hg hm
  go_enter Try.func19, Try.ntmps19
  go_upto_region 1 with (guard_target =~ wpList _ _ _ (Oper.mk _ (Op.box _ _) _ _ _ _ :: _) _ _; go_must (refine wpList_box_arr rfl 43 (.tmp 1) rfl (some 3) rfl #[.int .i64 5, .string s, .string t, .int .i64 nn, .int .i64 mm, .slice A m c, .slice A2 n2 c2] (by kernel_rfl) ?_))
  rw [← HW.out, ← HG.out]
  have b5 : wb.cell? ⟨g, 5, none⟩ = some (.slice A m c) := BB.out.cell 5
  go_wp2_with (first
    | (go_at_call 44; refine (CP.out _ SB.out).mono ?_; rintro e w2 ⟨⟨v2, rfl, own2⟩, s2⟩; clear own2; have SB2 := Lib.hid (SB.out.trans s2); have e0 : w2.cell? ⟨g, 0, none⟩ = some (.int .i64 5) := (BB.out.still s2).cell 0; have e1 : w2.cell? ⟨g, 1, none⟩ = some (.string s) := (BB.out.still s2).cell 1; have e2 : w2.cell? ⟨g, 2, none⟩ = some (.string t) := (BB.out.still s2).cell 2; have e3 : w2.cell? ⟨g, 3, none⟩ = some (.int .i64 nn) := (BB.out.still s2).cell 3; have e4 : w2.cell? ⟨g, 4, none⟩ = some (.int .i64 mm) := (BB.out.still s2).cell 4; have e5 : w2.cell? ⟨g, 5, none⟩ = some (.slice A m c) := (BB.out.still s2).cell 5; have e6 : w2.cell? ⟨g, 6, none⟩ = some (.slice A2 n2 c2) := (BB.out.still s2).cell 6)
    | (go_at_call 11; refine (NO.out _ SB2.out).mono ?_; rintro e w3 ⟨rfl, rfl⟩))
  go_ret3
  exact ⟨rfl, SB2.out⟩

set_option maxRecDepth 100000 in
set_option maxHeartbeats 3200000 in
theorem does_no6 (P : Value) (nn mm : Int) (s t : ByteArray) (A : Option Addr) (m c : Nat) (A2 : Option Addr) (n2 c2 : Nat) (L : List UInt8) (w : World) (B : Nat) (hN : NoMed w P) (hr : Reads w B A m L) (hB : B ≤ w.heap.size) (hm : m ≤ 100) (hA : A = none → m = 0 ∧ c = 0) (hs : s.size ≤ maxLen) :
    Calls Try.prog 19 #[P, .agg #[.int .i64 6, .string s, .string t, .int .i64 nn, .int .i64 mm, .slice A m c, .slice A2 n2 c2]] w fun e w' => e = .returned (.tuple #[.slice none 0 0, .int .i64 1, .bool false]) ∧ Still w w' := by
  have CP := Lib.hid (fun W (z : Still w W) => copy_any A m c L W _ (hr.still hB z) (by omega) hA)
  have NO := Lib.hid (fun W (z : Still w W) => syncDir_no P W (hN.still z))
  obtain ⟨wb, hwb⟩ : ∃ wb, wb = w.alloc (.cells #[.int .i64 6, .string s, .string t, .int .i64 nn, .int .i64 mm, .slice A m c, .slice A2 n2 c2] 43) := ⟨_, rfl⟩
  obtain ⟨g, hg⟩ : ∃ g, g = w.heap.size := ⟨_, rfl⟩
  have SB := Lib.hid (show Still w wb by rw [hwb]; exact (Still.refl _).alloc (Nat.le_refl _) _)
  have BB := Lib.hid (show Blk wb g 43 #[.int .i64 6, .string s, .string t, .int .i64 nn, .int .i64 mm, .slice A m c, .slice A2 n2 c2] by rw [hwb, hg]; exact Blk.new _ _ _)
  have HW := Lib.hid hwb
  have HG := Lib.hid hg
  have HM := Lib.hid hm
  clear hN hr hB hA hs hwb hg hm
  go_enter Try.func19, Try.ntmps19
  go_upto_region 1 with (guard_target =~ wpList _ _ _ (Oper.mk _ (Op.box _ _) _ _ _ _ :: _) _ _; go_must (refine wpList_box_arr rfl 43 (.tmp 1) rfl (some 3) rfl #[.int .i64 6, .string s, .string t, .int .i64 nn, .int .i64 mm, .slice A m c, .slice A2 n2 c2] (by kernel_rfl) ?_))
  rw [← HW.out, ← HG.out]
  have b5 : wb.cell? ⟨g, 5, none⟩ = some (.slice A m c) := BB.out.cell 5
  go_wp2_with (first
    | (go_at_call 44; refine (CP.out _ SB.out).mono ?_; rintro e w2 ⟨⟨v2, rfl, own2⟩, s2⟩; clear own2; have SB2 := Lib.hid (SB.out.trans s2); have e0 : w2.cell? ⟨g, 0, none⟩ = some (.int .i64 6) := (BB.out.still s2).cell 0; have e1 : w2.cell? ⟨g, 1, none⟩ = some (.string s) := (BB.out.still s2).cell 1; have e2 : w2.cell? ⟨g, 2, none⟩ = some (.string t) := (BB.out.still s2).cell 2; have e3 : w2.cell? ⟨g, 3, none⟩ = some (.int .i64 nn) := (BB.out.still s2).cell 3; have e4 : w2.cell? ⟨g, 4, none⟩ = some (.int .i64 mm) := (BB.out.still s2).cell 4; have e5 : w2.cell? ⟨g, 5, none⟩ = some (.slice A m c) := (BB.out.still s2).cell 5; have e6 : w2.cell? ⟨g, 6, none⟩ = some (.slice A2 n2 c2) := (BB.out.still s2).cell 6)
    | (go_at_call 12; refine (NO.out _ SB2.out).mono ?_; rintro e w3 ⟨rfl, rfl⟩))
  go_ret3
  exact ⟨rfl, SB2.out⟩

set_option maxRecDepth 100000 in
set_option maxHeartbeats 3200000 in
theorem does_no7 (P : Value) (nn mm : Int) (s t : ByteArray) (A : Option Addr) (m c : Nat) (A2 : Option Addr) (n2 c2 : Nat) (L : List UInt8) (w : World) (B : Nat) (hN : NoMed w P) (hr : Reads w B A m L) (hB : B ≤ w.heap.size) (hm : m ≤ 100) (hA : A = none → m = 0 ∧ c = 0) (hs : s.size ≤ maxLen) :
    Calls Try.prog 19 #[P, .agg #[.int .i64 7, .string s, .string t, .int .i64 nn, .int .i64 mm, .slice A m c, .slice A2 n2 c2]] w fun e w' => e = .returned (.tuple #[.slice none 0 0, .int .i64 1, .bool false]) ∧ Still w w' := by
  have CP := Lib.hid (fun W (z : Still w W) => copy_any A m c L W _ (hr.still hB z) (by omega) hA)
  have NO := Lib.hid (fun W (z : Still w W) => arm_no P nn W (hN.still z))
  obtain ⟨wb, hwb⟩ : ∃ wb, wb = w.alloc (.cells #[.int .i64 7, .string s, .string t, .int .i64 nn, .int .i64 mm, .slice A m c, .slice A2 n2 c2] 43) := ⟨_, rfl⟩
  obtain ⟨g, hg⟩ : ∃ g, g = w.heap.size := ⟨_, rfl⟩
  have SB := Lib.hid (show Still w wb by rw [hwb]; exact (Still.refl _).alloc (Nat.le_refl _) _)
  have BB := Lib.hid (show Blk wb g 43 #[.int .i64 7, .string s, .string t, .int .i64 nn, .int .i64 mm, .slice A m c, .slice A2 n2 c2] by rw [hwb, hg]; exact Blk.new _ _ _)
  have HW := Lib.hid hwb
  have HG := Lib.hid hg
  have HM := Lib.hid hm
  clear hN hr hB hA hs hwb hg hm
  go_enter Try.func19, Try.ntmps19
  go_upto_region 1 with (guard_target =~ wpList _ _ _ (Oper.mk _ (Op.box _ _) _ _ _ _ :: _) _ _; go_must (refine wpList_box_arr rfl 43 (.tmp 1) rfl (some 3) rfl #[.int .i64 7, .string s, .string t, .int .i64 nn, .int .i64 mm, .slice A m c, .slice A2 n2 c2] (by kernel_rfl) ?_))
  rw [← HW.out, ← HG.out]
  have b5 : wb.cell? ⟨g, 5, none⟩ = some (.slice A m c) := BB.out.cell 5
  go_wp2_with (first
    | (go_at_call 44; refine (CP.out _ SB.out).mono ?_; rintro e w2 ⟨⟨v2, rfl, own2⟩, s2⟩; clear own2; have SB2 := Lib.hid (SB.out.trans s2); have e0 : w2.cell? ⟨g, 0, none⟩ = some (.int .i64 7) := (BB.out.still s2).cell 0; have e1 : w2.cell? ⟨g, 1, none⟩ = some (.string s) := (BB.out.still s2).cell 1; have e2 : w2.cell? ⟨g, 2, none⟩ = some (.string t) := (BB.out.still s2).cell 2; have e3 : w2.cell? ⟨g, 3, none⟩ = some (.int .i64 nn) := (BB.out.still s2).cell 3; have e4 : w2.cell? ⟨g, 4, none⟩ = some (.int .i64 mm) := (BB.out.still s2).cell 4; have e5 : w2.cell? ⟨g, 5, none⟩ = some (.slice A m c) := (BB.out.still s2).cell 5; have e6 : w2.cell? ⟨g, 6, none⟩ = some (.slice A2 n2 c2) := (BB.out.still s2).cell 6)
    | (go_at_call 28; refine (NO.out _ SB2.out).mono ?_; rintro e w3 ⟨rfl, rfl⟩))
  go_ret3
  exact ⟨rfl, SB2.out⟩

set_option maxRecDepth 100000 in
set_option maxHeartbeats 3200000 in
theorem does_no8 (P : Value) (nn mm : Int) (s t : ByteArray) (A : Option Addr) (m c : Nat) (A2 : Option Addr) (n2 c2 : Nat) (L : List UInt8) (w : World) (B : Nat) (hN : NoMed w P) (hr : Reads w B A m L) (hB : B ≤ w.heap.size) (hm : m ≤ 100) (hA : A = none → m = 0 ∧ c = 0) (hs : s.size ≤ maxLen) :
    Calls Try.prog 19 #[P, .agg #[.int .i64 8, .string s, .string t, .int .i64 nn, .int .i64 mm, .slice A m c, .slice A2 n2 c2]] w fun e w' => e = .returned (.tuple #[.slice none 0 0, .int .i64 0, .bool false]) ∧ Still w w' := by
  have CP := Lib.hid (fun W (z : Still w W) => copy_any A m c L W _ (hr.still hB z) (by omega) hA)
  have NO := Lib.hid (fun W (z : Still w W) => crash_no P A2 n2 c2 W (hN.still z))
  obtain ⟨wb, hwb⟩ : ∃ wb, wb = w.alloc (.cells #[.int .i64 8, .string s, .string t, .int .i64 nn, .int .i64 mm, .slice A m c, .slice A2 n2 c2] 43) := ⟨_, rfl⟩
  obtain ⟨g, hg⟩ : ∃ g, g = w.heap.size := ⟨_, rfl⟩
  have SB := Lib.hid (show Still w wb by rw [hwb]; exact (Still.refl _).alloc (Nat.le_refl _) _)
  have BB := Lib.hid (show Blk wb g 43 #[.int .i64 8, .string s, .string t, .int .i64 nn, .int .i64 mm, .slice A m c, .slice A2 n2 c2] by rw [hwb, hg]; exact Blk.new _ _ _)
  have HW := Lib.hid hwb
  have HG := Lib.hid hg
  have HM := Lib.hid hm
  clear hN hr hB hA hs hwb hg hm
  go_enter Try.func19, Try.ntmps19
  go_upto_region 1 with (guard_target =~ wpList _ _ _ (Oper.mk _ (Op.box _ _) _ _ _ _ :: _) _ _; go_must (refine wpList_box_arr rfl 43 (.tmp 1) rfl (some 3) rfl #[.int .i64 8, .string s, .string t, .int .i64 nn, .int .i64 mm, .slice A m c, .slice A2 n2 c2] (by kernel_rfl) ?_))
  rw [← HW.out, ← HG.out]
  have b5 : wb.cell? ⟨g, 5, none⟩ = some (.slice A m c) := BB.out.cell 5
  go_wp2_with (first
    | (go_at_call 44; refine (CP.out _ SB.out).mono ?_; rintro e w2 ⟨⟨v2, rfl, own2⟩, s2⟩; clear own2; have SB2 := Lib.hid (SB.out.trans s2); have e0 : w2.cell? ⟨g, 0, none⟩ = some (.int .i64 8) := (BB.out.still s2).cell 0; have e1 : w2.cell? ⟨g, 1, none⟩ = some (.string s) := (BB.out.still s2).cell 1; have e2 : w2.cell? ⟨g, 2, none⟩ = some (.string t) := (BB.out.still s2).cell 2; have e3 : w2.cell? ⟨g, 3, none⟩ = some (.int .i64 nn) := (BB.out.still s2).cell 3; have e4 : w2.cell? ⟨g, 4, none⟩ = some (.int .i64 mm) := (BB.out.still s2).cell 4; have e5 : w2.cell? ⟨g, 5, none⟩ = some (.slice A m c) := (BB.out.still s2).cell 5; have e6 : w2.cell? ⟨g, 6, none⟩ = some (.slice A2 n2 c2) := (BB.out.still s2).cell 6)
    | (go_at_call 13; refine (NO.out _ SB2.out).mono ?_; rintro e w3 ⟨rfl, rfl⟩))
  go_ret3
  exact ⟨rfl, SB2.out⟩

set_option maxRecDepth 100000 in
set_option maxHeartbeats 3200000 in
theorem does_no9 (P : Value) (nn mm : Int) (s t : ByteArray) (A : Option Addr) (m c : Nat) (A2 : Option Addr) (n2 c2 : Nat) (L : List UInt8) (w : World) (B : Nat) (hN : NoMed w P) (hr : Reads w B A m L) (hB : B ≤ w.heap.size) (hm : m ≤ 100) (hA : A = none → m = 0 ∧ c = 0) (hs : s.size ≤ maxLen) :
    Calls Try.prog 19 #[P, .agg #[.int .i64 9, .string s, .string t, .int .i64 nn, .int .i64 mm, .slice A m c, .slice A2 n2 c2]] w fun e w' => e = .returned (.tuple #[.slice none 0 0, .int .i64 1, .bool false]) ∧ Still w w' := by
  have CP := Lib.hid (fun W (z : Still w W) => copy_any A m c L W _ (hr.still hB z) (by omega) hA)
  have NO := Lib.hid (fun W (z : Still w W) => setRoom_no P nn W (hN.still z))
  obtain ⟨wb, hwb⟩ : ∃ wb, wb = w.alloc (.cells #[.int .i64 9, .string s, .string t, .int .i64 nn, .int .i64 mm, .slice A m c, .slice A2 n2 c2] 43) := ⟨_, rfl⟩
  obtain ⟨g, hg⟩ : ∃ g, g = w.heap.size := ⟨_, rfl⟩
  have SB := Lib.hid (show Still w wb by rw [hwb]; exact (Still.refl _).alloc (Nat.le_refl _) _)
  have BB := Lib.hid (show Blk wb g 43 #[.int .i64 9, .string s, .string t, .int .i64 nn, .int .i64 mm, .slice A m c, .slice A2 n2 c2] by rw [hwb, hg]; exact Blk.new _ _ _)
  have HW := Lib.hid hwb
  have HG := Lib.hid hg
  have HM := Lib.hid hm
  clear hN hr hB hA hs hwb hg hm
  go_enter Try.func19, Try.ntmps19
  go_upto_region 1 with (guard_target =~ wpList _ _ _ (Oper.mk _ (Op.box _ _) _ _ _ _ :: _) _ _; go_must (refine wpList_box_arr rfl 43 (.tmp 1) rfl (some 3) rfl #[.int .i64 9, .string s, .string t, .int .i64 nn, .int .i64 mm, .slice A m c, .slice A2 n2 c2] (by kernel_rfl) ?_))
  rw [← HW.out, ← HG.out]
  have b5 : wb.cell? ⟨g, 5, none⟩ = some (.slice A m c) := BB.out.cell 5
  go_wp2_with (first
    | (go_at_call 44; refine (CP.out _ SB.out).mono ?_; rintro e w2 ⟨⟨v2, rfl, own2⟩, s2⟩; clear own2; have SB2 := Lib.hid (SB.out.trans s2); have e0 : w2.cell? ⟨g, 0, none⟩ = some (.int .i64 9) := (BB.out.still s2).cell 0; have e1 : w2.cell? ⟨g, 1, none⟩ = some (.string s) := (BB.out.still s2).cell 1; have e2 : w2.cell? ⟨g, 2, none⟩ = some (.string t) := (BB.out.still s2).cell 2; have e3 : w2.cell? ⟨g, 3, none⟩ = some (.int .i64 nn) := (BB.out.still s2).cell 3; have e4 : w2.cell? ⟨g, 4, none⟩ = some (.int .i64 mm) := (BB.out.still s2).cell 4; have e5 : w2.cell? ⟨g, 5, none⟩ = some (.slice A m c) := (BB.out.still s2).cell 5; have e6 : w2.cell? ⟨g, 6, none⟩ = some (.slice A2 n2 c2) := (BB.out.still s2).cell 6)
    | (go_at_call 48; refine (NO.out _ SB2.out).mono ?_; rintro e w3 ⟨rfl, rfl⟩))
  go_ret3
  exact ⟨rfl, SB2.out⟩

set_option maxRecDepth 100000 in
set_option maxHeartbeats 3200000 in
theorem does_no10 (P : Value) (nn mm : Int) (s t : ByteArray) (A : Option Addr) (m c : Nat) (A2 : Option Addr) (n2 c2 : Nat) (L : List UInt8) (w : World) (B : Nat) (hN : NoMed w P) (hr : Reads w B A m L) (hB : B ≤ w.heap.size) (hm : m ≤ 100) (hA : A = none → m = 0 ∧ c = 0) (hs : s.size ≤ maxLen) :
    Calls Try.prog 19 #[P, .agg #[.int .i64 10, .string s, .string t, .int .i64 nn, .int .i64 mm, .slice A m c, .slice A2 n2 c2]] w fun e w' => e = .returned (.tuple #[.slice none 0 0, .int .i64 0, .bool false]) ∧ Still w w' := by
  have CP := Lib.hid (fun W (z : Still w W) => copy_any A m c L W _ (hr.still hB z) (by omega) hA)
  have NO := Lib.hid (fun W (z : Still w W) => rot_no P s hs nn (IntKind.u8.wrap mm) W (hN.still z))
  obtain ⟨wb, hwb⟩ : ∃ wb, wb = w.alloc (.cells #[.int .i64 10, .string s, .string t, .int .i64 nn, .int .i64 mm, .slice A m c, .slice A2 n2 c2] 43) := ⟨_, rfl⟩
  obtain ⟨g, hg⟩ : ∃ g, g = w.heap.size := ⟨_, rfl⟩
  have SB := Lib.hid (show Still w wb by rw [hwb]; exact (Still.refl _).alloc (Nat.le_refl _) _)
  have BB := Lib.hid (show Blk wb g 43 #[.int .i64 10, .string s, .string t, .int .i64 nn, .int .i64 mm, .slice A m c, .slice A2 n2 c2] by rw [hwb, hg]; exact Blk.new _ _ _)
  have HW := Lib.hid hwb
  have HG := Lib.hid hg
  have HM := Lib.hid hm
  clear hN hr hB hA hs hwb hg hm
  go_enter Try.func19, Try.ntmps19
  go_upto_region 1 with (guard_target =~ wpList _ _ _ (Oper.mk _ (Op.box _ _) _ _ _ _ :: _) _ _; go_must (refine wpList_box_arr rfl 43 (.tmp 1) rfl (some 3) rfl #[.int .i64 10, .string s, .string t, .int .i64 nn, .int .i64 mm, .slice A m c, .slice A2 n2 c2] (by kernel_rfl) ?_))
  rw [← HW.out, ← HG.out]
  have b5 : wb.cell? ⟨g, 5, none⟩ = some (.slice A m c) := BB.out.cell 5
  go_wp2_with (first
    | (go_at_call 44; refine (CP.out _ SB.out).mono ?_; rintro e w2 ⟨⟨v2, rfl, own2⟩, s2⟩; clear own2; have SB2 := Lib.hid (SB.out.trans s2); have e0 : w2.cell? ⟨g, 0, none⟩ = some (.int .i64 10) := (BB.out.still s2).cell 0; have e1 : w2.cell? ⟨g, 1, none⟩ = some (.string s) := (BB.out.still s2).cell 1; have e2 : w2.cell? ⟨g, 2, none⟩ = some (.string t) := (BB.out.still s2).cell 2; have e3 : w2.cell? ⟨g, 3, none⟩ = some (.int .i64 nn) := (BB.out.still s2).cell 3; have e4 : w2.cell? ⟨g, 4, none⟩ = some (.int .i64 mm) := (BB.out.still s2).cell 4; have e5 : w2.cell? ⟨g, 5, none⟩ = some (.slice A m c) := (BB.out.still s2).cell 5; have e6 : w2.cell? ⟨g, 6, none⟩ = some (.slice A2 n2 c2) := (BB.out.still s2).cell 6)
    | (go_at_call 49; refine (NO.out _ SB2.out).mono ?_; rintro e w3 ⟨rfl, rfl⟩))
  go_ret3
  exact ⟨rfl, SB2.out⟩

set_option maxRecDepth 100000 in
set_option maxHeartbeats 3200000 in
theorem does_noR (P : Value) (k : Int) (hk : ¬ k = 0 ∧ ¬ k = 1 ∧ ¬ k = 2 ∧ ¬ k = 3 ∧ ¬ k = 4 ∧ ¬ k = 5 ∧ ¬ k = 6 ∧ ¬ k = 7 ∧ ¬ k = 8 ∧ ¬ k = 9 ∧ ¬ k = 10) (nn mm : Int) (s t : ByteArray) (A : Option Addr) (m c : Nat) (A2 : Option Addr) (n2 c2 : Nat) (L : List UInt8) (w : World) (B : Nat) (hN : NoMed w P) (hr : Reads w B A m L) (hB : B ≤ w.heap.size) (hm : m ≤ 100) (hA : A = none → m = 0 ∧ c = 0) (hs : s.size ≤ maxLen) :
    Calls Try.prog 19 #[P, .agg #[.int .i64 k, .string s, .string t, .int .i64 nn, .int .i64 mm, .slice A m c, .slice A2 n2 c2]] w fun e w' => e = .returned (.tuple #[.slice none 0 0, .int .i64 1, .bool false]) ∧ Still w w' := by
  have CP := Lib.hid (fun W (z : Still w W) => copy_any A m c L W _ (hr.still hB z) (by omega) hA)
  have NO := Lib.hid (fun W (z : Still w W) => read_no P s nn mm W (hN.still z))
  obtain ⟨wb, hwb⟩ : ∃ wb, wb = w.alloc (.cells #[.int .i64 k, .string s, .string t, .int .i64 nn, .int .i64 mm, .slice A m c, .slice A2 n2 c2] 43) := ⟨_, rfl⟩
  obtain ⟨g, hg⟩ : ∃ g, g = w.heap.size := ⟨_, rfl⟩
  have SB := Lib.hid (show Still w wb by rw [hwb]; exact (Still.refl _).alloc (Nat.le_refl _) _)
  have BB := Lib.hid (show Blk wb g 43 #[.int .i64 k, .string s, .string t, .int .i64 nn, .int .i64 mm, .slice A m c, .slice A2 n2 c2] by rw [hwb, hg]; exact Blk.new _ _ _)
  have HW := Lib.hid hwb
  have HG := Lib.hid hg
  have HM := Lib.hid hm
  clear hN hr hB hA hs hwb hg hm
  obtain ⟨k0, k1, k2, k3, k4, k5, k6, k7, k8, k9, k10⟩ := hk
  go_enter Try.func19, Try.ntmps19
  go_upto_region 1 with (guard_target =~ wpList _ _ _ (Oper.mk _ (Op.box _ _) _ _ _ _ :: _) _ _; go_must (refine wpList_box_arr rfl 43 (.tmp 1) rfl (some 3) rfl #[.int .i64 k, .string s, .string t, .int .i64 nn, .int .i64 mm, .slice A m c, .slice A2 n2 c2] (by kernel_rfl) ?_))
  rw [← HW.out, ← HG.out]
  have b5 : wb.cell? ⟨g, 5, none⟩ = some (.slice A m c) := BB.out.cell 5
  go_wp2_with (first
    | (go_at_call 44; refine (CP.out _ SB.out).mono ?_; rintro e w2 ⟨⟨v2, rfl, own2⟩, s2⟩; clear own2; have SB2 := Lib.hid (SB.out.trans s2); have e0 : w2.cell? ⟨g, 0, none⟩ = some (.int .i64 k) := (BB.out.still s2).cell 0; have e1 : w2.cell? ⟨g, 1, none⟩ = some (.string s) := (BB.out.still s2).cell 1; have e2 : w2.cell? ⟨g, 2, none⟩ = some (.string t) := (BB.out.still s2).cell 2; have e3 : w2.cell? ⟨g, 3, none⟩ = some (.int .i64 nn) := (BB.out.still s2).cell 3; have e4 : w2.cell? ⟨g, 4, none⟩ = some (.int .i64 mm) := (BB.out.still s2).cell 4; have e5 : w2.cell? ⟨g, 5, none⟩ = some (.slice A m c) := (BB.out.still s2).cell 5; have e6 : w2.cell? ⟨g, 6, none⟩ = some (.slice A2 n2 c2) := (BB.out.still s2).cell 6)
    | (go_at_call 50; refine (NO.out _ SB2.out).mono ?_; rintro e w3 ⟨rfl, rfl⟩))
  go_ret3
  exact ⟨rfl, SB2.out⟩
end Go.Proofs.Ytpjmokchaiaacaa
