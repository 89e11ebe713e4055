/- Contracts: a call, by what the medium's method answers. It proves no statement. -/
import Derived.Test.YtljacdbdjacbkaaGreatMpGzc
import Derived.Test.YtljacdbdjacbkaaGreatMpGu
import Derived.Test.YtljacdbdjacbkaaGreatMpGc
import Derived.OwnWalk
namespace Go.Proofs.YtljacdbdjacbkaaGreat
open Go.RowKit Go.Maps Go.WideMaps
set_option linter.unusedVariables false
set_option linter.unusedSimpArgs false

theorem own_lowM {w : World} {base base' n z : Nat} {e : TypeId} {v : Value} {xs : List Value} (h : w.ownsRow base e z v n xs) (hb : base' ≤ base) : w.ownsRow base' e z v n xs := by
  refine ⟨h.1, ?_⟩
  rcases h.2 with h0 | ⟨g, c, cur, h1, h2, h3⟩
  · exact .inl h0
  · exact .inr ⟨g, c, cur, h1, Nat.le_trans hb h2, h3⟩

set_option maxRecDepth 100000 in
set_option maxHeartbeats 3200000 in
theorem does_by0 (P : Value) (nn mm : Int) (s t : ByteArray) (A : Option Addr) (m c : Nat) (A2 : Option Addr) (n2 c2 : Nat) (L : List UInt8) (w : World) (B : Nat) (hr : Reads w B A m L) (hB : B ≤ w.heap.size) (hm : m ≤ 100) (hA : A = none → m = 0 ∧ c = 0) (R : Int → World → World → Prop)
    (hM : ∀ W, Still w W → Calls Tryz.prog 19 #[P, .string s] W fun e w' => ∃ E : Int, e = .returned (.int .i64 E) ∧ R E W w') :
    Calls Tryz.prog 7 #[P, .agg #[.int .i64 0, .string s, .string t, .int .i64 nn, .int .i64 mm, .slice A m c, .slice A2 n2 c2]] w fun e w' => ∃ (E : Int) (W : World), Still w W ∧ e = .returned (.tuple #[.slice none 0 0, .int .i64 E, .bool false]) ∧ R E W w' := by
  have CP := Lib.hid (fun W (z : Still w W) => copy_any A m c L W _ (hr.still hB z) (by omega) hA)
  have NO := Lib.hid hM
  obtain ⟨wb, hwb⟩ : ∃ wb, wb = w.alloc (.cells #[.int .i64 0, .string s, .string t, .int .i64 nn, .int .i64 mm, .slice A m c, .slice A2 n2 c2] 36) := ⟨_, rfl⟩
  obtain ⟨g, hg⟩ : ∃ g, g = w.heap.size := ⟨_, rfl⟩
  have SB := Lib.hid (show Still w wb by rw [hwb]; exact (Still.refl _).alloc (Nat.le_refl _) _)
  have BB := Lib.hid (show Blk wb g 36 #[.int .i64 0, .string s, .string t, .int .i64 nn, .int .i64 mm, .slice A m c, .slice A2 n2 c2] by rw [hwb, hg]; exact Blk.new _ _ _)
  have HW := Lib.hid hwb
  have HG := Lib.hid hg
  have HM := Lib.hid hm
  clear hM hr hB hA hwb hg hm
  go_enter Tryz.func7, Tryz.ntmps7
  go_upto_region 1 with (guard_target =~ wpList _ _ _ (Oper.mk _ (Op.box _ _) _ _ _ _ :: _) _ _; go_must (refine wpList_box_arr rfl 36 (.tmp 1) rfl (some 3) rfl #[.int .i64 0, .string s, .string t, .int .i64 nn, .int .i64 mm, .slice A m c, .slice A2 n2 c2] (by kernel_rfl) ?_))
  rw [← HW.out, ← HG.out]
  have b5 : wb.cell? ⟨g, 5, none⟩ = some (.slice A m c) := BB.out.cell 5
  go_wp2_with (first
    | (go_at_call 15; refine (CP.out _ SB.out).mono ?_; rintro e w2 ⟨⟨v2, rfl, own2⟩, s2⟩; clear own2; have SB2 := Lib.hid (SB.out.trans s2); have e0 : w2.cell? ⟨g, 0, none⟩ = some (.int .i64 0) := (BB.out.still s2).cell 0; have e1 : w2.cell? ⟨g, 1, none⟩ = some (.string s) := (BB.out.still s2).cell 1; have e2 : w2.cell? ⟨g, 2, none⟩ = some (.string t) := (BB.out.still s2).cell 2; have e3 : w2.cell? ⟨g, 3, none⟩ = some (.int .i64 nn) := (BB.out.still s2).cell 3; have e4 : w2.cell? ⟨g, 4, none⟩ = some (.int .i64 mm) := (BB.out.still s2).cell 4; have e5 : w2.cell? ⟨g, 5, none⟩ = some (.slice A m c) := (BB.out.still s2).cell 5; have e6 : w2.cell? ⟨g, 6, none⟩ = some (.slice A2 n2 c2) := (BB.out.still s2).cell 6)
    | (go_at_call 19; refine (NO.out _ SB2.out).mono ?_; rintro e w3 ⟨E, rfl, r3⟩; have R3 := Lib.hid r3; clear r3))
  go_ret3
  exact ⟨_, _, SB2.out, rfl, R3.out⟩

set_option maxRecDepth 100000 in
set_option maxHeartbeats 3200000 in
theorem does_by1 (P : Value) (nn mm : Int) (s t : ByteArray) (A : Option Addr) (m c : Nat) (A2 : Option Addr) (n2 c2 : Nat) (L : List UInt8) (w : World) (B : Nat) (hr : Reads w B A m L) (hB : B ≤ w.heap.size) (hm : m ≤ 100) (hA : A = none → m = 0 ∧ c = 0) (R : Int → World → World → Prop)
    (hM : ∀ A3 c3 W, Still w W → W.ownsRow w.heap.size 5 1 (.slice A3 m c3) m (bytesV L) → Calls Tryz.prog 20 #[P, .string s, .slice A3 m c3] W fun e w' => ∃ E : Int, e = .returned (.int .i64 E) ∧ R E W w' ∧ Chg W w' (fun b => b < w.heap.size)) :
    Calls Tryz.prog 7 #[P, .agg #[.int .i64 1, .string s, .string t, .int .i64 nn, .int .i64 mm, .slice A m c, .slice A2 n2 c2]] w fun e w' => ∃ (E : Int) (W w1 : World), Still w W ∧ e = .returned (.tuple #[.slice none 0 0, .int .i64 E, .bool false]) ∧ R E W w1 ∧ Chg w1 w' (fun b => w.heap.size ≤ b ∧ b < W.heap.size) := by
  have CP := Lib.hid (fun W (z : Still w W) => copy_any A m c L W _ (hr.still hB z) (by omega) hA)
  have NO := Lib.hid hM
  obtain ⟨wb, hwb⟩ : ∃ wb, wb = w.alloc (.cells #[.int .i64 1, .string s, .string t, .int .i64 nn, .int .i64 mm, .slice A m c, .slice A2 n2 c2] 36) := ⟨_, rfl⟩
  obtain ⟨g, hg⟩ : ∃ g, g = w.heap.size := ⟨_, rfl⟩
  have SB := Lib.hid (show Still w wb by rw [hwb]; exact (Still.refl _).alloc (Nat.le_refl _) _)
  have BB := Lib.hid (show Blk wb g 36 #[.int .i64 1, .string s, .string t, .int .i64 nn, .int .i64 mm, .slice A m c, .slice A2 n2 c2] by rw [hwb, hg]; exact Blk.new _ _ _)
  have HW := Lib.hid hwb
  have HG := Lib.hid hg
  have HM := Lib.hid hm
  clear hM hr hB hA hwb hg hm
  go_enter Tryz.func7, Tryz.ntmps7
  go_upto_region 1 with (guard_target =~ wpList _ _ _ (Oper.mk _ (Op.box _ _) _ _ _ _ :: _) _ _; go_must (refine wpList_box_arr rfl 36 (.tmp 1) rfl (some 3) rfl #[.int .i64 1, .string s, .string t, .int .i64 nn, .int .i64 mm, .slice A m c, .slice A2 n2 c2] (by kernel_rfl) ?_))
  rw [← HW.out, ← HG.out]
  have b5 : wb.cell? ⟨g, 5, none⟩ = some (.slice A m c) := BB.out.cell 5
  go_wp2_with (first
    | (go_at_call 15; refine (CP.out _ SB.out).mono ?_; rintro e w2 ⟨⟨v2, rfl, own2⟩, s2⟩; obtain ⟨A3, c3, rfl, f1, f2, f3⟩ := own_form own2; have O2 := Lib.hid own2; clear own2; have SB2 := Lib.hid (SB.out.trans s2); have e0 : w2.cell? ⟨g, 0, none⟩ = some (.int .i64 1) := (BB.out.still s2).cell 0; have e1 : w2.cell? ⟨g, 1, none⟩ = some (.string s) := (BB.out.still s2).cell 1; have e2 : w2.cell? ⟨g, 2, none⟩ = some (.string t) := (BB.out.still s2).cell 2; have e3 : w2.cell? ⟨g, 3, none⟩ = some (.int .i64 nn) := (BB.out.still s2).cell 3; have e4 : w2.cell? ⟨g, 4, none⟩ = some (.int .i64 mm) := (BB.out.still s2).cell 4; have e5 : w2.cell? ⟨g, 5, none⟩ = some (.slice A m c) := (BB.out.still s2).cell 5; have e6 : w2.cell? ⟨g, 6, none⟩ = some (.slice A2 n2 c2) := (BB.out.still s2).cell 6)
    | (go_at_call 20; refine (NO.out _ _ _ SB2.out (own_lowM O2.out SB.out.size)).mono ?_; rintro e w3 ⟨E, rfl, r3, c3x⟩; have R3 := Lib.hid r3; have C3 := Lib.hid c3x; clear r3 c3x))
  have BO := Lib.hid (fun h0 => byt_own O2.out h0)
  go_loopw [9] (fun iv wr => ∃ i : Nat, i ≤ m ∧ iv = .int .i64 i ∧ Hid (Chg w3 wr (fun b => w.heap.size ≤ b ∧ b < w2.heap.size) ∧ (0 < m → ∃ gb, A3 = some ⟨gb, 0, none⟩ ∧ w.heap.size ≤ gb ∧ gb < w2.heap.size ∧ Byt wr gb m))) (fun iv _ => m - (intOf iv).toNat)
  case atStart =>
    refine ⟨0, by omega, rfl, Chg.refl _ _, fun h0 => ?_⟩
    obtain ⟨gb, c', hv, hlo, hb⟩ := BO.out h0
    injection hv with hv1 hv2 hv3
    have hlo2 := Nat.le_trans SB.out.size hlo
    exact ⟨gb, hv1, hlo2, hb.lt, hb.keep (C3.out.block gb hb.lt (by omega))⟩
  case round =>
    obtain ⟨i, hi, rfl, hh⟩ := hrel
    have M1 : m ≤ 100 := HM.out
    obtain ⟨z1, z2⟩ := hh.out
    by_cases hlt : i < m
    · obtain ⟨gb, rfl, hlo, hlo2, hb⟩ := z2 (by omega)
      obtain ⟨y, y0, y1, hc, hf⟩ := hb.at_ hlt
      have Z1 := Lib.hid z1
      have HB := Lib.hid hb
      have HL := Lib.hid (And.intro hlo hlo2)
      clear z1 z2 hh hb BO O2 f1 f2 f3
      go_wp2_with fail
      go_roundw
      case rel =>
        refine ⟨i + 1, by omega, by go_num, Z1.out.trans (Chg.of_grown (grownBy_set _ gb i _) (S := fun b => b = gb) (fun k h _ => by simpa using h.symm)) (fun x _ hx => by rw [hx]; exact HL.out), fun _ => ⟨gb, rfl, hlo, hlo2, ?_⟩⟩
        have hu := u8_more y y0 y1
        exact HB.out.set hlt hu.1 hu.2
      case measure => simp [intOf]; omega
    · obtain rfl : i = m := by omega
      have Z1 := Lib.hid z1
      clear z1 z2 hh BO O2
      go_wp2_with fail
      go_ret3
      exact ⟨_, _, _, SB2.out, rfl, R3.out, Z1.out⟩

set_option maxRecDepth 100000 in
set_option maxHeartbeats 3200000 in
theorem does_by2 (P : Value) (nn mm : Int) (s t : ByteArray) (A : Option Addr) (m c : Nat) (A2 : Option Addr) (n2 c2 : Nat) (L : List UInt8) (w : World) (B : Nat) (hr : Reads w B A m L) (hB : B ≤ w.heap.size) (hm : m ≤ 100) (hA : A = none → m = 0 ∧ c = 0) (R : Int → World → World → Prop)
    (hM : ∀ W, Still w W → Calls Tryz.prog 21 #[P, .string s, .int .i64 nn] W fun e w' => ∃ E : Int, e = .returned (.int .i64 E) ∧ R E W w') :
    Calls Tryz.prog 7 #[P, .agg #[.int .i64 2, .string s, .string t, .int .i64 nn, .int .i64 mm, .slice A m c, .slice A2 n2 c2]] w fun e w' => ∃ (E : Int) (W : World), Still w W ∧ e = .returned (.tuple #[.slice none 0 0, .int .i64 E, .bool false]) ∧ R E W w' := by
  have CP := Lib.hid (fun W (z : Still w W) => copy_any A m c L W _ (hr.still hB z) (by omega) hA)
  have NO := Lib.hid hM
  obtain ⟨wb, hwb⟩ : ∃ wb, wb = w.alloc (.cells #[.int .i64 2, .string s, .string t, .int .i64 nn, .int .i64 mm, .slice A m c, .slice A2 n2 c2] 36) := ⟨_, rfl⟩
  obtain ⟨g, hg⟩ : ∃ g, g = w.heap.size := ⟨_, rfl⟩
  have SB := Lib.hid (show Still w wb by rw [hwb]; exact (Still.refl _).alloc (Nat.le_refl _) _)
  have BB := Lib.hid (show Blk wb g 36 #[.int .i64 2, .string s, .string t, .int .i64 nn, .int .i64 mm, .slice A m c, .slice A2 n2 c2] by rw [hwb, hg]; exact Blk.new _ _ _)
  have HW := Lib.hid hwb
  have HG := Lib.hid hg
  have HM := Lib.hid hm
  clear hM hr hB hA hwb hg hm
  go_enter Tryz.func7, Tryz.ntmps7
  go_upto_region 1 with (guard_target =~ wpList _ _ _ (Oper.mk _ (Op.box _ _) _ _ _ _ :: _) _ _; go_must (refine wpList_box_arr rfl 36 (.tmp 1) rfl (some 3) rfl #[.int .i64 2, .string s, .string t, .int .i64 nn, .int .i64 mm, .slice A m c, .slice A2 n2 c2] (by kernel_rfl) ?_))
  rw [← HW.out, ← HG.out]
  have b5 : wb.cell? ⟨g, 5, none⟩ = some (.slice A m c) := BB.out.cell 5
  go_wp2_with (first
    | (go_at_call 15; refine (CP.out _ SB.out).mono ?_; rintro e w2 ⟨⟨v2, rfl, own2⟩, s2⟩; clear own2; have SB2 := Lib.hid (SB.out.trans s2); have e0 : w2.cell? ⟨g, 0, none⟩ = some (.int .i64 2) := (BB.out.still s2).cell 0; have e1 : w2.cell? ⟨g, 1, none⟩ = some (.string s) := (BB.out.still s2).cell 1; have e2 : w2.cell? ⟨g, 2, none⟩ = some (.string t) := (BB.out.still s2).cell 2; have e3 : w2.cell? ⟨g, 3, none⟩ = some (.int .i64 nn) := (BB.out.still s2).cell 3; have e4 : w2.cell? ⟨g, 4, none⟩ = some (.int .i64 mm) := (BB.out.still s2).cell 4; have e5 : w2.cell? ⟨g, 5, none⟩ = some (.slice A m c) := (BB.out.still s2).cell 5; have e6 : w2.cell? ⟨g, 6, none⟩ = some (.slice A2 n2 c2) := (BB.out.still s2).cell 6)
    | (go_at_call 21; refine (NO.out _ SB2.out).mono ?_; rintro e w3 ⟨E, rfl, r3⟩; have R3 := Lib.hid r3; clear r3))
  go_ret3
  exact ⟨_, _, SB2.out, rfl, R3.out⟩

set_option maxRecDepth 100000 in
set_option maxHeartbeats 3200000 in
theorem does_by3 (P : Value) (nn mm : Int) (s t : ByteArray) (A : Option Addr) (m c : Nat) (A2 : Option Addr) (n2 c2 : Nat) (L : List UInt8) (w : World) (B : Nat) (hr : Reads w B A m L) (hB : B ≤ w.heap.size) (hm : m ≤ 100) (hA : A = none → m = 0 ∧ c = 0) (R : Int → World → World → Prop)
    (hM : ∀ W, Still w W → Calls Tryz.prog 22 #[P, .string s, .string t] W fun e w' => ∃ E : Int, e = .returned (.int .i64 E) ∧ R E W w') :
    Calls Tryz.prog 7 #[P, .agg #[.int .i64 3, .string s, .string t, .int .i64 nn, .int .i64 mm, .slice A m c, .slice A2 n2 c2]] w fun e w' => ∃ (E : Int) (W : World), Still w W ∧ e = .returned (.tuple #[.slice none 0 0, .int .i64 E, .bool false]) ∧ R E W w' := by
  have CP := Lib.hid (fun W (z : Still w W) => copy_any A m c L W _ (hr.still hB z) (by omega) hA)
  have NO := Lib.hid hM
  obtain ⟨wb, hwb⟩ : ∃ wb, wb = w.alloc (.cells #[.int .i64 3, .string s, .string t, .int .i64 nn, .int .i64 mm, .slice A m c, .slice A2 n2 c2] 36) := ⟨_, rfl⟩
  obtain ⟨g, hg⟩ : ∃ g, g = w.heap.size := ⟨_, rfl⟩
  have SB := Lib.hid (show Still w wb by rw [hwb]; exact (Still.refl _).alloc (Nat.le_refl _) _)
  have BB := Lib.hid (show Blk wb g 36 #[.int .i64 3, .string s, .string t, .int .i64 nn, .int .i64 mm, .slice A m c, .slice A2 n2 c2] by rw [hwb, hg]; exact Blk.new _ _ _)
  have HW := Lib.hid hwb
  have HG := Lib.hid hg
  have HM := Lib.hid hm
  clear hM hr hB hA hwb hg hm
  go_enter Tryz.func7, Tryz.ntmps7
  go_upto_region 1 with (guard_target =~ wpList _ _ _ (Oper.mk _ (Op.box _ _) _ _ _ _ :: _) _ _; go_must (refine wpList_box_arr rfl 36 (.tmp 1) rfl (some 3) rfl #[.int .i64 3, .string s, .string t, .int .i64 nn, .int .i64 mm, .slice A m c, .slice A2 n2 c2] (by kernel_rfl) ?_))
  rw [← HW.out, ← HG.out]
  have b5 : wb.cell? ⟨g, 5, none⟩ = some (.slice A m c) := BB.out.cell 5
  go_wp2_with (first
    | (go_at_call 15; refine (CP.out _ SB.out).mono ?_; rintro e w2 ⟨⟨v2, rfl, own2⟩, s2⟩; clear own2; have SB2 := Lib.hid (SB.out.trans s2); have e0 : w2.cell? ⟨g, 0, none⟩ = some (.int .i64 3) := (BB.out.still s2).cell 0; have e1 : w2.cell? ⟨g, 1, none⟩ = some (.string s) := (BB.out.still s2).cell 1; have e2 : w2.cell? ⟨g, 2, none⟩ = some (.string t) := (BB.out.still s2).cell 2; have e3 : w2.cell? ⟨g, 3, none⟩ = some (.int .i64 nn) := (BB.out.still s2).cell 3; have e4 : w2.cell? ⟨g, 4, none⟩ = some (.int .i64 mm) := (BB.out.still s2).cell 4; have e5 : w2.cell? ⟨g, 5, none⟩ = some (.slice A m c) := (BB.out.still s2).cell 5; have e6 : w2.cell? ⟨g, 6, none⟩ = some (.slice A2 n2 c2) := (BB.out.still s2).cell 6)
    | (go_at_call 22; refine (NO.out _ SB2.out).mono ?_; rintro e w3 ⟨E, rfl, r3⟩; have R3 := Lib.hid r3; clear r3))
  go_ret3
  exact ⟨_, _, SB2.out, rfl, R3.out⟩

set_option maxRecDepth 100000 in
set_option maxHeartbeats 3200000 in
theorem does_by4 (P : Value) (nn mm : Int) (s t : ByteArray) (A : Option Addr) (m c : Nat) (A2 : Option Addr) (n2 c2 : Nat) (L : List UInt8) (w : World) (B : Nat) (hr : Reads w B A m L) (hB : B ≤ w.heap.size) (hm : m ≤ 100) (hA : A = none → m = 0 ∧ c = 0) (R : Int → World → World → Prop)
    (hM : ∀ W, Still w W → Calls Tryz.prog 23 #[P, .string s] W fun e w' => ∃ E : Int, e = .returned (.int .i64 E) ∧ R E W w') :
    Calls Tryz.prog 7 #[P, .agg #[.int .i64 4, .string s, .string t, .int .i64 nn, .int .i64 mm, .slice A m c, .slice A2 n2 c2]] w fun e w' => ∃ (E : Int) (W : World), Still w W ∧ e = .returned (.tuple #[.slice none 0 0, .int .i64 E, .bool false]) ∧ R E W w' := by
  have CP := Lib.hid (fun W (z : Still w W) => copy_any A m c L W _ (hr.still hB z) (by omega) hA)
  have NO := Lib.hid hM
  obtain ⟨wb, hwb⟩ : ∃ wb, wb = w.alloc (.cells #[.int .i64 4, .string s, .string t, .int .i64 nn, .int .i64 mm, .slice A m c, .slice A2 n2 c2] 36) := ⟨_, rfl⟩
  obtain ⟨g, hg⟩ : ∃ g, g = w.heap.size := ⟨_, rfl⟩
  have SB := Lib.hid (show Still w wb by rw [hwb]; exact (Still.refl _).alloc (Nat.le_refl _) _)
  have BB := Lib.hid (show Blk wb g 36 #[.int .i64 4, .string s, .string t, .int .i64 nn, .int .i64 mm, .slice A m c, .slice A2 n2 c2] by rw [hwb, hg]; exact Blk.new _ _ _)
  have HW := Lib.hid hwb
  have HG := Lib.hid hg
  have HM := Lib.hid hm
  clear hM hr hB hA hwb hg hm
  go_enter Tryz.func7, Tryz.ntmps7
  go_upto_region 1 with (guard_target =~ wpList _ _ _ (Oper.mk _ (Op.box _ _) _ _ _ _ :: _) _ _; go_must (refine wpList_box_arr rfl 36 (.tmp 1) rfl (some 3) rfl #[.int .i64 4, .string s, .string t, .int .i64 nn, .int .i64 mm, .slice A m c, .slice A2 n2 c2] (by kernel_rfl) ?_))
  rw [← HW.out, ← HG.out]
  have b5 : wb.cell? ⟨g, 5, none⟩ = some (.slice A m c) := BB.out.cell 5
  go_wp2_with (first
    | (go_at_call 15; refine (CP.out _ SB.out).mono ?_; rintro e w2 ⟨⟨v2, rfl, own2⟩, s2⟩; clear own2; have SB2 := Lib.hid (SB.out.trans s2); have e0 : w2.cell? ⟨g, 0, none⟩ = some (.int .i64 4) := (BB.out.still s2).cell 0; have e1 : w2.cell? ⟨g, 1, none⟩ = some (.string s) := (BB.out.still s2).cell 1; have e2 : w2.cell? ⟨g, 2, none⟩ = some (.string t) := (BB.out.still s2).cell 2; have e3 : w2.cell? ⟨g, 3, none⟩ = some (.int .i64 nn) := (BB.out.still s2).cell 3; have e4 : w2.cell? ⟨g, 4, none⟩ = some (.int .i64 mm) := (BB.out.still s2).cell 4; have e5 : w2.cell? ⟨g, 5, none⟩ = some (.slice A m c) := (BB.out.still s2).cell 5; have e6 : w2.cell? ⟨g, 6, none⟩ = some (.slice A2 n2 c2) := (BB.out.still s2).cell 6)
    | (go_at_call 23; refine (NO.out _ SB2.out).mono ?_; rintro e w3 ⟨E, rfl, r3⟩; have R3 := Lib.hid r3; clear r3))
  go_ret3
  exact ⟨_, _, SB2.out, rfl, R3.out⟩

set_option maxRecDepth 100000 in
set_option maxHeartbeats 3200000 in
theorem does_by5 (P : Value) (nn mm : Int) (s t : ByteArray) (A : Option Addr) (m c : Nat) (A2 : Option Addr) (n2 c2 : Nat) (L : List UInt8) (w : World) (B : Nat) (hr : Reads w B A m L) (hB : B ≤ w.heap.size) (hm : m ≤ 100) (hA : A = none → m = 0 ∧ c = 0) (R : Int → World → World → Prop)
    (hM : ∀ W, Still w W → Calls Tryz.prog 24 #[P, .string s] W fun e w' => ∃ E : Int, e = .returned (.int .i64 E) ∧ R E W w') :
    Calls Tryz.prog 7 #[P, .agg #[.int .i64 5, .string s, .string t, .int .i64 nn, .int .i64 mm, .slice A m c, .slice A2 n2 c2]] w fun e w' => ∃ (E : Int) (W : World), Still w W ∧ e = .returned (.tuple #[.slice none 0 0, .int .i64 E, .bool false]) ∧ R E W w' := by
  have CP := Lib.hid (fun W (z : Still w W) => copy_any A m c L W _ (hr.still hB z) (by omega) hA)
  have NO := Lib.hid hM
  obtain ⟨wb, hwb⟩ : ∃ wb, wb = w.alloc (.cells #[.int .i64 5, .string s, .string t, .int .i64 nn, .int .i64 mm, .slice A m c, .slice A2 n2 c2] 36) := ⟨_, rfl⟩
  obtain ⟨g, hg⟩ : ∃ g, g = w.heap.size := ⟨_, rfl⟩
  have SB := Lib.hid (show Still w wb by rw [hwb]; exact (Still.refl _).alloc (Nat.le_refl _) _)
  have BB := Lib.hid (show Blk wb g 36 #[.int .i64 5, .string s, .string t, .int .i64 nn, .int .i64 mm, .slice A m c, .slice A2 n2 c2] by rw [hwb, hg]; exact Blk.new _ _ _)
  have HW := Lib.hid hwb
  have HG := Lib.hid hg
  have HM := Lib.hid hm
  clear hM hr hB hA hwb hg hm
  go_enter Tryz.func7, Tryz.ntmps7
  go_upto_region 1 with (guard_target =~ wpList _ _ _ (Oper.mk _ (Op.box _ _) _ _ _ _ :: _) _ _; go_must (refine wpList_box_arr rfl 36 (.tmp 1) rfl (some 3) rfl #[.int .i64 5, .string s, .string t, .int .i64 nn, .int .i64 mm, .slice A m c, .slice A2 n2 c2] (by kernel_rfl) ?_))
  rw [← HW.out, ← HG.out]
  have b5 : wb.cell? ⟨g, 5, none⟩ = some (.slice A m c) := BB.out.cell 5
  go_wp2_with (first
    | (go_at_call 15; refine (CP.out _ SB.out).mono ?_; rintro e w2 ⟨⟨v2, rfl, own2⟩, s2⟩; clear own2; have SB2 := Lib.hid (SB.out.trans s2); have e0 : w2.cell? ⟨g, 0, none⟩ = some (.int .i64 5) := (BB.out.still s2).cell 0; have e1 : w2.cell? ⟨g, 1, none⟩ = some (.string s) := (BB.out.still s2).cell 1; have e2 : w2.cell? ⟨g, 2, none⟩ = some (.string t) := (BB.out.still s2).cell 2; have e3 : w2.cell? ⟨g, 3, none⟩ = some (.int .i64 nn) := (BB.out.still s2).cell 3; have e4 : w2.cell? ⟨g, 4, none⟩ = some (.int .i64 mm) := (BB.out.still s2).cell 4; have e5 : w2.cell? ⟨g, 5, none⟩ = some (.slice A m c) := (BB.out.still s2).cell 5; have e6 : w2.cell? ⟨g, 6, none⟩ = some (.slice A2 n2 c2) := (BB.out.still s2).cell 6)
    | (go_at_call 24; refine (NO.out _ SB2.out).mono ?_; rintro e w3 ⟨E, rfl, r3⟩; have R3 := Lib.hid r3; clear r3))
  go_ret3
  exact ⟨_, _, SB2.out, rfl, R3.out⟩

set_option maxRecDepth 100000 in
set_option maxHeartbeats 3200000 in
theorem does_by6 (P : Value) (nn mm : Int) (s t : ByteArray) (A : Option Addr) (m c : Nat) (A2 : Option Addr) (n2 c2 : Nat) (L : List UInt8) (w : World) (B : Nat) (hr : Reads w B A m L) (hB : B ≤ w.heap.size) (hm : m ≤ 100) (hA : A = none → m = 0 ∧ c = 0) (R : Int → World → World → Prop)
    (hM : ∀ W, Still w W → Calls Tryz.prog 25 #[P] W fun e w' => ∃ E : Int, e = .returned (.int .i64 E) ∧ R E W w') :
    Calls Tryz.prog 7 #[P, .agg #[.int .i64 6, .string s, .string t, .int .i64 nn, .int .i64 mm, .slice A m c, .slice A2 n2 c2]] w fun e w' => ∃ (E : Int) (W : World), Still w W ∧ e = .returned (.tuple #[.slice none 0 0, .int .i64 E, .bool false]) ∧ R E W w' := by
  have CP := Lib.hid (fun W (z : Still w W) => copy_any A m c L W _ (hr.still hB z) (by omega) hA)
  have NO := Lib.hid hM
  obtain ⟨wb, hwb⟩ : ∃ wb, wb = w.alloc (.cells #[.int .i64 6, .string s, .string t, .int .i64 nn, .int .i64 mm, .slice A m c, .slice A2 n2 c2] 36) := ⟨_, rfl⟩
  obtain ⟨g, hg⟩ : ∃ g, g = w.heap.size := ⟨_, rfl⟩
  have SB := Lib.hid (show Still w wb by rw [hwb]; exact (Still.refl _).alloc (Nat.le_refl _) _)
  have BB := Lib.hid (show Blk wb g 36 #[.int .i64 6, .string s, .string t, .int .i64 nn, .int .i64 mm, .slice A m c, .slice A2 n2 c2] by rw [hwb, hg]; exact Blk.new _ _ _)
  have HW := Lib.hid hwb
  have HG := Lib.hid hg
  have HM := Lib.hid hm
  clear hM hr hB hA hwb hg hm
  go_enter Tryz.func7, Tryz.ntmps7
  go_upto_region 1 with (guard_target =~ wpList _ _ _ (Oper.mk _ (Op.box _ _) _ _ _ _ :: _) _ _; go_must (refine wpList_box_arr rfl 36 (.tmp 1) rfl (some 3) rfl #[.int .i64 6, .string s, .string t, .int .i64 nn, .int .i64 mm, .slice A m c, .slice A2 n2 c2] (by kernel_rfl) ?_))
  rw [← HW.out, ← HG.out]
  have b5 : wb.cell? ⟨g, 5, none⟩ = some (.slice A m c) := BB.out.cell 5
  go_wp2_with (first
    | (go_at_call 15; refine (CP.out _ SB.out).mono ?_; rintro e w2 ⟨⟨v2, rfl, own2⟩, s2⟩; clear own2; have SB2 := Lib.hid (SB.out.trans s2); have e0 : w2.cell? ⟨g, 0, none⟩ = some (.int .i64 6) := (BB.out.still s2).cell 0; have e1 : w2.cell? ⟨g, 1, none⟩ = some (.string s) := (BB.out.still s2).cell 1; have e2 : w2.cell? ⟨g, 2, none⟩ = some (.string t) := (BB.out.still s2).cell 2; have e3 : w2.cell? ⟨g, 3, none⟩ = some (.int .i64 nn) := (BB.out.still s2).cell 3; have e4 : w2.cell? ⟨g, 4, none⟩ = some (.int .i64 mm) := (BB.out.still s2).cell 4; have e5 : w2.cell? ⟨g, 5, none⟩ = some (.slice A m c) := (BB.out.still s2).cell 5; have e6 : w2.cell? ⟨g, 6, none⟩ = some (.slice A2 n2 c2) := (BB.out.still s2).cell 6)
    | (go_at_call 25; refine (NO.out _ SB2.out).mono ?_; rintro e w3 ⟨E, rfl, r3⟩; have R3 := Lib.hid r3; clear r3))
  go_ret3
  exact ⟨_, _, SB2.out, rfl, R3.out⟩

set_option maxRecDepth 100000 in
set_option maxHeartbeats 3200000 in
theorem does_by7 (P : Value) (nn mm : Int) (s t : ByteArray) (A : Option Addr) (m c : Nat) (A2 : Option Addr) (n2 c2 : Nat) (L : List UInt8) (w : World) (B : Nat) (hr : Reads w B A m L) (hB : B ≤ w.heap.size) (hm : m ≤ 100) (hA : A = none → m = 0 ∧ c = 0) (R : Int → World → World → Prop)
    (hM : ∀ W, Still w W → Calls Tryz.prog 26 #[P, .int .i64 nn] W fun e w' => ∃ E : Int, e = .returned (.int .i64 E) ∧ R E W w') :
    Calls Tryz.prog 7 #[P, .agg #[.int .i64 7, .string s, .string t, .int .i64 nn, .int .i64 mm, .slice A m c, .slice A2 n2 c2]] w fun e w' => ∃ (E : Int) (W : World), Still w W ∧ e = .returned (.tuple #[.slice none 0 0, .int .i64 E, .bool false]) ∧ R E W w' := by
  have CP := Lib.hid (fun W (z : Still w W) => copy_any A m c L W _ (hr.still hB z) (by omega) hA)
  have NO := Lib.hid hM
  obtain ⟨wb, hwb⟩ : ∃ wb, wb = w.alloc (.cells #[.int .i64 7, .string s, .string t, .int .i64 nn, .int .i64 mm, .slice A m c, .slice A2 n2 c2] 36) := ⟨_, rfl⟩
  obtain ⟨g, hg⟩ : ∃ g, g = w.heap.size := ⟨_, rfl⟩
  have SB := Lib.hid (show Still w wb by rw [hwb]; exact (Still.refl _).alloc (Nat.le_refl _) _)
  have BB := Lib.hid (show Blk wb g 36 #[.int .i64 7, .string s, .string t, .int .i64 nn, .int .i64 mm, .slice A m c, .slice A2 n2 c2] by rw [hwb, hg]; exact Blk.new _ _ _)
  have HW := Lib.hid hwb
  have HG := Lib.hid hg
  have HM := Lib.hid hm
  clear hM hr hB hA hwb hg hm
  go_enter Tryz.func7, Tryz.ntmps7
  go_upto_region 1 with (guard_target =~ wpList _ _ _ (Oper.mk _ (Op.box _ _) _ _ _ _ :: _) _ _; go_must (refine wpList_box_arr rfl 36 (.tmp 1) rfl (some 3) rfl #[.int .i64 7, .string s, .string t, .int .i64 nn, .int .i64 mm, .slice A m c, .slice A2 n2 c2] (by kernel_rfl) ?_))
  rw [← HW.out, ← HG.out]
  have b5 : wb.cell? ⟨g, 5, none⟩ = some (.slice A m c) := BB.out.cell 5
  go_wp2_with (first
    | (go_at_call 15; refine (CP.out _ SB.out).mono ?_; rintro e w2 ⟨⟨v2, rfl, own2⟩, s2⟩; clear own2; have SB2 := Lib.hid (SB.out.trans s2); have e0 : w2.cell? ⟨g, 0, none⟩ = some (.int .i64 7) := (BB.out.still s2).cell 0; have e1 : w2.cell? ⟨g, 1, none⟩ = some (.string s) := (BB.out.still s2).cell 1; have e2 : w2.cell? ⟨g, 2, none⟩ = some (.string t) := (BB.out.still s2).cell 2; have e3 : w2.cell? ⟨g, 3, none⟩ = some (.int .i64 nn) := (BB.out.still s2).cell 3; have e4 : w2.cell? ⟨g, 4, none⟩ = some (.int .i64 mm) := (BB.out.still s2).cell 4; have e5 : w2.cell? ⟨g, 5, none⟩ = some (.slice A m c) := (BB.out.still s2).cell 5; have e6 : w2.cell? ⟨g, 6, none⟩ = some (.slice A2 n2 c2) := (BB.out.still s2).cell 6)
    | (go_at_call 26; refine (NO.out _ SB2.out).mono ?_; rintro e w3 ⟨E, rfl, r3⟩; have R3 := Lib.hid r3; clear r3))
  go_ret3
  exact ⟨_, _, SB2.out, rfl, R3.out⟩

set_option maxRecDepth 100000 in
set_option maxHeartbeats 3200000 in
theorem does_by8 (P : Value) (nn mm : Int) (s t : ByteArray) (A : Option Addr) (m c : Nat) (A2 : Option Addr) (n2 c2 : Nat) (L : List UInt8) (w : World) (B : Nat) (hr : Reads w B A m L) (hB : B ≤ w.heap.size) (hm : m ≤ 100) (hA : A = none → m = 0 ∧ c = 0) (R : World → World → Prop)
    (hM : ∀ W, Still w W → Calls Tryz.prog 27 #[P, .slice A2 n2 c2] W fun e w' => e = .returned (.tuple #[]) ∧ R W w') :
    Calls Tryz.prog 7 #[P, .agg #[.int .i64 8, .string s, .string t, .int .i64 nn, .int .i64 mm, .slice A m c, .slice A2 n2 c2]] w fun e w' => ∃ W, Still w W ∧ e = .returned (.tuple #[.slice none 0 0, .int .i64 0, .bool false]) ∧ R W w' := by
  have CP := Lib.hid (fun W (z : Still w W) => copy_any A m c L W _ (hr.still hB z) (by omega) hA)
  have NO := Lib.hid hM
  obtain ⟨wb, hwb⟩ : ∃ wb, wb = w.alloc (.cells #[.int .i64 8, .string s, .string t, .int .i64 nn, .int .i64 mm, .slice A m c, .slice A2 n2 c2] 36) := ⟨_, rfl⟩
  obtain ⟨g, hg⟩ : ∃ g, g = w.heap.size := ⟨_, rfl⟩
  have SB := Lib.hid (show Still w wb by rw [hwb]; exact (Still.refl _).alloc (Nat.le_refl _) _)
  have BB := Lib.hid (show Blk wb g 36 #[.int .i64 8, .string s, .string t, .int .i64 nn, .int .i64 mm, .slice A m c, .slice A2 n2 c2] by rw [hwb, hg]; exact Blk.new _ _ _)
  have HW := Lib.hid hwb
  have HG := Lib.hid hg
  have HM := Lib.hid hm
  clear hM hr hB hA hwb hg hm
  go_enter Tryz.func7, Tryz.ntmps7
  go_upto_region 1 with (guard_target =~ wpList _ _ _ (Oper.mk _ (Op.box _ _) _ _ _ _ :: _) _ _; go_must (refine wpList_box_arr rfl 36 (.tmp 1) rfl (some 3) rfl #[.int .i64 8, .string s, .string t, .int .i64 nn, .int .i64 mm, .slice A m c, .slice A2 n2 c2] (by kernel_rfl) ?_))
  rw [← HW.out, ← HG.out]
  have b5 : wb.cell? ⟨g, 5, none⟩ = some (.slice A m c) := BB.out.cell 5
  go_wp2_with (first
    | (go_at_call 15; refine (CP.out _ SB.out).mono ?_; rintro e w2 ⟨⟨v2, rfl, own2⟩, s2⟩; clear own2; have SB2 := Lib.hid (SB.out.trans s2); have e0 : w2.cell? ⟨g, 0, none⟩ = some (.int .i64 8) := (BB.out.still s2).cell 0; have e1 : w2.cell? ⟨g, 1, none⟩ = some (.string s) := (BB.out.still s2).cell 1; have e2 : w2.cell? ⟨g, 2, none⟩ = some (.string t) := (BB.out.still s2).cell 2; have e3 : w2.cell? ⟨g, 3, none⟩ = some (.int .i64 nn) := (BB.out.still s2).cell 3; have e4 : w2.cell? ⟨g, 4, none⟩ = some (.int .i64 mm) := (BB.out.still s2).cell 4; have e5 : w2.cell? ⟨g, 5, none⟩ = some (.slice A m c) := (BB.out.still s2).cell 5; have e6 : w2.cell? ⟨g, 6, none⟩ = some (.slice A2 n2 c2) := (BB.out.still s2).cell 6)
    | (go_at_call 27; refine (NO.out _ SB2.out).mono ?_; rintro e w3 ⟨rfl, r3⟩; have R3 := Lib.hid r3; clear r3))
  go_ret3
  exact ⟨_, SB2.out, rfl, R3.out⟩

set_option maxRecDepth 100000 in
set_option maxHeartbeats 3200000 in
theorem does_by9 (P : Value) (nn mm : Int) (s t : ByteArray) (A : Option Addr) (m c : Nat) (A2 : Option Addr) (n2 c2 : Nat) (L : List UInt8) (w : World) (B : Nat) (hr : Reads w B A m L) (hB : B ≤ w.heap.size) (hm : m ≤ 100) (hA : A = none → m = 0 ∧ c = 0) (R : Int → World → World → Prop)
    (hM : ∀ W, Still w W → Calls Tryz.prog 28 #[P, .int .i64 nn] W fun e w' => ∃ E : Int, e = .returned (.int .i64 E) ∧ R E W w') :
    Calls Tryz.prog 7 #[P, .agg #[.int .i64 9, .string s, .string t, .int .i64 nn, .int .i64 mm, .slice A m c, .slice A2 n2 c2]] w fun e w' => ∃ (E : Int) (W : World), Still w W ∧ e = .returned (.tuple #[.slice none 0 0, .int .i64 E, .bool false]) ∧ R E W w' := by
  have CP := Lib.hid (fun W (z : Still w W) => copy_any A m c L W _ (hr.still hB z) (by omega) hA)
  have NO := Lib.hid hM
  obtain ⟨wb, hwb⟩ : ∃ wb, wb = w.alloc (.cells #[.int .i64 9, .string s, .string t, .int .i64 nn, .int .i64 mm, .slice A m c, .slice A2 n2 c2] 36) := ⟨_, rfl⟩
  obtain ⟨g, hg⟩ : ∃ g, g = w.heap.size := ⟨_, rfl⟩
  have SB := Lib.hid (show Still w wb by rw [hwb]; exact (Still.refl _).alloc (Nat.le_refl _) _)
  have BB := Lib.hid (show Blk wb g 36 #[.int .i64 9, .string s, .string t, .int .i64 nn, .int .i64 mm, .slice A m c, .slice A2 n2 c2] by rw [hwb, hg]; exact Blk.new _ _ _)
  have HW := Lib.hid hwb
  have HG := Lib.hid hg
  have HM := Lib.hid hm
  clear hM hr hB hA hwb hg hm
  go_enter Tryz.func7, Tryz.ntmps7
  go_upto_region 1 with (guard_target =~ wpList _ _ _ (Oper.mk _ (Op.box _ _) _ _ _ _ :: _) _ _; go_must (refine wpList_box_arr rfl 36 (.tmp 1) rfl (some 3) rfl #[.int .i64 9, .string s, .string t, .int .i64 nn, .int .i64 mm, .slice A m c, .slice A2 n2 c2] (by kernel_rfl) ?_))
  rw [← HW.out, ← HG.out]
  have b5 : wb.cell? ⟨g, 5, none⟩ = some (.slice A m c) := BB.out.cell 5
  go_wp2_with (first
    | (go_at_call 15; refine (CP.out _ SB.out).mono ?_; rintro e w2 ⟨⟨v2, rfl, own2⟩, s2⟩; clear own2; have SB2 := Lib.hid (SB.out.trans s2); have e0 : w2.cell? ⟨g, 0, none⟩ = some (.int .i64 9) := (BB.out.still s2).cell 0; have e1 : w2.cell? ⟨g, 1, none⟩ = some (.string s) := (BB.out.still s2).cell 1; have e2 : w2.cell? ⟨g, 2, none⟩ = some (.string t) := (BB.out.still s2).cell 2; have e3 : w2.cell? ⟨g, 3, none⟩ = some (.int .i64 nn) := (BB.out.still s2).cell 3; have e4 : w2.cell? ⟨g, 4, none⟩ = some (.int .i64 mm) := (BB.out.still s2).cell 4; have e5 : w2.cell? ⟨g, 5, none⟩ = some (.slice A m c) := (BB.out.still s2).cell 5; have e6 : w2.cell? ⟨g, 6, none⟩ = some (.slice A2 n2 c2) := (BB.out.still s2).cell 6)
    | (go_at_call 28; refine (NO.out _ SB2.out).mono ?_; rintro e w3 ⟨E, rfl, r3⟩; have R3 := Lib.hid r3; clear r3))
  go_ret3
  exact ⟨_, _, SB2.out, rfl, R3.out⟩

set_option maxRecDepth 100000 in
set_option maxHeartbeats 3200000 in
theorem does_by10 (P : Value) (nn mm : Int) (s t : ByteArray) (A : Option Addr) (m c : Nat) (A2 : Option Addr) (n2 c2 : Nat) (L : List UInt8) (w : World) (B : Nat) (hr : Reads w B A m L) (hB : B ≤ w.heap.size) (hm : m ≤ 100) (hA : A = none → m = 0 ∧ c = 0) (R : Bool → World → World → Prop)
    (hM : ∀ W, Still w W → Calls Tryz.prog 29 #[P, .string s, .int .i64 nn, .int .u8 (IntKind.u8.wrap mm)] W fun e w' => ∃ E : Bool, e = .returned (.bool E) ∧ R E W w') :
    Calls Tryz.prog 7 #[P, .agg #[.int .i64 10, .string s, .string t, .int .i64 nn, .int .i64 mm, .slice A m c, .slice A2 n2 c2]] w fun e w' => ∃ (E : Bool) (W : World), Still w W ∧ e = .returned (.tuple #[.slice none 0 0, .int .i64 0, .bool E]) ∧ R E W w' := by
  have CP := Lib.hid (fun W (z : Still w W) => copy_any A m c L W _ (hr.still hB z) (by omega) hA)
  have NO := Lib.hid hM
  obtain ⟨wb, hwb⟩ : ∃ wb, wb = w.alloc (.cells #[.int .i64 10, .string s, .string t, .int .i64 nn, .int .i64 mm, .slice A m c, .slice A2 n2 c2] 36) := ⟨_, rfl⟩
  obtain ⟨g, hg⟩ : ∃ g, g = w.heap.size := ⟨_, rfl⟩
  have SB := Lib.hid (show Still w wb by rw [hwb]; exact (Still.refl _).alloc (Nat.le_refl _) _)
  have BB := Lib.hid (show Blk wb g 36 #[.int .i64 10, .string s, .string t, .int .i64 nn, .int .i64 mm, .slice A m c, .slice A2 n2 c2] by rw [hwb, hg]; exact Blk.new _ _ _)
  have HW := Lib.hid hwb
  have HG := Lib.hid hg
  have HM := Lib.hid hm
  clear hM hr hB hA hwb hg hm
  go_enter Tryz.func7, Tryz.ntmps7
  go_upto_region 1 with (guard_target =~ wpList _ _ _ (Oper.mk _ (Op.box _ _) _ _ _ _ :: _) _ _; go_must (refine wpList_box_arr rfl 36 (.tmp 1) rfl (some 3) rfl #[.int .i64 10, .string s, .string t, .int .i64 nn, .int .i64 mm, .slice A m c, .slice A2 n2 c2] (by kernel_rfl) ?_))
  rw [← HW.out, ← HG.out]
  have b5 : wb.cell? ⟨g, 5, none⟩ = some (.slice A m c) := BB.out.cell 5
  go_wp2_with (first
    | (go_at_call 15; refine (CP.out _ SB.out).mono ?_; rintro e w2 ⟨⟨v2, rfl, own2⟩, s2⟩; clear own2; have SB2 := Lib.hid (SB.out.trans s2); have e0 : w2.cell? ⟨g, 0, none⟩ = some (.int .i64 10) := (BB.out.still s2).cell 0; have e1 : w2.cell? ⟨g, 1, none⟩ = some (.string s) := (BB.out.still s2).cell 1; have e2 : w2.cell? ⟨g, 2, none⟩ = some (.string t) := (BB.out.still s2).cell 2; have e3 : w2.cell? ⟨g, 3, none⟩ = some (.int .i64 nn) := (BB.out.still s2).cell 3; have e4 : w2.cell? ⟨g, 4, none⟩ = some (.int .i64 mm) := (BB.out.still s2).cell 4; have e5 : w2.cell? ⟨g, 5, none⟩ = some (.slice A m c) := (BB.out.still s2).cell 5; have e6 : w2.cell? ⟨g, 6, none⟩ = some (.slice A2 n2 c2) := (BB.out.still s2).cell 6)
    | (go_at_call 29; refine (NO.out _ SB2.out).mono ?_; rintro e w3 ⟨E, rfl, r3⟩; have R3 := Lib.hid r3; clear r3))
  go_ret3
  exact ⟨_, _, SB2.out, rfl, R3.out⟩

set_option maxRecDepth 100000 in
set_option maxHeartbeats 3200000 in
theorem does_byR (P : Value) (k : Int) (hk : ¬ k = 0 ∧ ¬ k = 1 ∧ ¬ k = 2 ∧ ¬ k = 3 ∧ ¬ k = 4 ∧ ¬ k = 5 ∧ ¬ k = 6 ∧ ¬ k = 7 ∧ ¬ k = 8 ∧ ¬ k = 9 ∧ ¬ k = 10) (nn mm : Int) (s t : ByteArray) (A : Option Addr) (m c : Nat) (A2 : Option Addr) (n2 c2 : Nat) (L : List UInt8) (w : World) (B : Nat) (hr : Reads w B A m L) (hB : B ≤ w.heap.size) (hm : m ≤ 100) (hA : A = none → m = 0 ∧ c = 0) (R : Nat → Value → Int → World → World → Prop)
    (hM : ∀ W, Still w W → Calls Tryz.prog 30 #[P, .string s, .int .i64 nn, .int .i64 mm] W fun e w' => ∃ (q : Nat) (Av : Option Addr) (cv : Nat) (E : Int), e = .returned (.tuple #[.slice Av q cv, .int .i64 E]) ∧ R q (.slice Av q cv) E W w') :
    Calls Tryz.prog 7 #[P, .agg #[.int .i64 k, .string s, .string t, .int .i64 nn, .int .i64 mm, .slice A m c, .slice A2 n2 c2]] w fun e w' => ∃ (q : Nat) (Av : Option Addr) (cv : Nat) (E : Int) (W : World), Still w W ∧ e = .returned (.tuple #[.slice Av q cv, .int .i64 E, .bool false]) ∧ R q (.slice Av q cv) E W w' := by
  have CP := Lib.hid (fun W (z : Still w W) => copy_any A m c L W _ (hr.still hB z) (by omega) hA)
  have NO := Lib.hid hM
  obtain ⟨wb, hwb⟩ : ∃ wb, wb = w.alloc (.cells #[.int .i64 k, .string s, .string t, .int .i64 nn, .int .i64 mm, .slice A m c, .slice A2 n2 c2] 36) := ⟨_, rfl⟩
  obtain ⟨g, hg⟩ : ∃ g, g = w.heap.size := ⟨_, rfl⟩
  have SB := Lib.hid (show Still w wb by rw [hwb]; exact (Still.refl _).alloc (Nat.le_refl _) _)
  have BB := Lib.hid (show Blk wb g 36 #[.int .i64 k, .string s, .string t, .int .i64 nn, .int .i64 mm, .slice A m c, .slice A2 n2 c2] by rw [hwb, hg]; exact Blk.new _ _ _)
  have HW := Lib.hid hwb
  have HG := Lib.hid hg
  have HM := Lib.hid hm
  clear hM hr hB hA hwb hg hm
  obtain ⟨k0, k1, k2, k3, k4, k5, k6, k7, k8, k9, k10⟩ := hk
  go_enter Tryz.func7, Tryz.ntmps7
  go_upto_region 1 with (guard_target =~ wpList _ _ _ (Oper.mk _ (Op.box _ _) _ _ _ _ :: _) _ _; go_must (refine wpList_box_arr rfl 36 (.tmp 1) rfl (some 3) rfl #[.int .i64 k, .string s, .string t, .int .i64 nn, .int .i64 mm, .slice A m c, .slice A2 n2 c2] (by kernel_rfl) ?_))
  rw [← HW.out, ← HG.out]
  have b5 : wb.cell? ⟨g, 5, none⟩ = some (.slice A m c) := BB.out.cell 5
  go_wp2_with (first
    | (go_at_call 15; refine (CP.out _ SB.out).mono ?_; rintro e w2 ⟨⟨v2, rfl, own2⟩, s2⟩; clear own2; have SB2 := Lib.hid (SB.out.trans s2); have e0 : w2.cell? ⟨g, 0, none⟩ = some (.int .i64 k) := (BB.out.still s2).cell 0; have e1 : w2.cell? ⟨g, 1, none⟩ = some (.string s) := (BB.out.still s2).cell 1; have e2 : w2.cell? ⟨g, 2, none⟩ = some (.string t) := (BB.out.still s2).cell 2; have e3 : w2.cell? ⟨g, 3, none⟩ = some (.int .i64 nn) := (BB.out.still s2).cell 3; have e4 : w2.cell? ⟨g, 4, none⟩ = some (.int .i64 mm) := (BB.out.still s2).cell 4; have e5 : w2.cell? ⟨g, 5, none⟩ = some (.slice A m c) := (BB.out.still s2).cell 5; have e6 : w2.cell? ⟨g, 6, none⟩ = some (.slice A2 n2 c2) := (BB.out.still s2).cell 6)
    | (go_at_call 30; refine (NO.out _ SB2.out).mono ?_; rintro e w3 ⟨q, Av, cv, E, rfl, r3⟩; have R3 := Lib.hid r3; clear r3))
  go_ret3
  exact ⟨_, _, _, _, _, SB2.out, rfl, R3.out⟩
end Go.Proofs.YtljacdbdjacbkaaGreat
