/- The walk of PackNumbers: it returns true, and nothing that was there turns. -/
import Derived.Test.YtomhpnomcciniaaDoorPackDecInt
namespace Go.Proofs.YtomhpnomcciniaaDoor
open Go.RowKit
set_option linter.unusedVariables false
set_option linter.unusedSimpArgs false

/-- How many bytes a number takes behind its tag. -/
def th (x : Nat) : Nat := if x < 256 then 1 else if x < 65536 then 2 else if x < 4294967296 then 4 else 8
theorem th_mono (x y : Nat) (h : x ≤ y) : th x ≤ th y := by
  unfold th
  by_cases a1 : x < 256
  · rw [if_pos a1]; split <;> (try split) <;> (try split) <;> omega
  · rw [if_neg a1, if_neg (show ¬ y < 256 by omega)]
    by_cases a2 : x < 65536
    · rw [if_pos a2]; split <;> (try split) <;> omega
    · rw [if_neg a2, if_neg (show ¬ y < 65536 by omega)]
      by_cases a3 : x < 4294967296
      · rw [if_pos a3]; split <;> omega
      · rw [if_neg a3, if_neg (show ¬ y < 4294967296 by omega)]; omega
theorem bh_nt (x : Int) : bh (nt x) = if -32 ≤ x ∧ x ≤ 127 then 0 else if 0 ≤ x then th x.toNat else th (2 * (-x - 1)).toNat := by
  by_cases c1 : -32 ≤ x ∧ x ≤ 127
  · rw [if_pos c1]; exact (nt_small x c1).1
  · rw [if_neg c1]
    by_cases c2 : 0 ≤ x
    · rw [if_pos c2, show nt x = pk x.toNat 204 by unfold nt; rw [if_neg c1, if_pos c2], pk_bh _ _ (.inl rfl)]; rfl
    · rw [if_neg c2, show nt x = pk (2 * (-x - 1)).toNat 208 by unfold nt; rw [if_neg c1, if_neg c2], pk_bh _ _ (.inr rfl)]; rfl
theorem len_mono (x y : Int) (h : (0 ≤ x ∧ x ≤ y) ∨ (x < 0 ∧ y ≤ x)) : (encI x).length ≤ (encI y).length := by
  rw [encI_length, encI_length, bh_nt, bh_nt]
  by_cases c1 : -32 ≤ x ∧ x ≤ 127
  · rw [if_pos c1]; omega
  · rw [if_neg c1, if_neg (show ¬ (-32 ≤ y ∧ y ≤ 127) by omega)]
    rcases h with ⟨a, b⟩ | ⟨a, b⟩
    · rw [if_pos a, if_pos (show 0 ≤ y by omega)]
      have := th_mono x.toNat y.toNat (by omega)
      omega
    · rw [if_neg (show ¬ 0 ≤ x by omega), if_neg (show ¬ 0 ≤ y by omega)]
      have := th_mono (2 * (-x - 1)).toNat (2 * (-y - 1)).toNat (by omega)
      omega
theorem encI_bd (x : Int) : 1 ≤ (encI x).length ∧ (encI x).length ≤ 9 := by rw [encI_length]; have := bh_le (nt x); omega

set_option maxRecDepth 100000 in
set_option maxHeartbeats 1600000 in
theorem packNumbers_walk (x y : Int) (w : World) (hx : (Lit.int .i64 x).wf = true) (hy : (Lit.int .i64 y).wf = true) :
    Calls Tryd.prog 9 #[.int .i64 x, .int .i64 y] w fun e w' => e = .returned (.bool true) ∧ Below w.heap.size w w' := by
  have bx := bounds_i64 hx
  have by' := bounds_i64 hy
  have OX := Lib.hid (fun w => of_any x w)
  have OY := Lib.hid (fun w => of_any y w)
  have EX := Lib.hid (fun w => encode_int x w bx.1 bx.2)
  have EY := Lib.hid (fun w => encode_int y w by'.1 by'.2)
  have DX : Hid (∀ (A : Option Addr) (n c : Nat) (w : World) (B : Nat), Reads w B A n (encI x) → B ≤ w.heap.size → (A = none → n = 0 ∧ c = 0) → Calls Tryd.prog 18 #[.slice A n c] w fun e w' => e = .returned (.tuple #[.agg #[.int .i64 3, .int .i64 x, .slice none 0 0, .string ⟨#[]⟩, .slice none 0 0, .slice none 0 0], .int .i64 0]) ∧ Still w w') :=
    Lib.hid fun A n c w B hr hB hA => decode_int x bx.1 bx.2 A n c w B hr hB hA
  have hmono := len_mono x y
  have hb1 := encI_bd x
  have hb2 := encI_bd y
  obtain ⟨Ex, hEx⟩ : ∃ E, E = encI x := ⟨_, rfl⟩
  obtain ⟨Ey, hEy⟩ : ∃ E, E = encI y := ⟨_, rfl⟩
  rw [← hEx] at EX DX hmono hb1
  rw [← hEy] at EY hmono hb2
  obtain ⟨cx, hcx⟩ : ∃ c, c = cellsI x := ⟨_, rfl⟩
  obtain ⟨cy, hcy⟩ : ∃ c, c = cellsI y := ⟨_, rfl⟩
  rw [← hcx] at OX EX
  rw [← hcy] at OY EY
  obtain ⟨n, hn⟩ : ∃ n, n = Ex.length := ⟨_, rfl⟩
  obtain ⟨m, hm⟩ : ∃ m, m = Ey.length := ⟨_, rfl⟩
  rw [← hn] at EX hmono hb1
  rw [← hm] at EY hmono hb2
  have q1 : ¬ (n : Int) < 1 := by omega
  have q2 : ¬ 9 < (n : Int) := by omega
  have key : ((0 ≤ x ∧ x ≤ y ∧ (n : Int) ≤ (m : Int)) ∨ (0 ≤ x ∧ ¬ x ≤ y)) ∨ ((¬ 0 ≤ x ∧ x < 0 ∧ y ≤ x ∧ (n : Int) ≤ (m : Int)) ∨ (¬ 0 ≤ x ∧ x < 0 ∧ ¬ y ≤ x)) := by
    by_cases c1 : 0 ≤ x
    · left
      by_cases c2 : x ≤ y
      · exact .inl ⟨c1, c2, by have := hmono (.inl ⟨c1, c2⟩); omega⟩
      · exact .inr ⟨c1, c2⟩
    · right
      by_cases c2 : y ≤ x
      · exact .inl ⟨c1, by omega, c2, by have := hmono (.inr ⟨by omega, c2⟩); omega⟩
      · exact .inr ⟨c1, by omega, c2⟩
  have KEY := Lib.hid key
  clear hEx hEy hcx hcy hn hm hmono hb1 hb2 hx hy bx by' key
  go_enter Tryd.func9, Tryd.ntmps9
  go_wp2_with fail
  refine (OX.out _).mono ?_
  rintro e w1 ⟨rfl, s1⟩
  go_wp2_with fail
  refine (EX.out _).mono ?_
  rintro e w2 ⟨A, c, rfl, own2, s2⟩
  go_wp2_with fail
  refine (OY.out _).mono ?_
  rintro e w3 ⟨rfl, s3⟩
  go_wp2_with fail
  refine (EY.out _).mono ?_
  rintro e w4 ⟨A2, c2, rfl, own4, s4⟩
  have o3 := own_still (own_still own2 s3) s4
  obtain ⟨A', c', hsl, f1, f2, f3⟩ := own_form o3
  injection hsl with e1 e2 e3
  subst e1
  subst e3
  have S4 := Lib.hid (((s1.trans s2).trans s3).trans s4)
  have D := Lib.hid (DX.out A n c w4 _ (Reads.of_own o3) (Nat.le_refl _) f3)
  clear own2 own4 o3 s1 s2 s3 s4 f1 f2 f3 e2
  go_wp2_with fail
  refine D.out.mono ?_
  rintro e w5 ⟨rfl, s5⟩
  have S5 := Lib.hid (Still.trans (show Still w w4 from S4.out) s5)
  have S6 : Hid (Still w (w5.alloc (.cells #[.int .i64 3, .int .i64 x, .slice none 0 0, .string ⟨#[]⟩, .slice none 0 0, .slice none 0 0] 26))) := Lib.hid (Below.alloc S5.out S5.out.size _)
  have LV := Lib.hid (fun w => lives_any w)
  clear s5 D
  rcases KEY.out with (⟨k1, k2, k3⟩ | ⟨k1, k2⟩) | (⟨k1, k2, k3, k4⟩ | ⟨k1, k2, k3⟩)
  all_goals
    go_wp2_with fail
    refine (LV.out _).mono ?_
    rintro e w6 ⟨rfl, s6⟩
    have S7 := Lib.hid (Still.trans (show Still w _ from S6.out) s6)
    go_wp2_with fail
    go_ret
    exact ⟨rfl, S7.out⟩
end Go.Proofs.YtomhpnomcciniaaDoor
