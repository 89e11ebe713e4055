/- lives; with which entry bytes say that they begin. It proves no statement. -/
import Derived.Test.YtnhkabohccbglaaDoorFrEnc
import Derived.Test.YtnhkabohccbglaaDoorGet1
import Derived.Test.YtnhkabohccbglaaDoorLe
namespace Go.Proofs.YtnhkabohccbglaaDoor
open Go.RowKit
set_option linter.unusedVariables false
set_option linter.unusedSimpArgs false

theorem zent (t : Int) : entV t (List.replicate 32 0) (.slice none 0 0) = #[.int .i64 t, .int .u8 0, .int .u8 0, .int .u8 0, .int .u8 0, .int .u8 0, .int .u8 0, .int .u8 0, .int .u8 0, .int .u8 0, .int .u8 0, .int .u8 0, .int .u8 0, .int .u8 0, .int .u8 0, .int .u8 0, .int .u8 0, .int .u8 0, .int .u8 0, .int .u8 0, .int .u8 0, .int .u8 0, .int .u8 0, .int .u8 0, .int .u8 0, .int .u8 0, .int .u8 0, .int .u8 0, .int .u8 0, .int .u8 0, .int .u8 0, .int .u8 0, .int .u8 0, .slice none 0 0] := by rfl
set_option maxRecDepth 100000 in
set_option maxHeartbeats 1600000 in
theorem lives_any (w : World) (T : Tabs w) : Calls Tryd.prog 17 #[] w fun e w' => e = .returned (.bool true) ∧ Still w w' := by
  have E := encode_any 2 (List.replicate 32 0) [] none 0 0 w 0 (by simp) Reads.nil0 (Nat.zero_le _) (fun _ => rfl) (by omega) T
  have hc : ckE 2 (List.replicate 32 0) ([] : List UInt8).length = 0 := by unfold ckE; simp
  have he : encE 2 (List.replicate 32 0) [] = (0, bytE 2 (List.replicate 32 0) []) := by unfold encE; rw [if_neg (by rw [hc]; decide)]
  have hl := (szE_len (t := 2) (K := List.replicate 32 0) (D := []) (by simp) hc).1
  have hs : szE 2 (List.replicate 32 0) ([] : List UInt8).length = 9 := by unfold szE; rw [if_neg (by rw [hc]; decide), if_pos rfl]
  rw [he, zent] at E
  simp only [hl, hs] at E
  have EE := Lib.hid E
  clear E hc he hl hs
  go_enter Tryd.func17, Tryd.ntmps17
  go_wp2_with fail
  refine EE.out.mono ?_
  rintro e w1 ⟨⟨v, rfl, own⟩, s1⟩
  obtain ⟨A, c, rfl, f1, f2, f3⟩ := own_form own
  have S1 := Lib.hid s1
  clear own f1 f2 f3 s1 EE
  go_wp2_with fail
  go_ret
  exact ⟨rfl, S1.out⟩
/-- Whether an entry with that tag can have so many bytes. -/
def fitE (y n : Nat) : Bool := if y = 0 then decide (41 ≤ n ∧ n ≤ 16425) else if y = 1 then decide (n = 41) else if y = 2 then decide (n = 9) else false
set_option maxRecDepth 100000 in
set_option maxHeartbeats 1600000 in
theorem ffits_any (y n : Nat) (w : World) (hy : y < 256) (hn : n < 4294967296) : Calls Tryd.prog 48 #[.int .u8 (y : Int), .int .i64 (n : Int)] w fun e w' => e = .returned (.bool (fitE y n)) ∧ w = w' := by
  obtain ⟨q, hq⟩ : ∃ q, q = fitE y n := ⟨_, rfl⟩
  rw [← hq]
  unfold fitE at hq
  by_cases h0 : y = 0
  · subst h0
    rw [if_pos rfl] at hq
    by_cases h1 : 41 ≤ n
    · have d1 : (41 : Int) ≤ (n : Int) := by omega
      by_cases h2 : n ≤ 16425
      · have d2 : (n : Int) ≤ 16425 := by omega
        have HQ := Lib.hid (show q = true by rw [hq]; simp; omega)
        clear hq h1 h2
        go_enter Tryd.func48, Tryd.ntmps48
        go_wp2_with fail
        go_ret
        exact ⟨by rw [HQ.out]; rfl, rfl⟩
      · have d2 : ¬ (n : Int) ≤ 16425 := by omega
        have HQ := Lib.hid (show q = false by rw [hq]; simp; omega)
        clear hq h1 h2
        go_enter Tryd.func48, Tryd.ntmps48
        go_wp2_with fail
        go_ret
        exact ⟨by rw [HQ.out]; first | rfl | simp, rfl⟩
    · have d1 : ¬ (41 : Int) ≤ (n : Int) := by omega
      have HQ := Lib.hid (show q = false by rw [hq]; simp; omega)
      clear hq h1
      go_enter Tryd.func48, Tryd.ntmps48
      go_wp2_with fail
      go_ret
      exact ⟨by rw [HQ.out]; first | rfl | simp, rfl⟩
  have b0 : ((y : Int) == 0) = false := by simp; omega
  rw [if_neg h0] at hq
  by_cases h1 : y = 1
  · subst h1
    rw [if_pos rfl] at hq
    by_cases h2 : n = 41
    · subst h2
      have HQ := Lib.hid (show q = true by rw [hq]; rfl)
      clear hq
      go_enter Tryd.func48, Tryd.ntmps48
      go_wp2_with fail
      go_ret
      exact ⟨by rw [HQ.out]; first | rfl | simp, rfl⟩
    · have d2 : ((n : Int) == 41) = false := by simp; omega
      have HQ := Lib.hid (show q = false by rw [hq]; simp; omega)
      clear hq h2
      go_enter Tryd.func48, Tryd.ntmps48
      go_wp2_with fail
      go_ret
      exact ⟨by rw [HQ.out]; first | rfl | simp, rfl⟩
  have b1 : ((y : Int) == 1) = false := by simp; omega
  rw [if_neg h1] at hq
  by_cases h3 : y = 2
  · subst h3
    rw [if_pos rfl] at hq
    by_cases h2 : n = 9
    · subst h2
      have HQ := Lib.hid (show q = true by rw [hq]; rfl)
      clear hq
      go_enter Tryd.func48, Tryd.ntmps48
      go_wp2_with fail
      go_ret
      exact ⟨by rw [HQ.out]; first | rfl | simp, rfl⟩
    · have d2 : ((n : Int) == 9) = false := by simp; omega
      have HQ := Lib.hid (show q = false by rw [hq]; simp; omega)
      clear hq h2
      go_enter Tryd.func48, Tryd.ntmps48
      go_wp2_with fail
      go_ret
      exact ⟨by rw [HQ.out]; first | rfl | simp, rfl⟩
  have b2 : ((y : Int) == 2) = false := by simp; omega
  rw [if_neg h3] at hq
  have HQ := Lib.hid hq
  clear hq h0 h1 h3
  go_enter Tryd.func48, Tryd.ntmps48
  go_wp2_with fail
  go_ret
  exact ⟨by rw [HQ.out]; first | rfl | simp, rfl⟩
/-- The size, and the tag, that bytes say. -/
def sizE (l : List UInt8) : Nat := leNum ((l.drop 4).take 4)
def tagE (l : List UInt8) : Nat := (l.getD 8 0).toNat
/-- With which size bytes say that they begin: the size, or why none. -/
def toE (l : List UInt8) : Nat × Int := if l.length < 9 then (0, 3) else if fitE (tagE l) (sizE l) = false then (0, 4) else if l.length < sizE l then (0, 3) else (sizE l, 0)
theorem tagE_lt (l : List UInt8) : tagE l < 256 := (l.getD 8 0).toNat_lt
theorem sizE_lt (l : List UInt8) : sizE l < 4294967296 := by
  have h := leNum_lt ((l.drop 4).take 4)
  have h2 : ((l.drop 4).take 4).length ≤ 4 := by simp; omega
  have h3 : 2 ^ (8 * ((l.drop 4).take 4).length) ≤ 2 ^ 32 := Nat.pow_le_pow_right (by omega) (by omega)
  exact Nat.lt_of_lt_of_le h h3
set_option maxRecDepth 100000 in
set_option maxHeartbeats 1600000 in
theorem told_any (A : Option Addr) (n c : Nat) (l : List UInt8) (w : World) (B : Nat) (hr : Reads w B A n l) (hn : n ≤ 1048576) (hc : n ≤ c) (hcm : c ≤ 9223372036854775807) :
    Calls Tryd.prog 35 #[.slice A n c] w fun e w' => e = .returned (.tuple #[.int .i64 ((toE l).1 : Nat), .int .i64 (toE l).2]) ∧ w = w' := by
  have hlen := hr.1
  obtain ⟨q, hq⟩ : ∃ q, q = toE l := ⟨_, rfl⟩
  rw [← hq]
  unfold toE at hq
  rw [hlen] at hq
  by_cases h9 : n < 9
  · rw [if_pos h9] at hq
    subst hq
    have d1 : (n : Int) < 9 := by omega
    clear h9 hr hlen
    go_enter Tryd.func35, Tryd.ntmps35
    go_wp2_with fail
    go_ret2
    exact ⟨rfl, rfl⟩
  rw [if_neg h9] at hq
  have d1 : ¬ (n : Int) < 9 := by omega
  obtain ⟨b, o, rfl, hb, hcell⟩ := hr.at_ (by omega)
  have hk := hcell 8 (by omega)
  have ht : ((l.getD 8 0).toNat : Int) = (tagE l : Nat) := rfl
  rw [ht] at hk
  have GT0 := get_yes (some ⟨b, o + 4, none⟩) 4 (c - 4) ((l.drop 4).take 4) w B (by
    have h := (hr.dropk (k := 4) (by omega)).takek (k := 4) (by omega)
    exact h) (by omega) (by omega)
  have hz : leNum ((l.drop 4).take 4) = sizE l := rfl
  rw [hz] at GT0
  have GT := Lib.hid GT0
  have zl := sizE_lt l
  have tl := tagE_lt l
  obtain ⟨y, hy⟩ : ∃ y, y = tagE l := ⟨_, rfl⟩
  obtain ⟨z, hz2⟩ : ∃ z, z = sizE l := ⟨_, rfl⟩
  rw [← hy] at hq hk tl
  rw [← hz2] at hq GT zl
  have FT := Lib.hid (ffits_any y z w tl zl)
  obtain ⟨f, hf⟩ : ∃ f, f = fitE y z := ⟨_, rfl⟩
  rw [← hf] at FT hq
  have HQ := Lib.hid hq
  have d2 : (4 : Int) ≤ (n : Int) := by omega
  have d3 : (8 : Int) ≤ (n : Int) := by omega
  have d4 : (8 : Int) < (n : Int) := by omega
  have d5 : (n : Int) ≤ (c : Int) := by omega
  have d6 : (c : Int) ≤ 9223372036854775807 := by omega
  have d7 : (8 : Int) ≤ (c : Int) := by omega
  have d8 : (n : Int) ≤ 1048576 := by omega
  have z1 : (0 : Int) ≤ (z : Int) := by omega
  have z2 : (z : Int) < 4294967296 := by omega
  have z3 : IntKind.i64.wrap (z : Int) = (z : Int) := by rw [IntKind.wrap_i64]; omega
  clear hq hr hcell hlen ht GT0 hz hy hz2 hf hb zl tl h9 hn hc hcm
  go_enter Tryd.func35, Tryd.ntmps35
  go_wp2_with fail
  refine GT.out.mono ?_
  rintro e w1 ⟨rfl, rfl⟩
  go_wp2_with fail
  refine FT.out.mono ?_
  rintro e w1 ⟨rfl, rfl⟩
  clear d5 d6 d7 z2 z3
  cases f
  · go_wp2_with fail
    go_ret2
    rw [HQ.out]
    exact ⟨rfl, rfl⟩
  · by_cases hs : n < z
    · have e1 : (n : Int) < (z : Int) := by omega
      have HS := Lib.hid hs
      clear hs
      go_wp2_with fail
      go_ret2
      rw [HQ.out, if_neg (by decide), if_pos HS.out]
      exact ⟨rfl, rfl⟩
    · have e1 : ¬ (n : Int) < (z : Int) := by omega
      have HS := Lib.hid hs
      clear hs
      go_wp2_with fail
      go_ret2
      rw [HQ.out, if_neg (by decide), if_neg HS.out]
      exact ⟨rfl, rfl⟩
set_option maxRecDepth 100000 in
set_option maxHeartbeats 1600000 in
theorem sumin_any (A : Option Addr) (n c : Nat) (l : List UInt8) (w : World) (B : Nat) (hr : Reads w B A n l) (hn : n ≤ 1048576) (h4 : 4 ≤ n) (hc : n ≤ c) (hcm : c ≤ 9223372036854775807) :
    Calls Tryd.prog 36 #[.slice A n c] w fun e w' => e = .returned (.int .u32 (leNum (l.take 4) : Nat)) ∧ w = w' := by
  obtain ⟨b, o, rfl, hb, hcell⟩ := hr.at_ (by omega)
  have GT := Lib.hid (get_yes (some ⟨b, o, none⟩) 4 c (l.take 4) w B (hr.takek (k := 4) (by omega)) (by omega) (by omega))
  have zl : leNum (l.take 4) < 4294967296 := by
    have h := leNum_lt (l.take 4)
    have h2 : (l.take 4).length ≤ 4 := by simp; omega
    have h3 : 2 ^ (8 * (l.take 4).length) ≤ 2 ^ 32 := Nat.pow_le_pow_right (by omega) (by omega)
    exact Nat.lt_of_lt_of_le h h3
  obtain ⟨z, hz⟩ : ∃ z, z = leNum (l.take 4) := ⟨_, rfl⟩
  rw [← hz] at GT zl ⊢
  have d2 : (4 : Int) ≤ (n : Int) := by omega
  have d5 : (n : Int) ≤ (c : Int) := by omega
  have d6 : (c : Int) ≤ 9223372036854775807 := by omega
  have d7 : (4 : Int) ≤ (c : Int) := by omega
  have z1 : (0 : Int) ≤ (z : Int) := by omega
  have z2 : (z : Int) < 4294967296 := by omega
  have z3 : IntKind.u32.wrap (z : Int) = (z : Int) := by unfold IntKind.wrap; simp [IntKind.bits, IntKind.signed]; omega
  clear hr hcell hb hz zl hn hc hcm h4
  go_enter Tryd.func36, Tryd.ntmps36
  go_wp2_with fail
  refine GT.out.mono ?_
  rintro e w1 ⟨rfl, rfl⟩
  go_wp2_with fail
  go_ret
  exact ⟨rfl, rfl⟩
end Go.Proofs.YtnhkabohccbglaaDoor
