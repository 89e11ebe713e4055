/- The walk of SegsNames: it returns true, and nothing that was there turns. -/
import Derived.Test.YtljacdbdjacbkaaGreatDoorSnzj
import Derived.Test.YtljacdbdjacbkaaGreatDoorSnzk
import Derived.Test.YtljacdbdjacbkaaGreatDoorSnzh
import Derived.Test.YtljacdbdjacbkaaGreatDoorSni
namespace Go.Proofs.YtljacdbdjacbkaaGreatDoor
open Go.RowKit Go.Maps Go.WideMaps Go.Sort
set_option linter.unusedVariables false
set_option linter.unusedSimpArgs false

theorem segOf_nil : segOf [] = none := by decide
theorem segOf_nameS (n : Int) : segOf (nameS n).data.toList = if 0 ≤ n ∧ n < 1048576 then some n.toNat else none := by
  rw [nameS_list]
  split
  · rename_i h
    exact segOf_sgnB _ (by omega)
  · exact segOf_nil
set_option maxRecDepth 100000 in
set_option maxHeartbeats 6400000 in
theorem segsNames_walk (n : Int) (s : ByteArray) (w : World) (hs : s.size ≤ 9223372036854775807) (T : SgT w) :
    Calls Tryz.prog 7 #[.int .i64 n, .string s] w fun e w' => e = .returned (.bool true) ∧ Still w w' := by
  have SH := Lib.hid (short_k s 30 w hs)
  obtain ⟨t, ht⟩ : ∃ t, t = shB 30 s := ⟨_, rfl⟩
  have hts : t.size ≤ 30 := by rw [ht]; exact shB_size 30 s
  rw [← ht] at SH
  have NU := Lib.hid (number_any t w T (by omega))
  have RN := Lib.hid (fun W => rnumber_any t W (by omega))
  obtain ⟨o, ho⟩ : ∃ o, o = segOf t.data.toList := ⟨_, rfl⟩
  rw [← ho] at NU RN
  have NA := Lib.hid (fun W (z : Still w W) => name_any n W (T.still z))
  have RA := Lib.hid (fun W => rname_any n W)
  have LV := Lib.hid (fun W (z : Still w W) => sgLives W (T.still z))
  have NB := Lib.hid (fun W (z : Still w W) => number_any (nameS n) W (T.still z) (by have := nameS_size n; omega))
  rw [segOf_nameS] at NB
  obtain ⟨nm, hnm⟩ : ∃ nm, nm = nameS n := ⟨_, rfl⟩
  rw [← hnm] at NB NA RA
  clear hs T ht hts ho hnm
  go_enter Tryz.func7, Tryz.ntmps7
  go_wp2_with fail
  refine SH.out.mono ?_
  rintro e w1 ⟨rfl, rfl⟩
  go_wp2_with fail
  refine NU.out.mono ?_
  rintro e w2 ⟨rfl, s2⟩
  have S2 := Lib.hid s2
  clear s2
  go_wp2_with fail
  refine (RN.out _).mono ?_
  rintro e w3 ⟨x, rfl, hx, rfl⟩
  obtain ⟨a, ba, ha, hb, hxe⟩ : ∃ (a : Int) (b : Bool), (((o.getD 0 : Nat) : Int) = a ∧ o.isSome = b ∧ (b = true → x = a) ∧ (b = false → a = 0)) := by
    refine ⟨_, _, rfl, rfl, ?_, ?_⟩
    · cases o with
      | none => intro h; cases h
      | some q => intro _; exact hx q rfl
    · cases o with
      | none => intro _; rfl
      | some q => intro h; cases h
  rw [ha, hb]
  have S3 := Lib.hid S2.out
  clear ha hb hx NU RN
  cases ba with
  | true =>
    obtain rfl := hxe.1 rfl
    clear hxe
    go_wp2_with fail
    refine (NA.out _ S3.out).mono ?_
    rintro e w4 ⟨rfl, s4⟩
    have S4 := Lib.hid (Still.trans S3.out s4)
    clear s4
    go_wp2_with fail
    refine (RA.out _).mono ?_
    rintro e w5 ⟨rfl, rfl⟩
    go_wp2_with fail
    refine (NA.out _ S4.out).mono ?_
    rintro e w6 ⟨rfl, s6⟩
    have S6 := Lib.hid (Still.trans S4.out s6)
    clear s6
    go_wp2_with fail
    refine (NB.out _ S6.out).mono ?_
    rintro e w7 ⟨rfl, s7⟩
    have S7 := Lib.hid (Still.trans S6.out s7)
    clear s7
    by_cases h0 : 0 ≤ n
    · by_cases h1 : n < 1048576
      · rw [if_pos ⟨h0, h1⟩]
        have e1 : (((some n.toNat).getD 0 : Nat) : Int) = n := by show ((n.toNat : Nat) : Int) = n; omega
        have e2 : (some n.toNat).isSome = true := rfl
        rw [e1, e2]
        clear e1 e2
        go_wp2_with fail
        refine (LV.out _ S7.out).mono ?_
        rintro e w8 ⟨rfl, s8⟩
        have S8 := Lib.hid (Still.trans S7.out s8)
        clear s8
        go_wp2_with fail
        go_ret
        exact ⟨by first | rfl | (show Ending.returned (Value.bool (!decide (n < 1048576))) = _; rw [decide_eq_false (by omega)]; rfl), S8.out⟩
      · rw [if_neg (by omega)]
        rw [show ((((none : Option Nat).getD 0 : Nat) : Int)) = 0 from rfl, show (none : Option Nat).isSome = false from rfl]
        go_wp2_with fail
        refine (LV.out _ S7.out).mono ?_
        rintro e w8 ⟨rfl, s8⟩
        have S8 := Lib.hid (Still.trans S7.out s8)
        clear s8
        go_wp2_with fail
        go_ret
        exact ⟨by first | rfl | (show Ending.returned (Value.bool (!decide (n < 1048576))) = _; rw [decide_eq_false (by omega)]; rfl), S8.out⟩
    · rw [if_neg (by omega)]
      rw [show ((((none : Option Nat).getD 0 : Nat) : Int)) = 0 from rfl, show (none : Option Nat).isSome = false from rfl]
      go_wp2_with fail
      refine (LV.out _ S7.out).mono ?_
      rintro e w8 ⟨rfl, s8⟩
      have S8 := Lib.hid (Still.trans S7.out s8)
      clear s8
      go_wp2_with fail
      go_ret
      exact ⟨rfl, S8.out⟩
  | false =>
    obtain rfl := hxe.2 rfl
    clear hxe
    go_wp2_with fail
    refine (NA.out _ S3.out).mono ?_
    rintro e w4 ⟨rfl, s4⟩
    have S4 := Lib.hid (Still.trans S3.out s4)
    clear s4
    go_wp2_with fail
    refine (RA.out _).mono ?_
    rintro e w5 ⟨rfl, rfl⟩
    go_wp2_with fail
    refine (NA.out _ S4.out).mono ?_
    rintro e w6 ⟨rfl, s6⟩
    have S6 := Lib.hid (Still.trans S4.out s6)
    clear s6
    go_wp2_with fail
    refine (NB.out _ S6.out).mono ?_
    rintro e w7 ⟨rfl, s7⟩
    have S7 := Lib.hid (Still.trans S6.out s7)
    clear s7
    by_cases h0 : 0 ≤ n
    · by_cases h1 : n < 1048576
      · rw [if_pos ⟨h0, h1⟩]
        have e1 : (((some n.toNat).getD 0 : Nat) : Int) = n := by show ((n.toNat : Nat) : Int) = n; omega
        have e2 : (some n.toNat).isSome = true := rfl
        rw [e1, e2]
        clear e1 e2
        go_wp2_with fail
        refine (LV.out _ S7.out).mono ?_
        rintro e w8 ⟨rfl, s8⟩
        have S8 := Lib.hid (Still.trans S7.out s8)
        clear s8
        go_wp2_with fail
        go_ret
        exact ⟨by first | rfl | (show Ending.returned (Value.bool (!decide (n < 1048576))) = _; rw [decide_eq_false (by omega)]; rfl), S8.out⟩
      · rw [if_neg (by omega)]
        rw [show ((((none : Option Nat).getD 0 : Nat) : Int)) = 0 from rfl, show (none : Option Nat).isSome = false from rfl]
        go_wp2_with fail
        refine (LV.out _ S7.out).mono ?_
        rintro e w8 ⟨rfl, s8⟩
        have S8 := Lib.hid (Still.trans S7.out s8)
        clear s8
        go_wp2_with fail
        go_ret
        exact ⟨by first | rfl | (show Ending.returned (Value.bool (!decide (n < 1048576))) = _; rw [decide_eq_false (by omega)]; rfl), S8.out⟩
    · rw [if_neg (by omega)]
      rw [show ((((none : Option Nat).getD 0 : Nat) : Int)) = 0 from rfl, show (none : Option Nat).isSome = false from rfl]
      go_wp2_with fail
      refine (LV.out _ S7.out).mono ?_
      rintro e w8 ⟨rfl, s8⟩
      have S8 := Lib.hid (Still.trans S7.out s8)
      clear s8
      go_wp2_with fail
      go_ret
      exact ⟨rfl, S8.out⟩
end Go.Proofs.YtljacdbdjacbkaaGreatDoor
