/- Contracts and facts, several texts in one. It proves no statement. -/
import Derived.Test.YtljacdbdjacbkaaGreatMpGf
import Derived.Test.YtljacdbdjacbkaaGreatMpGc
import Derived.Test.YtljacdbdjacbkaaGreatMpGg
import Derived.Test.YtljacdbdjacbkaaGreatMpGi
import Derived.Test.YtljacdbdjacbkaaGreatMpGb
import Derived.Deep.Upon
import Derived.Test.YtljacdbdjacbkaaGreatMpGh
import Derived.Test.YtljacdbdjacbkaaGreatMpGj

/- Contracts: a medium's calls where works or find answers an error. It proves no statement. -/


namespace Go.Proofs.YtljacdbdjacbkaaGreat
open Go.RowKit Go.Maps Go.WideMaps
set_option linter.unusedVariables false
set_option linter.unusedSimpArgs false

theorem create_err (P : Value) (s : ByteArray) (w : World) (E : Int) (b1 : (E != 0) = true) (h : Calls Tryz.prog 50 #[P] w fun e w' => e = .returned (.int .i64 E) ∧ w = w') : Calls Tryz.prog 19 #[P, .string s] w fun e w' => e = .returned (.int .i64 E) ∧ w = w' := by
  have HW := Lib.hid h
  clear h
  go_enter Tryz.func19, Tryz.ntmps19
  go_wp2_with fail
  refine HW.out.mono ?_
  rintro e w1 ⟨rfl, rfl⟩
  go_wp2_with fail
  go_ret
  exact ⟨rfl, rfl⟩
theorem append_err (P : Value) (s : ByteArray) (A : Option Addr) (n c : Nat) (w : World) (E : Int) (b1 : (E != 0) = true) (h : Calls Tryz.prog 48 #[P, .string s] w fun e w' => e = .returned (.tuple #[.pointer none, .int .i64 E]) ∧ w = w') : Calls Tryz.prog 20 #[P, .string s, .slice A n c] w fun e w' => e = .returned (.int .i64 E) ∧ w = w' := by
  have HW := Lib.hid h
  clear h
  go_enter Tryz.func20, Tryz.ntmps20
  go_wp2_with fail
  refine HW.out.mono ?_
  rintro e w1 ⟨rfl, rfl⟩
  go_wp2_with fail
  go_ret
  exact ⟨rfl, rfl⟩
theorem truncate_err (P : Value) (s : ByteArray) (x : Int) (w : World) (E : Int) (b1 : (E != 0) = true) (h : Calls Tryz.prog 48 #[P, .string s] w fun e w' => e = .returned (.tuple #[.pointer none, .int .i64 E]) ∧ w = w') : Calls Tryz.prog 21 #[P, .string s, .int .i64 x] w fun e w' => e = .returned (.int .i64 E) ∧ w = w' := by
  have HW := Lib.hid h
  clear h
  go_enter Tryz.func21, Tryz.ntmps21
  go_wp2_with fail
  refine HW.out.mono ?_
  rintro e w1 ⟨rfl, rfl⟩
  go_wp2_with fail
  go_ret
  exact ⟨rfl, rfl⟩
theorem rename_err (P : Value) (s t : ByteArray) (w : World) (E : Int) (b1 : (E != 0) = true) (h : Calls Tryz.prog 48 #[P, .string s] w fun e w' => e = .returned (.tuple #[.pointer none, .int .i64 E]) ∧ w = w') : Calls Tryz.prog 22 #[P, .string s, .string t] w fun e w' => e = .returned (.int .i64 E) ∧ w = w' := by
  have HW := Lib.hid h
  clear h
  go_enter Tryz.func22, Tryz.ntmps22
  go_wp2_with fail
  refine HW.out.mono ?_
  rintro e w1 ⟨rfl, rfl⟩
  go_wp2_with fail
  go_ret
  exact ⟨rfl, rfl⟩
theorem remove_err (P : Value) (s : ByteArray) (w : World) (E : Int) (b1 : (E != 0) = true) (h : Calls Tryz.prog 48 #[P, .string s] w fun e w' => e = .returned (.tuple #[.pointer none, .int .i64 E]) ∧ w = w') : Calls Tryz.prog 23 #[P, .string s] w fun e w' => e = .returned (.int .i64 E) ∧ w = w' := by
  have HW := Lib.hid h
  clear h
  go_enter Tryz.func23, Tryz.ntmps23
  go_wp2_with fail
  refine HW.out.mono ?_
  rintro e w1 ⟨rfl, rfl⟩
  go_wp2_with fail
  go_ret
  exact ⟨rfl, rfl⟩
theorem sync_err (P : Value) (s : ByteArray) (w : World) (E : Int) (b1 : (E != 0) = true) (h : Calls Tryz.prog 48 #[P, .string s] w fun e w' => e = .returned (.tuple #[.pointer none, .int .i64 E]) ∧ w = w') : Calls Tryz.prog 24 #[P, .string s] w fun e w' => e = .returned (.int .i64 E) ∧ w = w' := by
  have HW := Lib.hid h
  clear h
  go_enter Tryz.func24, Tryz.ntmps24
  go_wp2_with fail
  refine HW.out.mono ?_
  rintro e w1 ⟨rfl, rfl⟩
  go_wp2_with fail
  go_ret
  exact ⟨rfl, rfl⟩
theorem syncDir_err (P : Value) (w : World) (E : Int) (b1 : (E != 0) = true) (h : Calls Tryz.prog 50 #[P] w fun e w' => e = .returned (.int .i64 E) ∧ w = w') : Calls Tryz.prog 25 #[P] w fun e w' => e = .returned (.int .i64 E) ∧ w = w' := by
  have HW := Lib.hid h
  clear h
  go_enter Tryz.func25, Tryz.ntmps25
  go_wp2_with fail
  refine HW.out.mono ?_
  rintro e w1 ⟨rfl, rfl⟩
  go_wp2_with fail
  go_ret
  exact ⟨rfl, rfl⟩
theorem read_err (P : Value) (s : ByteArray) (x y : Int) (w : World) (E : Int) (b1 : (E != 0) = true) (h : Calls Tryz.prog 48 #[P, .string s] w fun e w' => e = .returned (.tuple #[.pointer none, .int .i64 E]) ∧ w = w') : Calls Tryz.prog 30 #[P, .string s, .int .i64 x, .int .i64 y] w fun e w' => e = .returned (.tuple #[.slice none 0 0, .int .i64 E]) ∧ w = w' := by
  have HW := Lib.hid h
  clear h
  go_enter Tryz.func30, Tryz.ntmps30
  go_wp2_with fail
  refine HW.out.mono ?_
  rintro e w1 ⟨rfl, rfl⟩
  go_wp2_with fail
  go_ret2
  exact ⟨rfl, rfl⟩
theorem all_err (P : Value) (s : ByteArray) (w : World) (E : Int) (b1 : (E != 0) = true) (h : Calls Tryz.prog 48 #[P, .string s] w fun e w' => e = .returned (.tuple #[.pointer none, .int .i64 E]) ∧ w = w') : Calls Tryz.prog 45 #[P, .string s] w fun e w' => e = .returned (.tuple #[.slice none 0 0, .int .i64 E]) ∧ w = w' := by
  have HW := Lib.hid h
  clear h
  go_enter Tryz.func45, Tryz.ntmps45
  go_wp2_with fail
  refine HW.out.mono ?_
  rintro e w1 ⟨rfl, rfl⟩
  go_wp2_with fail
  go_ret2
  exact ⟨rfl, rfl⟩
theorem list_err (P : Value) (w : World) (E : Int) (b1 : (E != 0) = true) (h : Calls Tryz.prog 50 #[P] w fun e w' => e = .returned (.int .i64 E) ∧ w = w') : Calls Tryz.prog 42 #[P] w fun e w' => e = .returned (.slice none 0 0) ∧ w = w' := by
  have HW := Lib.hid h
  clear h
  go_enter Tryz.func42, Tryz.ntmps42
  go_wp2_with fail
  refine HW.out.mono ?_
  rintro e w1 ⟨rfl, rfl⟩
  go_wp2_with fail
  go_ret
  exact ⟨rfl, rfl⟩
theorem used_err (P : Value) (w : World) (E : Int) (b1 : (E != 0) = true) (h : Calls Tryz.prog 50 #[P] w fun e w' => e = .returned (.int .i64 E) ∧ w = w') : Calls Tryz.prog 47 #[P] w fun e w' => e = .returned (.int .i64 0) ∧ w = w' := by
  have HW := Lib.hid h
  clear h
  go_enter Tryz.func47, Tryz.ntmps47
  go_wp2_with fail
  refine HW.out.mono ?_
  rintro e w1 ⟨rfl, rfl⟩
  go_wp2_with fail
  go_ret
  exact ⟨rfl, rfl⟩
theorem setRoom_err (P : Value) (x : Int) (w : World) (E : Int) (b1 : (E != 0) = true) (h : Calls Tryz.prog 50 #[P] w fun e w' => e = .returned (.int .i64 E) ∧ w = w') : Calls Tryz.prog 28 #[P, .int .i64 x] w fun e w' => e = .returned (.int .i64 E) ∧ w = w' := by
  have HW := Lib.hid h
  clear h
  go_enter Tryz.func28, Tryz.ntmps28
  go_wp2_with fail
  refine HW.out.mono ?_
  rintro e w1 ⟨rfl, rfl⟩
  go_wp2_with fail
  go_ret
  exact ⟨rfl, rfl⟩
theorem arm_err (P : Value) (x : Int) (w : World) (E : Int) (b1 : (E != 0) = true) (h : Calls Tryz.prog 50 #[P] w fun e w' => e = .returned (.int .i64 E) ∧ w = w') : Calls Tryz.prog 26 #[P, .int .i64 x] w fun e w' => e = .returned (.int .i64 E) ∧ w = w' := by
  have HW := Lib.hid h
  clear h
  go_enter Tryz.func26, Tryz.ntmps26
  go_wp2_with fail
  refine HW.out.mono ?_
  rintro e w1 ⟨rfl, rfl⟩
  go_wp2_with fail
  go_ret
  exact ⟨rfl, rfl⟩
end Go.Proofs.YtljacdbdjacbkaaGreat

/- Contracts: a medium's calls where their own errors stand against them; Arm, SetRoom, Power, Room, Read. It proves no statement. -/





namespace Go.Proofs.YtljacdbdjacbkaaGreat
open Go.RowKit Go.Maps Go.WideMaps
set_option linter.unusedVariables false
set_option linter.unusedSimpArgs false

theorem works_on {w : World} {g : Nat} {room : Int} {bn bf : Nat} {wv : Value} {left : Int} (h : MedB w g room bn bf wv left false) : Calls Tryz.prog 50 #[.pointer (some ⟨g, 0, none⟩)] w fun e w' => e = .returned (.int .i64 0) ∧ w = w' := works_yes h
theorem works_off {w : World} {g : Nat} {room : Int} {bn bf : Nat} {wv : Value} {left : Int} (h : MedB w g room bn bf wv left true) : Calls Tryz.prog 50 #[.pointer (some ⟨g, 0, none⟩)] w fun e w' => e = .returned (.int .i64 12) ∧ w = w' := works_yes h
theorem find_off {w : World} {g : Nat} {room : Int} {bn bf : Nat} {wv : Value} {left : Int} (h : MedB w g room bn bf wv left true) (s : ByteArray) (n : Nat) (D : DataW Unit) (hown : NM w bn n D) (hs : s.size ≤ maxLen) : Calls Tryz.prog 48 #[.pointer (some ⟨g, 0, none⟩), .string s] w fun e w' => e = .returned (.tuple #[.pointer none, .int .i64 12]) ∧ w = w' := find_yes h s n D hown hs
theorem find_none {w : World} {g : Nat} {room : Int} {bn bf : Nat} {wv : Value} {left : Int} (h : MedB w g room bn bf wv left false) (s : ByteArray) (n : Nat) (D : DataW Unit) (hown : NM w bn n D) (hs : s.size ≤ maxLen) (hlk : look D s = -1) : Calls Tryz.prog 48 #[.pointer (some ⟨g, 0, none⟩), .string s] w fun e w' => e = .returned (.tuple #[.pointer none, .int .i64 9]) ∧ w = w' := by
  have FD := find_yes h s n D hown hs
  rw [hlk] at FD
  exact FD
theorem find_there {w : World} {g : Nat} {room : Int} {bn bf : Nat} {wv : Value} {left : Int} (h : MedB w g room bn bf wv left false) (s : ByteArray) (n : Nat) (D : DataW Unit) (hown : NM w bn n D) (hs : s.size ≤ maxLen) (gf : Nat) (hlk : look D s = (gf : Int)) : Calls Tryz.prog 48 #[.pointer (some ⟨g, 0, none⟩), .string s] w fun e w' => e = .returned (.tuple #[.pointer (some ⟨gf, 0, none⟩), .int .i64 0]) ∧ w = w' := by
  have FD := find_yes h s n D hown hs
  rw [hlk, show findV false (gf : Int) = pv (gf : Int) from rfl, pv_at, show findE false (gf : Int) = if (gf : Int) < 0 then 9 else 0 from rfl, if_neg (by omega)] at FD
  exact FD
def roomOK (x : Int) : Bool := decide (0 ≤ x ∧ x ≤ 16777216)
theorem rename_bad (P fv : Value) (s t : ByteArray) (ht : t.size ≤ 9223372036854775807) (hn : nmOK t.data.toList = false) (w : World) (h : Calls Tryz.prog 48 #[P, .string s] w fun e w' => e = .returned (.tuple #[fv, .int .i64 0]) ∧ w = w') : Calls Tryz.prog 22 #[P, .string s, .string t] w fun e w' => e = .returned (.int .i64 7) ∧ w = w' := by
  have HW := Lib.hid h
  have IN := Lib.hid (isName_any t ht w)
  rw [hn] at IN
  clear h ht hn
  go_enter Tryz.func22, Tryz.ntmps22
  go_wp2_with fail
  refine HW.out.mono ?_
  rintro e w1 ⟨rfl, rfl⟩
  go_wp2_with fail
  refine IN.out.mono ?_
  rintro e w1 ⟨rfl, rfl⟩
  go_wp2_with fail
  go_ret
  exact ⟨rfl, rfl⟩
theorem create_bad (P : Value) (s : ByteArray) (hs : s.size ≤ 9223372036854775807) (hn : nmOK s.data.toList = false) (w : World) (h : Calls Tryz.prog 50 #[P] w fun e w' => e = .returned (.int .i64 0) ∧ w = w') : Calls Tryz.prog 19 #[P, .string s] w fun e w' => e = .returned (.int .i64 7) ∧ w = w' := by
  have HW := Lib.hid h
  have IN := Lib.hid (isName_any s hs w)
  rw [hn] at IN
  clear h hs hn
  go_enter Tryz.func19, Tryz.ntmps19
  go_wp2_with fail
  refine HW.out.mono ?_
  rintro e w1 ⟨rfl, rfl⟩
  go_wp2_with fail
  refine IN.out.mono ?_
  rintro e w1 ⟨rfl, rfl⟩
  go_wp2_with fail
  go_ret
  exact ⟨rfl, rfl⟩
theorem create_there {w : World} {g : Nat} {room : Int} {bn bf : Nat} {wv : Value} {left : Int} (h : MedB w g room bn bf wv left false) (s : ByteArray) (n : Nat) (D : DataW Unit) (hown : NM w bn n D) (hs : s.size ≤ maxLen) (hnm : nmOK s.data.toList = true) (gf : Nat) (hlook : look D s = (gf : Int)) :
    Calls Tryz.prog 19 #[.pointer (some ⟨g, 0, none⟩), .string s] w fun e w' => e = .returned (.int .i64 10) ∧ w = w' := by
  have WK := Lib.hid (works_on h)
  have IN := Lib.hid (isName_any s hs w)
  rw [hnm] at IN
  have c1 : w.cell? ⟨g, 1, none⟩ = some (.map (some bn)) := Blk.cell h 1
  have HS := Lib.hid hs
  have HL := Lib.hid hlook
  have HO := Lib.hid hown
  clear h hown hs hnm hlook
  go_enter Tryz.func19, Tryz.ntmps19
  go_wp2_with fail
  refine WK.out.mono ?_
  rintro e w2 ⟨rfl, rfl⟩
  go_wp2_with fail
  refine IN.out.mono ?_
  rintro e w2 ⟨rfl, rfl⟩
  go_wp2_with (at_lookup; go_must (refine wpList_look rfl (.tmp 20) (.tmp 21) rfl bn n D rfl HO.out s rfl HS.out ?_; intro f hf hlk; rw [HL.out] at hlk; subst hlk; rw [pv_at]; clear hf))
  go_ret
  exact ⟨rfl, rfl⟩
theorem create_many {w : World} {g : Nat} {room : Int} {bn bf : Nat} {wv : Value} {left : Int} (h : MedB w g room bn bf wv left false) (s : ByteArray) (n : Nat) (D : DataW Unit) (hown : NM w bn n D) (hs : s.size ≤ maxLen) (hnm : nmOK s.data.toList = true) (hlook : look D s = -1) (hsz : 500 ≤ Maps.size D) :
    Calls Tryz.prog 19 #[.pointer (some ⟨g, 0, none⟩), .string s] w fun e w' => e = .returned (.int .i64 16) ∧ w = w' := by
  have WK := Lib.hid (works_on h)
  have IN := Lib.hid (isName_any s hs w)
  rw [hnm] at IN
  have c1 : w.cell? ⟨g, 1, none⟩ = some (.map (some bn)) := Blk.cell h 1
  have HS := Lib.hid hs
  have HL := Lib.hid hlook
  have HO := Lib.hid hown
  have hsz2 : 500 ≤ (Maps.size D : Int) := by omega
  clear h hown hs hnm hlook hsz
  go_enter Tryz.func19, Tryz.ntmps19
  go_wp2_with fail
  refine WK.out.mono ?_
  rintro e w2 ⟨rfl, rfl⟩
  go_wp2_with fail
  refine IN.out.mono ?_
  rintro e w2 ⟨rfl, rfl⟩
  go_wp2_with (first
    | (at_lookup; go_must (refine wpList_look rfl (.tmp 20) (.tmp 21) rfl bn n D rfl HO.out s rfl HS.out ?_; intro f hf hlk; rw [HL.out] at hlk; subst hlk; rw [pv_nil]))
    | (at_len; go_must (refine wpList_len_own _ rfl _ 56 rfl 9 84 underNames ptrElem bn n D rfl HO.out ?_)))
  go_ret
  exact ⟨rfl, rfl⟩
theorem truncate_arg {P : Value} {w : World} (s : ByteArray) (x : Int) (gf nf c : Nat) (A : Option Addr) (b d : Value) (h : Calls Tryz.prog 48 #[P, .string s] w fun e w' => e = .returned (.tuple #[.pointer (some ⟨gf, 0, none⟩), .int .i64 0]) ∧ w = w') (hf : FileB w gf (.slice A nf c) b d) (hx : x < 0 ∨ (nf : Int) < x) :
    Calls Tryz.prog 21 #[P, .string s, .int .i64 x] w fun e w' => e = .returned (.int .i64 2) ∧ w = w' := by
  have HW := Lib.hid h
  have c0 : w.cell? ⟨gf, 0, none⟩ = some (.slice A nf c) := Blk.cell hf 0
  clear h hf
  by_cases h0 : x < 0
  · clear hx
    go_enter Tryz.func21, Tryz.ntmps21
    go_wp2_with fail
    refine HW.out.mono ?_
    rintro e w1 ⟨rfl, rfl⟩
    go_wp2_with fail
    go_ret
    exact ⟨rfl, rfl⟩
  · have h1 : (nf : Int) < x := by omega
    clear hx
    go_enter Tryz.func21, Tryz.ntmps21
    go_wp2_with fail
    refine HW.out.mono ?_
    rintro e w1 ⟨rfl, rfl⟩
    go_wp2_with fail
    go_ret
    exact ⟨rfl, rfl⟩
theorem setRoom_arg {P : Value} {w : World} (x : Int) (hx : roomOK x = false) (h : Calls Tryz.prog 50 #[P] w fun e w' => e = .returned (.int .i64 0) ∧ w = w') :
    Calls Tryz.prog 28 #[P, .int .i64 x] w fun e w' => e = .returned (.int .i64 2) ∧ w = w' := by
  have HW := Lib.hid h
  have IR := Lib.hid (isRoom_any x w)
  rw [show decide (0 ≤ x ∧ x ≤ 16777216) = false from hx] at IR
  clear h hx
  go_enter Tryz.func28, Tryz.ntmps28
  go_wp2_with fail
  refine HW.out.mono ?_
  rintro e w1 ⟨rfl, rfl⟩
  go_wp2_with fail
  refine IR.out.mono ?_
  rintro e w1 ⟨rfl, rfl⟩
  go_wp2_with fail
  go_ret
  exact ⟨rfl, rfl⟩
theorem setRoom_ok {w : World} {g : Nat} {room : Int} {bn bf : Nat} {wv : Value} {left : Int} (h : MedB w g room bn bf wv left false) (x : Int) (hx : roomOK x = true) :
    Calls Tryz.prog 28 #[.pointer (some ⟨g, 0, none⟩), .int .i64 x] w fun e w' => e = .returned (.int .i64 0) ∧ MedB w' g x bn bf wv left false ∧ w.grownBy w' (some g) := by
  have HW := Lib.hid (works_on h)
  have IR := Lib.hid (isRoom_any x w)
  rw [show decide (0 ≤ x ∧ x ≤ 16777216) = true from hx] at IR
  have c0 : w.cell? ⟨g, 0, none⟩ = some (.int .i64 room) := Blk.cell h 0
  have f0 := Blk.frozen h 0
  have M := Lib.hid (show MedB (w.setCell ⟨g, 0, none⟩ (.int .i64 x)) g x bn bf wv left false from Blk.setc h 0 _)
  clear h hx
  go_enter Tryz.func28, Tryz.ntmps28
  go_wp2_with fail
  refine HW.out.mono ?_
  rintro e w1 ⟨rfl, rfl⟩
  go_wp2_with fail
  refine IR.out.mono ?_
  rintro e w1 ⟨rfl, rfl⟩
  go_wp2_with fail
  go_ret
  exact ⟨rfl, M.out, grownBy_set _ _ _ _⟩
theorem arm_arg {P : Value} {w : World} (x : Int) (hx : x < 0) (h : Calls Tryz.prog 50 #[P] w fun e w' => e = .returned (.int .i64 0) ∧ w = w') :
    Calls Tryz.prog 26 #[P, .int .i64 x] w fun e w' => e = .returned (.int .i64 2) ∧ w = w' := by
  have HW := Lib.hid h
  clear h
  go_enter Tryz.func26, Tryz.ntmps26
  go_wp2_with fail
  refine HW.out.mono ?_
  rintro e w1 ⟨rfl, rfl⟩
  go_wp2_with fail
  go_ret
  exact ⟨rfl, rfl⟩
theorem arm_ok {w : World} {g : Nat} {room : Int} {bn bf : Nat} {wv : Value} {left : Int} (h : MedB w g room bn bf wv left false) (x : Int) (hx : 0 ≤ x) :
    Calls Tryz.prog 26 #[.pointer (some ⟨g, 0, none⟩), .int .i64 x] w fun e w' => e = .returned (.int .i64 0) ∧ MedB w' g room bn bf wv x false ∧ w.grownBy w' (some g) := by
  have HW := Lib.hid (works_on h)
  have c4 : w.cell? ⟨g, 4, none⟩ = some (.int .i64 left) := Blk.cell h 4
  have f4 := Blk.frozen h 4
  have M := Lib.hid (show MedB (w.setCell ⟨g, 4, none⟩ (.int .i64 x)) g room bn bf wv x false from Blk.setc h 4 _)
  clear h
  go_enter Tryz.func26, Tryz.ntmps26
  go_wp2_with fail
  refine HW.out.mono ?_
  rintro e w1 ⟨rfl, rfl⟩
  go_wp2_with fail
  go_ret
  exact ⟨rfl, M.out, grownBy_set _ _ _ _⟩
theorem read_arg {P : Value} {w : World} (s : ByteArray) (x y : Int) (v : Value) (h : Calls Tryz.prog 48 #[P, .string s] w fun e w' => e = .returned (.tuple #[v, .int .i64 0]) ∧ w = w') (hx : x < 0 ∨ y < 0) :
    Calls Tryz.prog 30 #[P, .string s, .int .i64 x, .int .i64 y] w fun e w' => e = .returned (.tuple #[.slice none 0 0, .int .i64 2]) ∧ w = w' := by
  have HW := Lib.hid h
  clear h
  by_cases h0 : x < 0
  · clear hx
    go_enter Tryz.func30, Tryz.ntmps30
    go_wp2_with fail
    refine HW.out.mono ?_
    rintro e w1 ⟨rfl, rfl⟩
    go_wp2_with fail
    go_ret2
    exact ⟨rfl, rfl⟩
  · have h1 : y < 0 := by omega
    clear hx
    go_enter Tryz.func30, Tryz.ntmps30
    go_wp2_with fail
    refine HW.out.mono ?_
    rintro e w1 ⟨rfl, rfl⟩
    go_wp2_with fail
    go_ret2
    exact ⟨rfl, rfl⟩
theorem read_short {P : Value} {w : World} (s : ByteArray) (x y : Int) (gf nf c : Nat) (A : Option Addr) (b d : Value) (h : Calls Tryz.prog 48 #[P, .string s] w fun e w' => e = .returned (.tuple #[.pointer (some ⟨gf, 0, none⟩), .int .i64 0]) ∧ w = w') (hf : FileB w gf (.slice A nf c) b d) (hn : nf ≤ 16777216) (hx : 0 ≤ x) (hx2 : x ≤ 9223372036854775807) (hy : 0 ≤ y) (hxy : (nf : Int) - x < y) :
    Calls Tryz.prog 30 #[P, .string s, .int .i64 x, .int .i64 y] w fun e w' => e = .returned (.tuple #[.slice none 0 0, .int .i64 3]) ∧ w = w' := by
  have HW := Lib.hid h
  have c0 : w.cell? ⟨gf, 0, none⟩ = some (.slice A nf c) := Blk.cell hf 0
  have h1 : ¬ x < 0 := by omega
  have h2 : ¬ y < 0 := by omega
  clear h hf
  go_enter Tryz.func30, Tryz.ntmps30
  go_wp2_with fail
  refine HW.out.mono ?_
  rintro e w1 ⟨rfl, rfl⟩
  go_wp2_with fail
  go_ret2
  exact ⟨rfl, rfl⟩
end Go.Proofs.YtljacdbdjacbkaaGreat

/- Contracts: a medium's steps at which the power goes off; Rename and Remove where nothing stands against them; Read. It proves no statement. -/



namespace Go.Proofs.YtljacdbdjacbkaaGreat
open Go.RowKit Go.Maps Go.WideMaps
set_option linter.unusedVariables false
set_option linter.unusedSimpArgs false

theorem stepR_zero (off : Bool) : stepR 0 off = (0, true, 12) := by unfold stepR; rw [if_pos rfl]
theorem name_dead {w : World} {g : Nat} {room : Int} {bn bf : Nat} {wv : Value} {off : Bool} (h : MedB w g room bn bf wv 0 off) (s t : ByteArray) (f : Int) :
    Calls Tryz.prog 52 #[.pointer (some ⟨g, 0, none⟩), .agg #[.string s, .string t, pv f]] w fun e w' => e = .returned (.int .i64 12) ∧ MedB w' g room bn bf wv 0 true ∧ Chg w w' (fun x => x = g) := by
  obtain ⟨w1, hw1⟩ : ∃ w1, w1 = w.alloc (.cells #[.string s, .string t, pv f] 96) := ⟨_, rfl⟩
  have S1 : Still w w1 := by rw [hw1]; exact (Still.refl w).alloc (Nat.le_refl _) _
  have ST := Lib.hid (step_yes (h.still S1) (by omega))
  rw [stepR_zero] at ST
  have HW1 := Lib.hid hw1
  have C1 := Lib.hid (Chg.of_still S1 (fun x => x = g))
  obtain ⟨p, hp⟩ : ∃ p, p = pa f := ⟨_, rfl⟩
  have hpv : pv f = .pointer p := by rw [hp]; rfl
  rw [hpv] at HW1 ⊢
  clear h hw1 S1 hp hpv
  go_enter Tryz.func52, Tryz.ntmps52
  go_wp2_with fail
  rw [← HW1.out]
  refine ST.out.mono ?_
  rintro e w2 ⟨rfl, m2, gr2⟩
  have M2 := Lib.hid m2
  have C2 := Lib.hid (C1.out.trans (Chg.of_grown (S := fun x => x = g) gr2 (fun k e _ => by injection e with e; exact e.symm)) (fun _ _ h => h))
  clear ST m2 gr2
  go_wp2_with fail
  go_ret
  exact ⟨rfl, M2.out, C2.out⟩
theorem write_dead {w : World} {g : Nat} {room : Int} {bn bf : Nat} {wv : Value} {off : Bool} (h : MedB w g room bn bf wv 0 off) (gf en m c : Nat) (A : Option Addr) :
    Calls Tryz.prog 53 #[.pointer (some ⟨g, 0, none⟩), .pointer (some ⟨gf, 0, none⟩), .agg #[.int .i64 en, .slice A m c]] w fun e w' => e = .returned (.int .i64 12) ∧ MedB w' g room bn bf wv 0 true ∧ Chg w w' (fun x => x = g) := by
  obtain ⟨w1, hw1⟩ : ∃ w1, w1 = w.alloc (.cells #[.int .i64 en, .slice A m c] 99) := ⟨_, rfl⟩
  have S1 : Still w w1 := by rw [hw1]; exact (Still.refl w).alloc (Nat.le_refl _) _
  have ST := Lib.hid (step_yes (h.still S1) (by omega))
  rw [stepR_zero] at ST
  have HW1 := Lib.hid hw1
  have C1 := Lib.hid (Chg.of_still S1 (fun x => x = g))
  clear h hw1 S1
  go_enter Tryz.func53, Tryz.ntmps53
  go_wp2_with fail
  rw [← HW1.out]
  refine ST.out.mono ?_
  rintro e w2 ⟨rfl, m2, gr2⟩
  have M2 := Lib.hid m2
  have C2 := Lib.hid (C1.out.trans (Chg.of_grown (S := fun x => x = g) gr2 (fun k e _ => by injection e with e; exact e.symm)) (fun _ _ h => h))
  clear ST m2 gr2
  go_wp2_with fail
  go_ret
  exact ⟨rfl, M2.out, C2.out⟩
set_option maxRecDepth 100000 in
theorem create_dead {w : World} {g : Nat} {room : Int} {bn bf : Nat} {wv : Value} (h : MedB w g room bn bf wv 0 false) (s : ByteArray) (n : Nat) (D : DataW Unit) (hown : NM w bn n D) (hs : s.size ≤ maxLen) (hnm : nmOK s.data.toList = true) (hlook : look D s = -1) (hsz : Maps.size D < 500) :
    Calls Tryz.prog 19 #[.pointer (some ⟨g, 0, none⟩), .string s] w fun e w' => e = .returned (.int .i64 12) ∧ MedB w' g room bn bf wv 0 true ∧ Chg w w' (fun x => x = g) := by
  obtain ⟨gf, hgf⟩ : ∃ gf, gf = w.heap.size := ⟨_, rfl⟩
  obtain ⟨w1, hw1⟩ : ∃ w1, w1 = w.alloc (.cells #[.slice none 0 0, .slice none 0 0, .slice none 0 0] 89) := ⟨_, rfl⟩
  have S1 : Still w w1 := by rw [hw1]; exact (Still.refl w).alloc (Nat.le_refl _) _
  have C1 := Lib.hid (Chg.of_still S1 (fun x => x = g))
  have NA := Lib.hid (name_dead (h.still S1) ⟨#[]⟩ s (gf : Int))
  rw [pv_at] at NA
  have WK := Lib.hid (works_on h)
  have IN := Lib.hid (isName_any s hs w)
  rw [hnm] at IN
  have c1 : w.cell? ⟨g, 1, none⟩ = some (.map (some bn)) := Blk.cell h 1
  have HS := Lib.hid hs
  have HL := Lib.hid hlook
  have HO := Lib.hid hown
  have HW1 := Lib.hid hw1
  have HG := Lib.hid hgf
  have hsz2 : (Maps.size D : Int) < 500 := by omega
  clear h hown hs hnm hlook S1 hw1 hgf hsz
  go_enter Tryz.func19, Tryz.ntmps19
  go_wp2_with fail
  refine WK.out.mono ?_
  rintro e w2 ⟨rfl, rfl⟩
  go_wp2_with fail
  refine IN.out.mono ?_
  rintro e w2 ⟨rfl, rfl⟩
  go_wp2_with (first
    | (at_lookup; go_must (refine wpList_look rfl (.tmp 20) (.tmp 21) rfl bn n D rfl HO.out s rfl HS.out ?_; intro f hf hlk; rw [HL.out] at hlk; subst hlk; rw [pv_nil]))
    | (at_len; go_must (refine wpList_len_own _ rfl _ 56 rfl 9 84 underNames ptrElem bn n D rfl HO.out ?_)))
  rw [← HW1.out, ← HG.out]
  refine NA.out.mono ?_
  rintro e w3 ⟨rfl, m3, c3⟩
  have M3 := Lib.hid m3
  have C3 := Lib.hid (C1.out.trans c3 (fun _ _ h => h))
  clear m3 c3 NA
  go_wp2_with fail
  go_ret
  exact ⟨rfl, M3.out, C3.out⟩
theorem rename_by {w : World} {g : Nat} (gf : Nat) (s t : ByteArray) (ht : t.size ≤ 9223372036854775807) (hn : nmOK t.data.toList = true) (E : Int) (R : World → World → Prop)
    (h : Calls Tryz.prog 48 #[.pointer (some ⟨g, 0, none⟩), .string s] w fun e w' => e = .returned (.tuple #[.pointer (some ⟨gf, 0, none⟩), .int .i64 0]) ∧ w = w')
    (hN : Calls Tryz.prog 52 #[.pointer (some ⟨g, 0, none⟩), .agg #[.string s, .string t, pv (gf : Int)]] w fun e w' => e = .returned (.int .i64 E) ∧ R w w') :
    Calls Tryz.prog 22 #[.pointer (some ⟨g, 0, none⟩), .string s, .string t] w fun e w' => e = .returned (.int .i64 E) ∧ R w w' := by
  have HW := Lib.hid h
  have IN := Lib.hid (isName_any t ht w)
  rw [hn] at IN
  have NA := Lib.hid hN
  rw [pv_at] at NA
  clear h ht hn hN
  go_enter Tryz.func22, Tryz.ntmps22
  go_wp2_with fail
  refine HW.out.mono ?_
  rintro e w1 ⟨rfl, rfl⟩
  go_wp2_with fail
  refine IN.out.mono ?_
  rintro e w1 ⟨rfl, rfl⟩
  go_wp2_with fail
  refine NA.out.mono ?_
  rintro e w1 ⟨rfl, r1⟩
  have R1 := Lib.hid r1
  clear r1 NA
  go_wp2_with fail
  go_ret
  exact ⟨rfl, R1.out⟩
theorem remove_by {w : World} {g : Nat} (gf : Nat) (s : ByteArray) (E : Int) (R : World → World → Prop)
    (h : Calls Tryz.prog 48 #[.pointer (some ⟨g, 0, none⟩), .string s] w fun e w' => e = .returned (.tuple #[.pointer (some ⟨gf, 0, none⟩), .int .i64 0]) ∧ w = w')
    (hN : Calls Tryz.prog 52 #[.pointer (some ⟨g, 0, none⟩), .agg #[.string s, .string ⟨#[]⟩, pv (-1)]] w fun e w' => e = .returned (.int .i64 E) ∧ R w w') :
    Calls Tryz.prog 23 #[.pointer (some ⟨g, 0, none⟩), .string s] w fun e w' => e = .returned (.int .i64 E) ∧ R w w' := by
  have HW := Lib.hid h
  have NA := Lib.hid hN
  rw [pv_nil] at NA
  clear h hN
  go_enter Tryz.func23, Tryz.ntmps23
  go_wp2_with fail
  refine HW.out.mono ?_
  rintro e w1 ⟨rfl, rfl⟩
  go_wp2_with fail
  refine NA.out.mono ?_
  rintro e w1 ⟨rfl, r1⟩
  have R1 := Lib.hid r1
  clear r1 NA
  go_wp2_with fail
  go_ret
  exact ⟨rfl, R1.out⟩
theorem truncate_by {w : World} {g : Nat} (gf nf c x : Nat) (A : Option Addr) (b d : Value) (s : ByteArray) (hx : x ≤ nf) (E : Int) (R : World → World → Prop)
    (h : Calls Tryz.prog 48 #[.pointer (some ⟨g, 0, none⟩), .string s] w fun e w' => e = .returned (.tuple #[.pointer (some ⟨gf, 0, none⟩), .int .i64 0]) ∧ w = w') (hf : FileB w gf (.slice A nf c) b d)
    (hN : Calls Tryz.prog 53 #[.pointer (some ⟨g, 0, none⟩), .pointer (some ⟨gf, 0, none⟩), .agg #[.int .i64 x, .slice none 0 0]] w fun e w' => e = .returned (.int .i64 E) ∧ R w w') :
    Calls Tryz.prog 21 #[.pointer (some ⟨g, 0, none⟩), .string s, .int .i64 x] w fun e w' => e = .returned (.int .i64 E) ∧ R w w' := by
  have HW := Lib.hid h
  have NA := Lib.hid hN
  have c0 : w.cell? ⟨gf, 0, none⟩ = some (.slice A nf c) := Blk.cell hf 0
  have h0 : ¬ (x : Int) < 0 := by omega
  have h1 : ¬ (nf : Int) < (x : Int) := by omega
  clear h hN hf
  go_enter Tryz.func21, Tryz.ntmps21
  go_wp2_with fail
  refine HW.out.mono ?_
  rintro e w1 ⟨rfl, rfl⟩
  go_wp2_with fail
  refine NA.out.mono ?_
  rintro e w1 ⟨rfl, r1⟩
  have R1 := Lib.hid r1
  clear r1 NA
  go_wp2_with fail
  go_ret
  exact ⟨rfl, R1.out⟩
theorem sync_dead {w : World} {g : Nat} {room : Int} {bn bf : Nat} {wv : Value} (h : MedB w g room bn bf wv 0 false) (gf : Nat) (s : ByteArray)
    (hF : Calls Tryz.prog 48 #[.pointer (some ⟨g, 0, none⟩), .string s] w fun e w' => e = .returned (.tuple #[.pointer (some ⟨gf, 0, none⟩), .int .i64 0]) ∧ w = w') :
    Calls Tryz.prog 24 #[.pointer (some ⟨g, 0, none⟩), .string s] w fun e w' => e = .returned (.int .i64 12) ∧ MedB w' g room bn bf wv 0 true ∧ Chg w w' (fun x => x = g) := by
  have FD := Lib.hid hF
  have ST := Lib.hid (step_yes h (by omega))
  rw [stepR_zero] at ST
  clear h hF
  go_enter Tryz.func24, Tryz.ntmps24
  go_wp2_with fail
  refine FD.out.mono ?_
  rintro e w2 ⟨rfl, rfl⟩
  go_wp2_with fail
  refine ST.out.mono ?_
  rintro e w3 ⟨rfl, m3, g3⟩
  have C3 := Lib.hid (show Chg w w3 (fun b => b = g) from Chg.of_grown g3 (fun k h _ => by simpa using h.symm))
  have M3 := Lib.hid m3
  clear m3 g3 ST
  go_wp2_with fail
  go_ret
  exact ⟨rfl, M3.out, C3.out⟩
theorem syncDir_dead {w : World} {g : Nat} {room : Int} {bn bf : Nat} {wv : Value} (h : MedB w g room bn bf wv 0 false) :
    Calls Tryz.prog 25 #[.pointer (some ⟨g, 0, none⟩)] w fun e w' => e = .returned (.int .i64 12) ∧ MedB w' g room bn bf wv 0 true ∧ Chg w w' (fun x => x = g) := by
  have WK := Lib.hid (works_on h)
  have ST := Lib.hid (step_yes h (by omega))
  rw [stepR_zero] at ST
  clear h
  go_enter Tryz.func25, Tryz.ntmps25
  go_wp2_with fail
  refine WK.out.mono ?_
  rintro e w2 ⟨rfl, rfl⟩
  go_wp2_with fail
  refine ST.out.mono ?_
  rintro e w3 ⟨rfl, m3, g3⟩
  have C3 := Lib.hid (show Chg w w3 (fun b => b = g) from Chg.of_grown g3 (fun k h _ => by simpa using h.symm))
  have M3 := Lib.hid m3
  clear m3 g3 ST
  go_wp2_with fail
  go_ret
  exact ⟨rfl, M3.out, C3.out⟩
theorem read_ok {w : World} {P : Value} (s : ByteArray) (base x y gf nf : Nat) (nv b d : Value) (l : List UInt8) (h : Calls Tryz.prog 48 #[P, .string s] w fun e w' => e = .returned (.tuple #[.pointer (some ⟨gf, 0, none⟩), .int .i64 0]) ∧ w = w') (hf : FileB w gf nv b d) (hnv : w.ownsRow base 5 1 nv nf (bytesV l)) (hn : nf ≤ 16777216) (hxy : x + y ≤ nf) :
    Calls Tryz.prog 30 #[P, .string s, .int .i64 x, .int .i64 y] w fun e w' => (∃ v, e = .returned (.tuple #[v, .int .i64 0]) ∧ w'.ownsRow w.heap.size 5 1 v y (bytesV ((l.drop x).take y))) ∧ Still w w' := by
  have HW := Lib.hid h
  obtain ⟨A, c, rfl, f1, f2, f3⟩ := own_form hnv
  have c0 : w.cell? ⟨gf, 0, none⟩ = some (.slice A nf c) := Blk.cell hf 0
  have R0 := (((Reads.of_own hnv).dropk (k := x) (by omega)).takek (k := y) (by omega))
  have h1 : ¬ (x : Int) < 0 := by omega
  have h2 : ¬ (y : Int) < 0 := by omega
  have h3 : ¬ ((nf : Int) - x < (y : Int)) := by omega
  have h4 : y ≤ nf := by omega
  have hxc : (x : Int) ≤ c := by omega
  have hlen : l.length = nf := (Reads.of_own hnv).1
  clear hnv
  by_cases hcx : x < c
  · rcases A with _ | ad
    · have := (f3 rfl).2; omega
    have CL := Lib.hid (bclone_any (some (ad.add x)) y (c - x) _ w w.heap.size R0 (Nat.le_refl _) (by omega) (fun e => by cases e))
    clear h hf R0 f3
    go_enter Tryz.func30, Tryz.ntmps30
    go_wp2_with fail
    refine HW.out.mono ?_
    rintro e w1 ⟨rfl, rfl⟩
    go_wp2_with fail
    refine CL.out.mono ?_
    rintro e w3 ⟨⟨v, rfl, o3⟩, s3⟩
    have O3 := Lib.hid o3
    have S3 := Lib.hid s3
    clear o3 s3 CL HW
    go_wp2_with fail
    go_ret2
    exact ⟨⟨_, rfl, O3.out⟩, S3.out⟩
  · obtain rfl : nf = c := by omega
    obtain rfl : x = nf := by omega
    obtain rfl : y = 0 := by omega
    have hl : l.length = x := by
      have := hlen
      omega
    rw [List.take_zero]
    have CL := Lib.hid (bclone_any A 0 0 [] w w.heap.size ⟨rfl, fun h => by omega⟩ (Nat.le_refl _) (by omega) (fun _ => ⟨rfl, rfl⟩))
    clear h hf R0 hcx hl
    go_enter Tryz.func30, Tryz.ntmps30
    go_wp2_with fail
    refine HW.out.mono ?_
    rintro e w1 ⟨rfl, rfl⟩
    go_wp2_with fail
    refine CL.out.mono ?_
    rintro e w3 ⟨⟨v, rfl, o3⟩, s3⟩
    have O3 := Lib.hid o3
    have S3 := Lib.hid s3
    clear o3 s3 CL HW
    go_wp2_with fail
    go_ret2
    exact ⟨⟨_, rfl, O3.out⟩, S3.out⟩
end Go.Proofs.YtljacdbdjacbkaaGreat
