/- Contracts and facts, several texts in one. It proves no statement. -/
import Derived.Test.YtfneloobfidckaaGreatDoorSf03
import Derived.Test.YtfneloobfidckaaGreatDoorSf01
import Derived.Test.YtfneloobfidckaaGreatDoorSf05
import Derived.Test.YtfneloobfidckaaGreatDoorSf06
import Derived.Deep.Upon

/- Contracts: a medium's calls where works or find answers an error. It proves no statement. -/


namespace Go.Proofs.YtfneloobfidckaaGreatDoor
open Go.RowKit Go.Maps Go.WideMaps
set_option linter.unusedVariables false
set_option linter.unusedSimpArgs false

theorem create_err (P : Value) (s : ByteArray) (w : World) (E : Int) (b1 : (E != 0) = true) (h : Calls Tryz.prog 98 #[P] w fun e w' => e = .returned (.int .i64 E) ∧ w = w') : Calls Tryz.prog 121 #[P, .string s] w fun e w' => e = .returned (.int .i64 E) ∧ w = w' := by
  have HW := Lib.hid h
  clear h
  go_enter Tryz.func121, Tryz.ntmps121
  go_wp2_with fail
  refine HW.out.mono ?_
  rintro e w1 ⟨rfl, rfl⟩
  go_wp2_with fail
  go_ret
  exact ⟨rfl, rfl⟩
theorem append_err (P : Value) (s : ByteArray) (A : Option Addr) (n c : Nat) (w : World) (E : Int) (b1 : (E != 0) = true) (h : Calls Tryz.prog 137 #[P, .string s] w fun e w' => e = .returned (.tuple #[.pointer none, .int .i64 E]) ∧ w = w') : Calls Tryz.prog 123 #[P, .string s, .slice A n c] w fun e w' => e = .returned (.int .i64 E) ∧ w = w' := by
  have HW := Lib.hid h
  clear h
  go_enter Tryz.func123, Tryz.ntmps123
  go_wp2_with fail
  refine HW.out.mono ?_
  rintro e w1 ⟨rfl, rfl⟩
  go_wp2_with fail
  go_ret
  exact ⟨rfl, rfl⟩
theorem remove_err (P : Value) (s : ByteArray) (w : World) (E : Int) (b1 : (E != 0) = true) (h : Calls Tryz.prog 137 #[P, .string s] w fun e w' => e = .returned (.tuple #[.pointer none, .int .i64 E]) ∧ w = w') : Calls Tryz.prog 153 #[P, .string s] w fun e w' => e = .returned (.int .i64 E) ∧ w = w' := by
  have HW := Lib.hid h
  clear h
  go_enter Tryz.func153, Tryz.ntmps153
  go_wp2_with fail
  refine HW.out.mono ?_
  rintro e w1 ⟨rfl, rfl⟩
  go_wp2_with fail
  go_ret
  exact ⟨rfl, rfl⟩
theorem sync_err (P : Value) (s : ByteArray) (w : World) (E : Int) (b1 : (E != 0) = true) (h : Calls Tryz.prog 137 #[P, .string s] w fun e w' => e = .returned (.tuple #[.pointer none, .int .i64 E]) ∧ w = w') : Calls Tryz.prog 88 #[P, .string s] w fun e w' => e = .returned (.int .i64 E) ∧ w = w' := by
  have HW := Lib.hid h
  clear h
  go_enter Tryz.func88, Tryz.ntmps88
  go_wp2_with fail
  refine HW.out.mono ?_
  rintro e w1 ⟨rfl, rfl⟩
  go_wp2_with fail
  go_ret
  exact ⟨rfl, rfl⟩
theorem syncDir_err (P : Value) (w : World) (E : Int) (b1 : (E != 0) = true) (h : Calls Tryz.prog 98 #[P] w fun e w' => e = .returned (.int .i64 E) ∧ w = w') : Calls Tryz.prog 90 #[P] w fun e w' => e = .returned (.int .i64 E) ∧ w = w' := by
  have HW := Lib.hid h
  clear h
  go_enter Tryz.func90, Tryz.ntmps90
  go_wp2_with fail
  refine HW.out.mono ?_
  rintro e w1 ⟨rfl, rfl⟩
  go_wp2_with fail
  go_ret
  exact ⟨rfl, rfl⟩
theorem read_err (P : Value) (s : ByteArray) (x y : Int) (w : World) (E : Int) (b1 : (E != 0) = true) (h : Calls Tryz.prog 137 #[P, .string s] w fun e w' => e = .returned (.tuple #[.pointer none, .int .i64 E]) ∧ w = w') : Calls Tryz.prog 109 #[P, .string s, .int .i64 x, .int .i64 y] w fun e w' => e = .returned (.tuple #[.slice none 0 0, .int .i64 E]) ∧ w = w' := by
  have HW := Lib.hid h
  clear h
  go_enter Tryz.func109, Tryz.ntmps109
  go_wp2_with fail
  refine HW.out.mono ?_
  rintro e w1 ⟨rfl, rfl⟩
  go_wp2_with fail
  go_ret2
  exact ⟨rfl, rfl⟩
theorem all_err (P : Value) (s : ByteArray) (w : World) (E : Int) (b1 : (E != 0) = true) (h : Calls Tryz.prog 137 #[P, .string s] w fun e w' => e = .returned (.tuple #[.pointer none, .int .i64 E]) ∧ w = w') : Calls Tryz.prog 115 #[P, .string s] w fun e w' => e = .returned (.tuple #[.slice none 0 0, .int .i64 E]) ∧ w = w' := by
  have HW := Lib.hid h
  clear h
  go_enter Tryz.func115, Tryz.ntmps115
  go_wp2_with fail
  refine HW.out.mono ?_
  rintro e w1 ⟨rfl, rfl⟩
  go_wp2_with fail
  go_ret2
  exact ⟨rfl, rfl⟩
theorem list_err (P : Value) (w : World) (E : Int) (b1 : (E != 0) = true) (h : Calls Tryz.prog 98 #[P] w fun e w' => e = .returned (.int .i64 E) ∧ w = w') : Calls Tryz.prog 48 #[P] w fun e w' => e = .returned (.slice none 0 0) ∧ w = w' := by
  have HW := Lib.hid h
  clear h
  go_enter Tryz.func48, Tryz.ntmps48
  go_wp2_with fail
  refine HW.out.mono ?_
  rintro e w1 ⟨rfl, rfl⟩
  go_wp2_with fail
  go_ret
  exact ⟨rfl, rfl⟩
theorem used_err (P : Value) (w : World) (E : Int) (b1 : (E != 0) = true) (h : Calls Tryz.prog 98 #[P] w fun e w' => e = .returned (.int .i64 E) ∧ w = w') : Calls Tryz.prog 47 #[P] w fun e w' => e = .returned (.int .i64 0) ∧ w = w' := by
  have HW := Lib.hid h
  clear h
  go_enter Tryz.func47, Tryz.ntmps47
  go_wp2_with fail
  refine HW.out.mono ?_
  rintro e w1 ⟨rfl, rfl⟩
  go_wp2_with fail
  go_ret
  exact ⟨rfl, rfl⟩
theorem setRoom_err (P : Value) (x : Int) (w : World) (E : Int) (b1 : (E != 0) = true) (h : Calls Tryz.prog 98 #[P] w fun e w' => e = .returned (.int .i64 E) ∧ w = w') : Calls Tryz.prog 46 #[P, .int .i64 x] w fun e w' => e = .returned (.int .i64 E) ∧ w = w' := by
  have HW := Lib.hid h
  clear h
  go_enter Tryz.func46, Tryz.ntmps46
  go_wp2_with fail
  refine HW.out.mono ?_
  rintro e w1 ⟨rfl, rfl⟩
  go_wp2_with fail
  go_ret
  exact ⟨rfl, rfl⟩
theorem arm_err (P : Value) (x : Int) (w : World) (E : Int) (b1 : (E != 0) = true) (h : Calls Tryz.prog 98 #[P] w fun e w' => e = .returned (.int .i64 E) ∧ w = w') : Calls Tryz.prog 30 #[P, .int .i64 x] w fun e w' => e = .returned (.int .i64 E) ∧ w = w' := by
  have HW := Lib.hid h
  clear h
  go_enter Tryz.func30, Tryz.ntmps30
  go_wp2_with fail
  refine HW.out.mono ?_
  rintro e w1 ⟨rfl, rfl⟩
  go_wp2_with fail
  go_ret
  exact ⟨rfl, rfl⟩
end Go.Proofs.YtfneloobfidckaaGreatDoor

/- Contracts: a medium's calls where their own errors stand against them; Arm, SetRoom, Power, Room, Read. It proves no statement. -/





namespace Go.Proofs.YtfneloobfidckaaGreatDoor
open Go.RowKit Go.Maps Go.WideMaps
set_option linter.unusedVariables false
set_option linter.unusedSimpArgs false

theorem works_on {w : World} {g : Nat} {room : Int} {bn bf : Nat} {wv : Value} {left : Int} (h : MedB w g room bn bf wv left false) : Calls Tryz.prog 98 #[.pointer (some ⟨g, 0, none⟩)] w fun e w' => e = .returned (.int .i64 0) ∧ w = w' := works_yes h
theorem works_off {w : World} {g : Nat} {room : Int} {bn bf : Nat} {wv : Value} {left : Int} (h : MedB w g room bn bf wv left true) : Calls Tryz.prog 98 #[.pointer (some ⟨g, 0, none⟩)] w fun e w' => e = .returned (.int .i64 12) ∧ w = w' := works_yes h
theorem find_off {w : World} {g : Nat} {room : Int} {bn bf : Nat} {wv : Value} {left : Int} (h : MedB w g room bn bf wv left true) (s : ByteArray) (n : Nat) (D : DataW Unit) (hown : NM w bn n D) (hs : s.size ≤ maxLen) : Calls Tryz.prog 137 #[.pointer (some ⟨g, 0, none⟩), .string s] w fun e w' => e = .returned (.tuple #[.pointer none, .int .i64 12]) ∧ w = w' := find_yes h s n D hown hs
theorem find_none {w : World} {g : Nat} {room : Int} {bn bf : Nat} {wv : Value} {left : Int} (h : MedB w g room bn bf wv left false) (s : ByteArray) (n : Nat) (D : DataW Unit) (hown : NM w bn n D) (hs : s.size ≤ maxLen) (hlk : look D s = -1) : Calls Tryz.prog 137 #[.pointer (some ⟨g, 0, none⟩), .string s] w fun e w' => e = .returned (.tuple #[.pointer none, .int .i64 9]) ∧ w = w' := by
  have FD := find_yes h s n D hown hs
  rw [hlk] at FD
  exact FD
theorem find_there {w : World} {g : Nat} {room : Int} {bn bf : Nat} {wv : Value} {left : Int} (h : MedB w g room bn bf wv left false) (s : ByteArray) (n : Nat) (D : DataW Unit) (hown : NM w bn n D) (hs : s.size ≤ maxLen) (gf : Nat) (hlk : look D s = (gf : Int)) : Calls Tryz.prog 137 #[.pointer (some ⟨g, 0, none⟩), .string s] w fun e w' => e = .returned (.tuple #[.pointer (some ⟨gf, 0, none⟩), .int .i64 0]) ∧ w = w' := by
  have FD := find_yes h s n D hown hs
  rw [hlk, show findV false (gf : Int) = pv (gf : Int) from rfl, pv_at, show findE false (gf : Int) = if (gf : Int) < 0 then 9 else 0 from rfl, if_neg (by omega)] at FD
  exact FD
def roomOK (x : Int) : Bool := decide (0 ≤ x ∧ x ≤ 16777216)
theorem create_bad (P : Value) (s : ByteArray) (hs : s.size ≤ 9223372036854775807) (hn : nmOK s.data.toList = false) (w : World) (h : Calls Tryz.prog 98 #[P] w fun e w' => e = .returned (.int .i64 0) ∧ w = w') : Calls Tryz.prog 121 #[P, .string s] w fun e w' => e = .returned (.int .i64 7) ∧ w = w' := by
  have HW := Lib.hid h
  have IN := Lib.hid (isName_any s hs w)
  rw [hn] at IN
  clear h hs hn
  go_enter Tryz.func121, Tryz.ntmps121
  go_wp2_with fail
  refine HW.out.mono ?_
  rintro e w1 ⟨rfl, rfl⟩
  go_wp2_with fail
  refine IN.out.mono ?_
  rintro e w1 ⟨rfl, rfl⟩
  go_wp2_with fail
  go_ret
  exact ⟨rfl, rfl⟩
theorem create_there {w : World} {g : Nat} {room : Int} {bn bf : Nat} {wv : Value} {left : Int} (h : MedB w g room bn bf wv left false) (s : ByteArray) (n : Nat) (D : DataW Unit) (hown : NM w bn n D) (hs : s.size ≤ maxLen) (hnm : nmOK s.data.toList = true) (gf : Nat) (hlook : look D s = (gf : Int)) :
    Calls Tryz.prog 121 #[.pointer (some ⟨g, 0, none⟩), .string s] w fun e w' => e = .returned (.int .i64 10) ∧ w = w' := by
  have WK := Lib.hid (works_on h)
  have IN := Lib.hid (isName_any s hs w)
  rw [hnm] at IN
  have c1 : w.cell? ⟨g, 1, none⟩ = some (.map (some bn)) := Blk.cell h 1
  have HS := Lib.hid hs
  have HL := Lib.hid hlook
  have HO := Lib.hid hown
  clear h hown hs hnm hlook
  go_enter Tryz.func121, Tryz.ntmps121
  go_wp2_with fail
  refine WK.out.mono ?_
  rintro e w2 ⟨rfl, rfl⟩
  go_wp2_with fail
  refine IN.out.mono ?_
  rintro e w2 ⟨rfl, rfl⟩
  go_wp2_with (at_lookup; go_must (refine wpList_look rfl (.tmp 20) (.tmp 21) rfl bn n D rfl HO.out s rfl HS.out ?_; intro f hf hlk; rw [HL.out] at hlk; subst hlk; rw [pv_at]; clear hf))
  go_ret
  exact ⟨rfl, rfl⟩
theorem create_many {w : World} {g : Nat} {room : Int} {bn bf : Nat} {wv : Value} {left : Int} (h : MedB w g room bn bf wv left false) (s : ByteArray) (n : Nat) (D : DataW Unit) (hown : NM w bn n D) (hs : s.size ≤ maxLen) (hnm : nmOK s.data.toList = true) (hlook : look D s = -1) (hsz : 500 ≤ Maps.size D) :
    Calls Tryz.prog 121 #[.pointer (some ⟨g, 0, none⟩), .string s] w fun e w' => e = .returned (.int .i64 16) ∧ w = w' := by
  have WK := Lib.hid (works_on h)
  have IN := Lib.hid (isName_any s hs w)
  rw [hnm] at IN
  have c1 : w.cell? ⟨g, 1, none⟩ = some (.map (some bn)) := Blk.cell h 1
  have HS := Lib.hid hs
  have HL := Lib.hid hlook
  have HO := Lib.hid hown
  have hsz2 : 500 ≤ (Maps.size D : Int) := by omega
  clear h hown hs hnm hlook hsz
  go_enter Tryz.func121, Tryz.ntmps121
  go_wp2_with fail
  refine WK.out.mono ?_
  rintro e w2 ⟨rfl, rfl⟩
  go_wp2_with fail
  refine IN.out.mono ?_
  rintro e w2 ⟨rfl, rfl⟩
  go_wp2_with (first
    | (at_lookup; go_must (refine wpList_look rfl (.tmp 20) (.tmp 21) rfl bn n D rfl HO.out s rfl HS.out ?_; intro f hf hlk; rw [HL.out] at hlk; subst hlk; rw [pv_nil]))
    | (at_len; go_must (refine wpList_len_own _ rfl _ 144 rfl 9 185 underNames ptrElem bn n D rfl HO.out ?_)))
  go_ret
  exact ⟨rfl, rfl⟩
theorem setRoom_arg {P : Value} {w : World} (x : Int) (hx : roomOK x = false) (h : Calls Tryz.prog 98 #[P] w fun e w' => e = .returned (.int .i64 0) ∧ w = w') :
    Calls Tryz.prog 46 #[P, .int .i64 x] w fun e w' => e = .returned (.int .i64 2) ∧ w = w' := by
  have HW := Lib.hid h
  have IR := Lib.hid (isRoom_any x w)
  rw [show decide (0 ≤ x ∧ x ≤ 16777216) = false from hx] at IR
  clear h hx
  go_enter Tryz.func46, Tryz.ntmps46
  go_wp2_with fail
  refine HW.out.mono ?_
  rintro e w1 ⟨rfl, rfl⟩
  go_wp2_with fail
  refine IR.out.mono ?_
  rintro e w1 ⟨rfl, rfl⟩
  go_wp2_with fail
  go_ret
  exact ⟨rfl, rfl⟩
theorem setRoom_ok {w : World} {g : Nat} {room : Int} {bn bf : Nat} {wv : Value} {left : Int} (h : MedB w g room bn bf wv left false) (x : Int) (hx : roomOK x = true) :
    Calls Tryz.prog 46 #[.pointer (some ⟨g, 0, none⟩), .int .i64 x] w fun e w' => e = .returned (.int .i64 0) ∧ MedB w' g x bn bf wv left false ∧ w.grownBy w' (some g) := by
  have HW := Lib.hid (works_on h)
  have IR := Lib.hid (isRoom_any x w)
  rw [show decide (0 ≤ x ∧ x ≤ 16777216) = true from hx] at IR
  have c0 : w.cell? ⟨g, 0, none⟩ = some (.int .i64 room) := Blk.cell h 0
  have f0 := Blk.frozen h 0
  have M := Lib.hid (show MedB (w.setCell ⟨g, 0, none⟩ (.int .i64 x)) g x bn bf wv left false from Blk.setc h 0 _)
  clear h hx
  go_enter Tryz.func46, Tryz.ntmps46
  go_wp2_with fail
  refine HW.out.mono ?_
  rintro e w1 ⟨rfl, rfl⟩
  go_wp2_with fail
  refine IR.out.mono ?_
  rintro e w1 ⟨rfl, rfl⟩
  go_wp2_with fail
  go_ret
  exact ⟨rfl, M.out, grownBy_set _ _ _ _⟩
theorem arm_arg {P : Value} {w : World} (x : Int) (hx : x < 0) (h : Calls Tryz.prog 98 #[P] w fun e w' => e = .returned (.int .i64 0) ∧ w = w') :
    Calls Tryz.prog 30 #[P, .int .i64 x] w fun e w' => e = .returned (.int .i64 2) ∧ w = w' := by
  have HW := Lib.hid h
  clear h
  go_enter Tryz.func30, Tryz.ntmps30
  go_wp2_with fail
  refine HW.out.mono ?_
  rintro e w1 ⟨rfl, rfl⟩
  go_wp2_with fail
  go_ret
  exact ⟨rfl, rfl⟩
theorem arm_ok {w : World} {g : Nat} {room : Int} {bn bf : Nat} {wv : Value} {left : Int} (h : MedB w g room bn bf wv left false) (x : Int) (hx : 0 ≤ x) :
    Calls Tryz.prog 30 #[.pointer (some ⟨g, 0, none⟩), .int .i64 x] w fun e w' => e = .returned (.int .i64 0) ∧ MedB w' g room bn bf wv x false ∧ w.grownBy w' (some g) := by
  have HW := Lib.hid (works_on h)
  have c4 : w.cell? ⟨g, 4, none⟩ = some (.int .i64 left) := Blk.cell h 4
  have f4 := Blk.frozen h 4
  have M := Lib.hid (show MedB (w.setCell ⟨g, 4, none⟩ (.int .i64 x)) g room bn bf wv x false from Blk.setc h 4 _)
  clear h
  go_enter Tryz.func30, Tryz.ntmps30
  go_wp2_with fail
  refine HW.out.mono ?_
  rintro e w1 ⟨rfl, rfl⟩
  go_wp2_with fail
  go_ret
  exact ⟨rfl, M.out, grownBy_set _ _ _ _⟩
theorem read_arg {P : Value} {w : World} (s : ByteArray) (x y : Int) (v : Value) (h : Calls Tryz.prog 137 #[P, .string s] w fun e w' => e = .returned (.tuple #[v, .int .i64 0]) ∧ w = w') (hx : x < 0 ∨ y < 0) :
    Calls Tryz.prog 109 #[P, .string s, .int .i64 x, .int .i64 y] w fun e w' => e = .returned (.tuple #[.slice none 0 0, .int .i64 2]) ∧ w = w' := by
  have HW := Lib.hid h
  clear h
  by_cases h0 : x < 0
  · clear hx
    go_enter Tryz.func109, Tryz.ntmps109
    go_wp2_with fail
    refine HW.out.mono ?_
    rintro e w1 ⟨rfl, rfl⟩
    go_wp2_with fail
    go_ret2
    exact ⟨rfl, rfl⟩
  · have h1 : y < 0 := by omega
    clear hx
    go_enter Tryz.func109, Tryz.ntmps109
    go_wp2_with fail
    refine HW.out.mono ?_
    rintro e w1 ⟨rfl, rfl⟩
    go_wp2_with fail
    go_ret2
    exact ⟨rfl, rfl⟩
theorem read_short {P : Value} {w : World} (s : ByteArray) (x y : Int) (gf nf c : Nat) (A : Option Addr) (b d : Value) (h : Calls Tryz.prog 137 #[P, .string s] w fun e w' => e = .returned (.tuple #[.pointer (some ⟨gf, 0, none⟩), .int .i64 0]) ∧ w = w') (hf : FileB w gf (.slice A nf c) b d) (hn : nf ≤ 16777216) (hx : 0 ≤ x) (hx2 : x ≤ 9223372036854775807) (hy : 0 ≤ y) (hxy : (nf : Int) - x < y) :
    Calls Tryz.prog 109 #[P, .string s, .int .i64 x, .int .i64 y] w fun e w' => e = .returned (.tuple #[.slice none 0 0, .int .i64 3]) ∧ w = w' := by
  have HW := Lib.hid h
  have c0 : w.cell? ⟨gf, 0, none⟩ = some (.slice A nf c) := Blk.cell hf 0
  have h1 : ¬ x < 0 := by omega
  have h2 : ¬ y < 0 := by omega
  clear h hf
  go_enter Tryz.func109, Tryz.ntmps109
  go_wp2_with fail
  refine HW.out.mono ?_
  rintro e w1 ⟨rfl, rfl⟩
  go_wp2_with fail
  go_ret2
  exact ⟨rfl, rfl⟩
end Go.Proofs.YtfneloobfidckaaGreatDoor
