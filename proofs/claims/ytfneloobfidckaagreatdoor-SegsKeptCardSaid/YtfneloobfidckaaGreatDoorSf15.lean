/- Contracts and facts, several texts in one. It proves no statement. -/
import Derived.Test.YtfneloobfidckaaGreatDoorSf14
import Derived.Test.YtfneloobfidckaaGreatDoorSf04
import Derived.Test.YtfneloobfidckaaGreatDoorSf07

/- Contracts: a medium's steps at which the power goes off; Rename and Remove where nothing stands against them; Read. It proves no statement. -/



namespace Go.Proofs.YtfneloobfidckaaGreatDoor
open Go.RowKit Go.Maps Go.WideMaps
set_option linter.unusedVariables false
set_option linter.unusedSimpArgs false

theorem stepR_zero (off : Bool) : stepR 0 off = (0, true, 12) := by unfold stepR; rw [if_pos rfl]
theorem name_dead {w : World} {g : Nat} {room : Int} {bn bf : Nat} {wv : Value} {off : Bool} (h : MedB w g room bn bf wv 0 off) (s t : ByteArray) (f : Int) :
    Calls Tryz.prog 174 #[.pointer (some ⟨g, 0, none⟩), .agg #[.string s, .string t, pv f]] w fun e w' => e = .returned (.int .i64 12) ∧ MedB w' g room bn bf wv 0 true ∧ Chg w w' (fun x => x = g) := by
  obtain ⟨w1, hw1⟩ : ∃ w1, w1 = w.alloc (.cells #[.string s, .string t, pv f] 263) := ⟨_, rfl⟩
  have S1 : Still w w1 := by rw [hw1]; exact (Still.refl w).alloc (Nat.le_refl _) _
  have ST := Lib.hid (step_yes (h.still S1) (by omega))
  rw [stepR_zero] at ST
  have HW1 := Lib.hid hw1
  have C1 := Lib.hid (Chg.of_still S1 (fun x => x = g))
  obtain ⟨p, hp⟩ : ∃ p, p = pa f := ⟨_, rfl⟩
  have hpv : pv f = .pointer p := by rw [hp]; rfl
  rw [hpv] at HW1 ⊢
  clear h hw1 S1 hp hpv
  go_enter Tryz.func174, Tryz.ntmps174
  go_wp2_with fail
  rw [← HW1.out]
  refine ST.out.mono ?_
  rintro e w2 ⟨rfl, m2, gr2⟩
  have M2 := Lib.hid m2
  have C2 := Lib.hid (C1.out.trans (Chg.of_grown (S := fun x => x = g) gr2 (fun k e _ => by injection e with e; exact e.symm)) (fun _ _ h => h))
  clear ST m2 gr2
  go_wp2_with fail
  go_ret
  exact ⟨rfl, M2.out, C2.out⟩
theorem write_dead {w : World} {g : Nat} {room : Int} {bn bf : Nat} {wv : Value} {off : Bool} (h : MedB w g room bn bf wv 0 off) (gf en m c : Nat) (A : Option Addr) :
    Calls Tryz.prog 175 #[.pointer (some ⟨g, 0, none⟩), .pointer (some ⟨gf, 0, none⟩), .agg #[.int .i64 en, .slice A m c]] w fun e w' => e = .returned (.int .i64 12) ∧ MedB w' g room bn bf wv 0 true ∧ Chg w w' (fun x => x = g) := by
  obtain ⟨w1, hw1⟩ : ∃ w1, w1 = w.alloc (.cells #[.int .i64 en, .slice A m c] 267) := ⟨_, rfl⟩
  have S1 : Still w w1 := by rw [hw1]; exact (Still.refl w).alloc (Nat.le_refl _) _
  have ST := Lib.hid (step_yes (h.still S1) (by omega))
  rw [stepR_zero] at ST
  have HW1 := Lib.hid hw1
  have C1 := Lib.hid (Chg.of_still S1 (fun x => x = g))
  clear h hw1 S1
  go_enter Tryz.func175, Tryz.ntmps175
  go_wp2_with fail
  rw [← HW1.out]
  refine ST.out.mono ?_
  rintro e w2 ⟨rfl, m2, gr2⟩
  have M2 := Lib.hid m2
  have C2 := Lib.hid (C1.out.trans (Chg.of_grown (S := fun x => x = g) gr2 (fun k e _ => by injection e with e; exact e.symm)) (fun _ _ h => h))
  clear ST m2 gr2
  go_wp2_with fail
  go_ret
  exact ⟨rfl, M2.out, C2.out⟩
set_option maxRecDepth 100000 in
theorem create_dead {w : World} {g : Nat} {room : Int} {bn bf : Nat} {wv : Value} (h : MedB w g room bn bf wv 0 false) (s : ByteArray) (n : Nat) (D : DataW Unit) (hown : NM w bn n D) (hs : s.size ≤ maxLen) (hnm : nmOK s.data.toList = true) (hlook : look D s = -1) (hsz : Maps.size D < 500) :
    Calls Tryz.prog 121 #[.pointer (some ⟨g, 0, none⟩), .string s] w fun e w' => e = .returned (.int .i64 12) ∧ MedB w' g room bn bf wv 0 true ∧ Chg w w' (fun x => x = g) := by
  obtain ⟨gf, hgf⟩ : ∃ gf, gf = w.heap.size := ⟨_, rfl⟩
  obtain ⟨w1, hw1⟩ : ∃ w1, w1 = w.alloc (.cells #[.slice none 0 0, .slice none 0 0, .slice none 0 0] 203) := ⟨_, rfl⟩
  have S1 : Still w w1 := by rw [hw1]; exact (Still.refl w).alloc (Nat.le_refl _) _
  have C1 := Lib.hid (Chg.of_still S1 (fun x => x = g))
  have NA := Lib.hid (name_dead (h.still S1) ⟨#[]⟩ s (gf : Int))
  rw [pv_at] at NA
  have WK := Lib.hid (works_on h)
  have IN := Lib.hid (isName_any s hs w)
  rw [hnm] at IN
  have c1 : w.cell? ⟨g, 1, none⟩ = some (.map (some bn)) := Blk.cell h 1
  have HS := Lib.hid hs
  have HL := Lib.hid hlook
  have HO := Lib.hid hown
  have HW1 := Lib.hid hw1
  have HG := Lib.hid hgf
  have hsz2 : (Maps.size D : Int) < 500 := by omega
  clear h hown hs hnm hlook S1 hw1 hgf hsz
  go_enter Tryz.func121, Tryz.ntmps121
  go_wp2_with fail
  refine WK.out.mono ?_
  rintro e w2 ⟨rfl, rfl⟩
  go_wp2_with fail
  refine IN.out.mono ?_
  rintro e w2 ⟨rfl, rfl⟩
  go_wp2_with (first
    | (at_lookup; go_must (refine wpList_look rfl (.tmp 20) (.tmp 21) rfl bn n D rfl HO.out s rfl HS.out ?_; intro f hf hlk; rw [HL.out] at hlk; subst hlk; rw [pv_nil]))
    | (at_len; go_must (refine wpList_len_own _ rfl _ 144 rfl 9 185 underNames ptrElem bn n D rfl HO.out ?_)))
  rw [← HW1.out, ← HG.out]
  refine NA.out.mono ?_
  rintro e w3 ⟨rfl, m3, c3⟩
  have M3 := Lib.hid m3
  have C3 := Lib.hid (C1.out.trans c3 (fun _ _ h => h))
  clear m3 c3 NA
  go_wp2_with fail
  go_ret
  exact ⟨rfl, M3.out, C3.out⟩
theorem remove_by {w : World} {g : Nat} (gf : Nat) (s : ByteArray) (E : Int) (R : World → World → Prop)
    (h : Calls Tryz.prog 137 #[.pointer (some ⟨g, 0, none⟩), .string s] w fun e w' => e = .returned (.tuple #[.pointer (some ⟨gf, 0, none⟩), .int .i64 0]) ∧ w = w')
    (hN : Calls Tryz.prog 174 #[.pointer (some ⟨g, 0, none⟩), .agg #[.string s, .string ⟨#[]⟩, pv (-1)]] w fun e w' => e = .returned (.int .i64 E) ∧ R w w') :
    Calls Tryz.prog 153 #[.pointer (some ⟨g, 0, none⟩), .string s] w fun e w' => e = .returned (.int .i64 E) ∧ R w w' := by
  have HW := Lib.hid h
  have NA := Lib.hid hN
  rw [pv_nil] at NA
  clear h hN
  go_enter Tryz.func153, Tryz.ntmps153
  go_wp2_with fail
  refine HW.out.mono ?_
  rintro e w1 ⟨rfl, rfl⟩
  go_wp2_with fail
  refine NA.out.mono ?_
  rintro e w1 ⟨rfl, r1⟩
  have R1 := Lib.hid r1
  clear r1 NA
  go_wp2_with fail
  go_ret
  exact ⟨rfl, R1.out⟩
theorem sync_dead {w : World} {g : Nat} {room : Int} {bn bf : Nat} {wv : Value} (h : MedB w g room bn bf wv 0 false) (gf : Nat) (s : ByteArray)
    (hF : Calls Tryz.prog 137 #[.pointer (some ⟨g, 0, none⟩), .string s] w fun e w' => e = .returned (.tuple #[.pointer (some ⟨gf, 0, none⟩), .int .i64 0]) ∧ w = w') :
    Calls Tryz.prog 88 #[.pointer (some ⟨g, 0, none⟩), .string s] w fun e w' => e = .returned (.int .i64 12) ∧ MedB w' g room bn bf wv 0 true ∧ Chg w w' (fun x => x = g) := by
  have FD := Lib.hid hF
  have ST := Lib.hid (step_yes h (by omega))
  rw [stepR_zero] at ST
  clear h hF
  go_enter Tryz.func88, Tryz.ntmps88
  go_wp2_with fail
  refine FD.out.mono ?_
  rintro e w2 ⟨rfl, rfl⟩
  go_wp2_with fail
  refine ST.out.mono ?_
  rintro e w3 ⟨rfl, m3, g3⟩
  have C3 := Lib.hid (show Chg w w3 (fun b => b = g) from Chg.of_grown g3 (fun k h _ => by simpa using h.symm))
  have M3 := Lib.hid m3
  clear m3 g3 ST
  go_wp2_with fail
  go_ret
  exact ⟨rfl, M3.out, C3.out⟩
theorem syncDir_dead {w : World} {g : Nat} {room : Int} {bn bf : Nat} {wv : Value} (h : MedB w g room bn bf wv 0 false) :
    Calls Tryz.prog 90 #[.pointer (some ⟨g, 0, none⟩)] w fun e w' => e = .returned (.int .i64 12) ∧ MedB w' g room bn bf wv 0 true ∧ Chg w w' (fun x => x = g) := by
  have WK := Lib.hid (works_on h)
  have ST := Lib.hid (step_yes h (by omega))
  rw [stepR_zero] at ST
  clear h
  go_enter Tryz.func90, Tryz.ntmps90
  go_wp2_with fail
  refine WK.out.mono ?_
  rintro e w2 ⟨rfl, rfl⟩
  go_wp2_with fail
  refine ST.out.mono ?_
  rintro e w3 ⟨rfl, m3, g3⟩
  have C3 := Lib.hid (show Chg w w3 (fun b => b = g) from Chg.of_grown g3 (fun k h _ => by simpa using h.symm))
  have M3 := Lib.hid m3
  clear m3 g3 ST
  go_wp2_with fail
  go_ret
  exact ⟨rfl, M3.out, C3.out⟩
theorem read_ok {w : World} {P : Value} (s : ByteArray) (base x y gf nf : Nat) (nv b d : Value) (l : List UInt8) (h : Calls Tryz.prog 137 #[P, .string s] w fun e w' => e = .returned (.tuple #[.pointer (some ⟨gf, 0, none⟩), .int .i64 0]) ∧ w = w') (hf : FileB w gf nv b d) (hnv : w.ownsRow base 5 1 nv nf (bytesV l)) (hn : nf ≤ 16777216) (hxy : x + y ≤ nf) :
    Calls Tryz.prog 109 #[P, .string s, .int .i64 x, .int .i64 y] w fun e w' => (∃ v, e = .returned (.tuple #[v, .int .i64 0]) ∧ w'.ownsRow w.heap.size 5 1 v y (bytesV ((l.drop x).take y))) ∧ Still w w' := by
  have HW := Lib.hid h
  obtain ⟨A, c, rfl, f1, f2, f3⟩ := own_form hnv
  have c0 : w.cell? ⟨gf, 0, none⟩ = some (.slice A nf c) := Blk.cell hf 0
  have R0 := (((Reads.of_own hnv).dropk (k := x) (by omega)).takek (k := y) (by omega))
  have h1 : ¬ (x : Int) < 0 := by omega
  have h2 : ¬ (y : Int) < 0 := by omega
  have h3 : ¬ ((nf : Int) - x < (y : Int)) := by omega
  have h4 : y ≤ nf := by omega
  have hxc : (x : Int) ≤ c := by omega
  have hlen : l.length = nf := (Reads.of_own hnv).1
  clear hnv
  by_cases hcx : x < c
  · rcases A with _ | ad
    · have := (f3 rfl).2; omega
    have CL := Lib.hid (bclone_any (some (ad.add x)) y (c - x) _ w w.heap.size R0 (Nat.le_refl _) (by omega) (fun e => by cases e))
    clear h hf R0 f3
    go_enter Tryz.func109, Tryz.ntmps109
    go_wp2_with fail
    refine HW.out.mono ?_
    rintro e w1 ⟨rfl, rfl⟩
    go_wp2_with fail
    refine CL.out.mono ?_
    rintro e w3 ⟨⟨v, rfl, o3⟩, s3⟩
    have O3 := Lib.hid o3
    have S3 := Lib.hid s3
    clear o3 s3 CL HW
    go_wp2_with fail
    go_ret2
    exact ⟨⟨_, rfl, O3.out⟩, S3.out⟩
  · obtain rfl : nf = c := by omega
    obtain rfl : x = nf := by omega
    obtain rfl : y = 0 := by omega
    have hl : l.length = x := by
      have := hlen
      omega
    rw [List.take_zero]
    have CL := Lib.hid (bclone_any A 0 0 [] w w.heap.size ⟨rfl, fun h => by omega⟩ (Nat.le_refl _) (by omega) (fun _ => ⟨rfl, rfl⟩))
    clear h hf R0 hcx hl
    go_enter Tryz.func109, Tryz.ntmps109
    go_wp2_with fail
    refine HW.out.mono ?_
    rintro e w1 ⟨rfl, rfl⟩
    go_wp2_with fail
    refine CL.out.mono ?_
    rintro e w3 ⟨⟨v, rfl, o3⟩, s3⟩
    have O3 := Lib.hid o3
    have S3 := Lib.hid s3
    clear o3 s3 CL HW
    go_wp2_with fail
    go_ret2
    exact ⟨⟨_, rfl, O3.out⟩, S3.out⟩
end Go.Proofs.YtfneloobfidckaaGreatDoor
