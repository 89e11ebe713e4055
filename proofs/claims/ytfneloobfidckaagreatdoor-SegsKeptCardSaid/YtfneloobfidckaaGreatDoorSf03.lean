/- Contracts and facts, several texts in one. It proves no statement. -/
import Derived.Test.YtfneloobfidckaaGreatDoorSf02
import Derived.StillTailTactics
import Derived.Test.YtfneloobfidckaaGreatDoorSf00
import Derived.Test.YtfneloobfidckaaGreatDoorSf01
import Derived.Laws.IdiomStrings

/- Contracts: find, bytes.Clone, an Append's change done. It proves no statement. -/



namespace Go.Proofs.YtfneloobfidckaaGreatDoor
open Go.RowKit Go.Maps Go.WideMaps
set_option linter.unusedVariables false
set_option linter.unusedSimpArgs false

def findE (off : Bool) (f : Int) : Int := if off = true then 12 else if f < 0 then 9 else 0
def findV (off : Bool) (f : Int) : Value := if off = true then .pointer none else pv f
theorem look_cases {w : World} {b n : Nat} {D : DataW Unit} (hown : NM w b n D) (s : ByteArray) (hs : s.size ≤ maxLen) : look D s = -1 ∨ 0 ≤ look D s := by
  obtain ⟨v, ps, hrun, hv⟩ := hown.lookup mapLaw underNames (zeroPtr w) ptrElem_nil (key_of s hs)
  obtain ⟨f, hf, rfl, hz⟩ := ptrElem_inv hv
  have hl : look D s = f := by
    unfold look
    have := congrArg Prod.fst hz
    simp only at this
    rw [this]
    rfl
  rw [hl]
  exact hf
set_option maxRecDepth 100000 in
set_option maxHeartbeats 1600000 in
theorem find_yes {w : World} {g : Nat} {room : Int} {bn bf : Nat} {wv : Value} {left : Int} {off : Bool} (h : MedB w g room bn bf wv left off) (s : ByteArray) (n : Nat) (D : DataW Unit) (hown : NM w bn n D) (hs : s.size ≤ maxLen) :
    Calls Tryz.prog 137 #[.pointer (some ⟨g, 0, none⟩), .string s] w fun e w' => e = .returned (.tuple #[findV off (look D s), .int .i64 (findE off (look D s))]) ∧ w = w' := by
  have WK := Lib.hid (works_yes h)
  have c1 : w.cell? ⟨g, 1, none⟩ = some (.map (some bn)) := Blk.cell h 1
  have HO := Lib.hid hown
  have HS := Lib.hid hs
  have LC := Lib.hid (look_cases hown s hs)
  clear h hown hs
  cases off
  · have e1 : findV false (look D s) = pv (look D s) := rfl
    have e2 : findE false (look D s) = if look D s < 0 then 9 else 0 := rfl
    rw [e1, e2]
    rw [show (if false = true then (12 : Int) else 0) = 0 from rfl] at WK
    clear e1 e2
    obtain ⟨fl, hfl⟩ : ∃ fl, fl = look D s := ⟨_, rfl⟩
    rw [← hfl] at LC ⊢
    have HFL := Lib.hid hfl.symm
    clear hfl
    rcases LC.out with rfl | hlk
    all_goals (clear LC)
    · rw [pv_nil, if_pos (by decide)]
      go_enter Tryz.func137, Tryz.ntmps137
      go_wp2_with fail
      refine WK.out.mono ?_
      rintro e w2 ⟨rfl, rfl⟩
      go_wp2_with (at_lookup; go_must (refine wpList_look rfl (.tmp 16) (.tmp 17) rfl bn n D rfl HO.out s rfl HS.out ?_; intro f hf hlk; rw [HFL.out] at hlk; subst hlk; rw [pv_nil]; clear hf))
      go_ret2
      exact ⟨rfl, rfl⟩
    · obtain ⟨m, rfl⟩ := Int.eq_ofNat_of_zero_le hlk
      rw [pv_at, if_neg (by omega)]
      clear hlk
      go_enter Tryz.func137, Tryz.ntmps137
      go_wp2_with fail
      refine WK.out.mono ?_
      rintro e w2 ⟨rfl, rfl⟩
      go_wp2_with (at_lookup; go_must (refine wpList_look rfl (.tmp 16) (.tmp 17) rfl bn n D rfl HO.out s rfl HS.out ?_; intro f hf hlk; rw [HFL.out] at hlk; subst hlk; rw [pv_at]; clear hf))
      go_ret2
      exact ⟨rfl, rfl⟩
  · go_enter Tryz.func137, Tryz.ntmps137
    go_wp2_with fail
    refine WK.out.mono ?_
    rintro e w2 ⟨rfl, rfl⟩
    go_wp2_with fail
    go_ret2
    exact ⟨rfl, rfl⟩

set_option maxHeartbeats 400000 in
theorem bclone_any (A : Option Addr) (n c : Nat) (l : List UInt8) (w : World) (B : Nat) (h : Reads w B A n l) (hB : B ≤ w.heap.size) (hn : n ≤ 70368744177664) (hA : A = none → n = 0 ∧ c = 0) :
    Calls Tryz.prog 165 #[.slice A n c] w fun e w' => (∃ v, e = .returned v ∧ w'.ownsRow w.heap.size 5 1 v n (bytesV l)) ∧ Still w w' := by
  rcases A with _ | ad
  · obtain ⟨rfl, rfl⟩ := hA rfl
    have hl : l = [] := List.eq_nil_of_length_eq_zero h.1
    subst hl
    have hk : ∀ w : World, (binOp .eql 42 (.slice none 0 0) (.slice none 0 0)).run Tryz.prog w = .ok (.bool true) w := fun w => Lib.run_eql_slice_nil w _ _ none 0 0 0 0 Tryz.underlying42
    go_enter Tryz.func165, Tryz.ntmps165
    go_wp2
    go_ret
    exact ⟨⟨_, rfl, World.ownsRow_nil _ _ _ _⟩, Below.refl _ _⟩
  · have r1 : Reads (w.alloc (.cells #[] 5)) B (some ad) n l := h.keep fun p hp => World.cell?_alloc_lt w _ p (by omega)
    have o1 : (w.alloc (.cells #[] 5)).ownsRow w.heap.size 5 1 (.slice (some ⟨w.heap.size, 0, none⟩) 0 0) 0 (bytesV []) := World.ownsRow_made w #[] 0 (Nat.le_refl _) (by unfold maxLen; omega) rfl
    have s1 : Still w (w.alloc (.cells #[] 5)) := (Below.refl _ _).alloc (Nat.le_refl _) _
    have hk : ∀ w : World, (binOp .eql 42 (.slice (some ad) n c) (.slice none 0 0)).run Tryz.prog w = .ok (.bool false) w := fun w => Lib.run_eql_slice_nil w _ _ (some ad) n c 0 0 Tryz.underlying42
    go_enter Tryz.func165, Tryz.ntmps165
    go_wp2_with (at_builtin; go_must (refine wpList_adds _ rfl _ _ rfl w.heap.size _ 0 [] rfl o1 _ n c B l rfl r1 (fun e => by cases e) ?c1 ?c2 ?_))
    case c1 => omega
    case c2 => simp
    intro v' w' hown hg _
    have hst : Still w w' := s1.grown hg (by simp) (fun k hk => by simp [Value.ownBlock] at hk; omega)
    have hown' : w'.ownsRow w.heap.size 5 1 v' n (bytesV l) := by simpa using hown
    clear hg hown
    go_wp2_with fail
    go_ret
    exact ⟨⟨_, rfl, hown'⟩, hst⟩


set_option maxRecDepth 100000 in
set_option maxHeartbeats 1600000 in
/-- An Append's change: the bytes are laid behind a file's own. -/
theorem change_add (v : Value) (base n : Nat) (l : List UInt8) (A : Option Addr) (m c : Nat) (x : List UInt8) (w : World) (B : Nat) (hown : w.ownsRow base 5 1 v n (bytesV l)) (hbase : base ≤ w.heap.size) (hr : Reads w B A m x) (hB : B ≤ w.heap.size) (hA : A = none → c = 0) (hn : n + m ≤ 100000000) :
    Calls Tryz.prog 197 #[.agg #[.int .i64 n, .slice A m c], v] w fun e w' => ∃ v', e = .returned v' ∧ w'.ownsRow base 5 1 v' (n + m) (bytesV (l ++ x)) ∧ w.grownBy w' v.ownBlock ∧ (v'.ownBlock = v.ownBlock ∨ ∃ j, v'.ownBlock = some j ∧ w.heap.size ≤ j) := by
  obtain ⟨Av, cv, rfl, f1, f2, f3⟩ := own_form hown
  obtain ⟨w1, hw1⟩ : ∃ w1, w1 = w.alloc (.cells #[.int .i64 n, .slice A m c] 267) := ⟨_, rfl⟩
  obtain ⟨g1, hg1⟩ : ∃ g1, g1 = w.heap.size := ⟨_, rfl⟩
  have S1 := Lib.hid (show Still w w1.drew by rw [hw1]; exact ((Still.refl w).alloc (Nat.le_refl _) _).drew)
  have O1 := Lib.hid (show w1.drew.ownsRow base 5 1 (.slice Av n cv) n (bytesV l) from own_still hown S1.out)
  have R1 := Lib.hid (hr.still hB S1.out)
  have B1 := Lib.hid (show Blk w1 g1 267 #[.int .i64 n, .slice A m c] by rw [hw1, hg1]; exact Blk.new _ _ _)
  have k0 : w1.cell? ⟨g1, 0, none⟩ = some (.int .i64 n) := Blk.cell B1.out 0
  have k1 : w1.cell? ⟨g1, 1, none⟩ = some (.slice A m c) := Blk.cell B1.out 1
  have HW1 := Lib.hid hw1
  have HG1 := Lib.hid hg1
  have HA := Lib.hid hA
  have HBS := Lib.hid (Nat.le_trans hbase S1.out.size)
  have HN := Lib.hid hn
  have F := Lib.hid (And.intro f1 f2)
  clear hown hbase hr hB hA hw1 hg1 f3
  go_enter Tryz.func197, Tryz.ntmps197
  go_wp2_with fail
  rw [← HW1.out, ← HG1.out]
  go_still_tail 6, (by kernel_rfl)
  repeat still_step
  change wpList _ _ _ _ _ w1.drew
  go_wp2_with (at_builtin; go_must (refine wpList_adds_at w1.drew rfl (.tmp 8) (.tmp 10) rfl base (.slice Av n cv) n l rfl O1.out A m c B x rfl R1.out HA.out ?c1 HBS.out ?_))
  case c1 => have := HN.out; omega
  intro v2 w2 own2 gr2 loc2
  have OW2 := Lib.hid own2
  have GR2 := Lib.hid (show w.grownBy w2 (Value.slice Av n cv).ownBlock from ⟨gr2.os.trans S1.out.os, gr2.tape.trans S1.out.tape, gr2.output.trans S1.out.output, Nat.le_trans S1.out.size gr2.size, fun k hk hne => (gr2.block k (Nat.lt_of_lt_of_le hk S1.out.size) hne).trans (S1.out.block k hk)⟩)
  have LO2 := Lib.hid (show v2.ownBlock = (Value.slice Av n cv).ownBlock ∨ ∃ j, v2.ownBlock = some j ∧ w.heap.size ≤ j from by
    rcases loc2 with h | h
    · exact .inl h
    · exact .inr ⟨_, h, S1.out.size⟩)
  clear own2 gr2 loc2
  go_wp2_with fail
  go_ret
  exact ⟨_, rfl, OW2.out, GR2.out, LO2.out⟩
end Go.Proofs.YtfneloobfidckaaGreatDoor

/- Contracts: names, room, works and step of a medium. It proves no statement. -/



namespace Go.Proofs.YtfneloobfidckaaGreatDoor
open Go.RowKit Go.Maps Go.WideMaps
set_option linter.unusedVariables false
set_option linter.unusedSimpArgs false

theorem index_textM (s : ByteArray) (w : World) (k : Nat) (h : k < s.size) : (Instr.index 9 (.string s) (.int .i64 (k : Int))).run Tryz.prog w = .ok (.int .u8 ((s.data.toList.getD k 0).toNat : Int)) w := by
  rw [run_index_string w 9 s .i64 (k : Int) (by kernel_rfl), dif_pos ⟨by omega, by omega⟩]
  congr 3
  simp only [List.getD, Array.getElem?_toList]
  rw [Array.getElem?_eq_getElem (show k < s.data.size from h)]
  rfl
/-- A byte of a name. -/
def inNm (c : Nat) : Bool := decide ((97 ≤ c ∧ c ≤ 122) ∨ (48 ≤ c ∧ c ≤ 57) ∨ c = 46 ∨ c = 45)
def nmOK (l : List UInt8) : Bool := decide (1 ≤ l.length ∧ l.length ≤ 24) && l.all (fun c => inNm c.toNat)
set_option maxRecDepth 100000 in
set_option maxHeartbeats 800000 in
theorem inName_any (c : Nat) (hc : c < 256) (w : World) : Calls Tryz.prog 213 #[.int .u8 (c : Int)] w fun e w' => e = .returned (.bool (inNm c)) ∧ w = w' := by
  by_cases a1 : 97 ≤ c
  · by_cases a2 : c ≤ 122
    · have E := Lib.hid (show inNm c = true by unfold inNm; exact decide_eq_true (by omega))
      go_enter Tryz.func213, Tryz.ntmps213
      go_wp2_with fail
      go_ret
      exact ⟨by rw [E.out]; first | rfl | (simp; omega), rfl⟩
    · have E := Lib.hid (show inNm c = false by unfold inNm; exact decide_eq_false (by omega))
      have b1 : ((c : Int) == 46) = false := by rw [beq_eq_false_iff_ne]; omega
      have b2 : ((c : Int) == 45) = false := by rw [beq_eq_false_iff_ne]; omega
      go_enter Tryz.func213, Tryz.ntmps213
      go_wp2_with fail
      go_ret
      exact ⟨by rw [E.out]; first | rfl | (simp; omega), rfl⟩
  · by_cases a3 : 48 ≤ c
    · by_cases a4 : c ≤ 57
      · have E := Lib.hid (show inNm c = true by unfold inNm; exact decide_eq_true (by omega))
        go_enter Tryz.func213, Tryz.ntmps213
        go_wp2_with fail
        go_ret
        exact ⟨by rw [E.out]; first | rfl | (simp; omega), rfl⟩
      · have E := Lib.hid (show inNm c = false by unfold inNm; exact decide_eq_false (by omega))
        have b1 : ((c : Int) == 46) = false := by rw [beq_eq_false_iff_ne]; omega
        have b2 : ((c : Int) == 45) = false := by rw [beq_eq_false_iff_ne]; omega
        go_enter Tryz.func213, Tryz.ntmps213
        go_wp2_with fail
        go_ret
        exact ⟨by rw [E.out]; first | rfl | (simp; omega), rfl⟩
    · by_cases a5 : c = 46
      · have E := Lib.hid (show inNm c = true by unfold inNm; exact decide_eq_true (by omega))
        subst a5
        go_enter Tryz.func213, Tryz.ntmps213
        go_wp2_with fail
        go_ret
        exact ⟨by rw [E.out]; first | rfl | (simp; omega), rfl⟩
      · have b1 : ((c : Int) == 46) = false := by rw [beq_eq_false_iff_ne]; omega
        by_cases a6 : c = 45
        · have E := Lib.hid (show inNm c = true by unfold inNm; exact decide_eq_true (by omega))
          subst a6
          go_enter Tryz.func213, Tryz.ntmps213
          go_wp2_with fail
          go_ret
          exact ⟨by rw [E.out]; first | rfl | (simp; omega), rfl⟩
        · have E := Lib.hid (show inNm c = false by unfold inNm; exact decide_eq_false (by omega))
          have b2 : ((c : Int) == 45) = false := by rw [beq_eq_false_iff_ne]; omega
          go_enter Tryz.func213, Tryz.ntmps213
          go_wp2_with fail
          go_ret
          exact ⟨by rw [E.out]; first | rfl | (simp; omega), rfl⟩
set_option maxRecDepth 100000 in
set_option maxHeartbeats 800000 in
theorem isName_any (s : ByteArray) (hs : s.size ≤ 9223372036854775807) (w : World) : Calls Tryz.prog 173 #[.string s] w fun e w' => e = .returned (.bool (nmOK s.data.toList)) ∧ w = w' := by
  obtain ⟨l, hl⟩ : ∃ l, l = s.data.toList := ⟨_, rfl⟩
  have hix : ∀ (k : Nat) (w : World), k < s.size → (Instr.index 9 (.string s) (.int .i64 (k : Int))).run Tryz.prog w = .ok (.int .u8 ((l.getD k 0).toNat : Int)) w := fun k w h => by rw [hl]; exact index_textM s w k h
  have hll : l.length = s.size := by rw [hl]; simp
  rw [← hl]
  obtain ⟨n, hn⟩ : ∃ n, n = s.size := ⟨_, rfl⟩
  have HLL := Lib.hid (show l.length = n by rw [hll, hn])
  have HIX := Lib.hid (fun (k : Nat) (h : k < n) => fun w => hix k w (by omega))
  have hsz : s.size = n := hn.symm
  have hn63 : n ≤ 9223372036854775807 := by omega
  clear hl hll hix hs hn
  go_enter Tryz.func173, Tryz.ntmps173
  go_wp2_with fail
  go_loopw [6] (fun iv wr => ∃ k : Nat, k ≤ n ∧ iv = .int .i64 k ∧ wr = w ∧ Hid (∀ i, i < k → inNm (l.getD i 0).toNat = true)) (fun iv _ => n - (intOf iv).toNat)
  case atStart => exact ⟨0, Nat.zero_le _, rfl, rfl, fun i hi => by omega⟩
  case round =>
    obtain ⟨k, hk, rfl, hw, hall⟩ := hrel
    subst hw
    by_cases hlt : k < n
    · have ix := HIX.out k hlt
      have IN := Lib.hid (inName_any (l.getD k 0).toNat (l.getD k 0).toNat_lt)
      obtain ⟨c, hc⟩ : ∃ c, c = (l.getD k 0).toNat := ⟨_, rfl⟩
      rw [← hc] at ix IN
      have z1 : (k : Int) < (n : Int) := by omega
      have HLT := Lib.hid hlt
      have HCC := Lib.hid hc
      clear hc hlt
      obtain ⟨q, hq⟩ : ∃ q, q = inNm c := ⟨_, rfl⟩
      rw [← hq] at IN
      have HQ := Lib.hid hq
      clear hq
      go_wp2_with fail
      refine (IN.out _).mono ?_
      rintro e w1 ⟨rfl, rfl⟩
      cases q
      · have E := Lib.hid (show nmOK l = false by
          unfold nmOK
          rw [Bool.and_eq_false_iff]
          right
          rw [List.all_eq_false]
          have hk2 : k < l.length := by rw [HLL.out]; exact HLT.out
          refine ⟨l[k], List.getElem_mem _, ?_⟩
          have : l.getD k 0 = l[k] := by simp [List.getD, hk2]
          rw [← this, ← HCC.out, ← HQ.out]
          decide)
        go_wp2_with fail
        (try simp only [Exit.inBlock, Exit.then])
        go_ret
        exact ⟨by rw [E.out]; rfl, rfl⟩
      · go_wp2_with fail
        go_roundw
        case rel =>
          refine ⟨k + 1, by have := HLT.out; omega, by go_num, by first | rfl | trivial, fun i hi => ?_⟩
          by_cases h : i = k
          · rw [h, ← HCC.out, ← HQ.out]
          · exact hall.out i (by omega)
        case measure => simp [intOf]; have := HLT.out; omega
    · obtain rfl : k = n := by omega
      have E := Lib.hid (show nmOK l = decide (1 ≤ k ∧ k ≤ 24) by
        unfold nmOK
        rw [HLL.out]
        have : l.all (fun c => inNm c.toNat) = true := by
          rw [List.all_eq_true]
          intro x hx
          obtain ⟨i, hi, rfl⟩ := List.getElem_of_mem hx
          have := hall.out i (by rw [← HLL.out]; exact hi)
          simpa [List.getD, hi] using this
        rw [this, Bool.and_true])
      clear hall hlt
      by_cases b1 : 1 ≤ k
      · by_cases b2 : k ≤ 24
        · have E2 := Lib.hid (show nmOK l = true by rw [E.out]; exact decide_eq_true ⟨b1, b2⟩)
          go_wp2_with fail
          go_ret
          exact ⟨by rw [E2.out]; first | rfl | (simp; omega), rfl⟩
        · have E2 := Lib.hid (show nmOK l = false by rw [E.out]; exact decide_eq_false (by omega))
          go_wp2_with fail
          go_ret
          exact ⟨by rw [E2.out]; first | rfl | (simp; omega), rfl⟩
      · have E2 := Lib.hid (show nmOK l = false by rw [E.out]; exact decide_eq_false (by omega))
        go_wp2_with fail
        go_ret
        exact ⟨by rw [E2.out]; first | rfl | (simp; omega), rfl⟩
end Go.Proofs.YtfneloobfidckaaGreatDoor

/- Contract: Create, where it creates. It proves no statement. -/


namespace Go.Proofs.YtfneloobfidckaaGreatDoor
open Go.RowKit Go.Maps Go.WideMaps
set_option linter.unusedVariables false
set_option linter.unusedSimpArgs false

/-- A file's block. -/
def FileB (w : World) (gf : Nat) (a b c : Value) : Prop := Blk w gf 203 #[a, b, c]
set_option maxRecDepth 100000 in
set_option maxHeartbeats 1600000 in
theorem create_ok {w : World} {g : Nat} {room : Int} {bn bf : Nat} {wv : Value} {left : Int} (h : MedB w g room bn bf wv left false) (hl : left ≤ 9223372036854775807) (hl0 : left ≠ 0) (s : ByteArray) (n k base : Nat) (D : DataW Unit) (xs : List Value)
    (hown : NM w bn n D) (hn : n ≤ 1000000) (hs : s.size ≤ maxLen) (hw : w.ownsRow base 263 3 wv k xs) (hk : k ≤ 1000000) (hbase : base ≤ w.heap.size) (hnm : nmOK s.data.toList = true) (hlook : look D s = -1) (hsz : Maps.size D < 500) :
    Calls Tryz.prog 121 #[.pointer (some ⟨g, 0, none⟩), .string s] w fun e w' => e = .returned (.int .i64 0) ∧ ∃ gf wv', w.heap.size ≤ gf ∧ FileB w' gf (.slice none 0 0) (.slice none 0 0) (.slice none 0 0) ∧ MedB w' g room bn bf wv' (stepR left false).1 false ∧ w'.ownsRow base 263 3 wv' (k + 1) (xs ++ nmL ⟨#[]⟩ s gf) ∧ NM w' bn (n + 1) (nmDo D ⟨#[]⟩ s gf) ∧ Chg w w' (fun x => x = g ∨ x = bn ∨ wv.ownBlock = some x) ∧ (wv'.ownBlock = wv.ownBlock ∨ ∃ j, wv'.ownBlock = some j ∧ w.heap.size ≤ j) := by
  have hst : (stepR left false).2.2 = 0 ∧ (stepR left false).2.1 = false := by
    unfold stepR
    rw [if_neg hl0]
    split <;> exact ⟨rfl, rfl⟩
  obtain ⟨gf, hgf⟩ : ∃ gf, gf = w.heap.size := ⟨_, rfl⟩
  obtain ⟨w1, hw1⟩ : ∃ w1, w1 = w.alloc (.cells #[.slice none 0 0, .slice none 0 0, .slice none 0 0] 203) := ⟨_, rfl⟩
  have S1 : Still w w1 := by rw [hw1]; exact (Still.refl w).alloc (Nat.le_refl _) _
  have F1 : FileB w1 gf (.slice none 0 0) (.slice none 0 0) (.slice none 0 0) := by rw [hw1, hgf]; exact Blk.new _ _ _
  have C1 := Chg.of_still S1 (fun _ => False)
  have NA := Lib.hid (name_yes (h.still S1) hl ⟨#[]⟩ s (gf : Int) (.inr (by omega)) n k base D xs (C1.nm hown (fun h => h)) hn (by decide) hs (C1.own hw (fun _ _ h => h)) hk (Nat.le_trans hbase S1.size) hst.1)
  rw [hst.2, pv_at] at NA
  have WK := Lib.hid (works_yes h)
  have IN := Lib.hid (isName_any s hs w)
  rw [hnm] at IN
  have c1 : w.cell? ⟨g, 1, none⟩ = some (.map (some bn)) := Blk.cell h 1
  have HS := Lib.hid hs
  have HL := Lib.hid hlook
  have HO := Lib.hid hown
  have HF := Lib.hid F1
  have HC1 := Lib.hid C1
  have HW1 := Lib.hid hw1
  have HG := Lib.hid hgf
  have HNE := Lib.hid (And.intro (Nat.ne_of_lt (Blk.lt h)) (And.intro hown.lt (fun j (e : wv.ownBlock = some j) => (hw.lt j e).2)))
  have hsz2 : (Maps.size D : Int) < 500 := by omega
  clear h hl hl0 hown hn hs hw hk hbase hnm hlook hst S1 F1 C1 hw1 hgf hsz
  go_enter Tryz.func121, Tryz.ntmps121
  go_wp2_with fail
  refine WK.out.mono ?_
  rintro e w2 ⟨rfl, rfl⟩
  go_wp2_with fail
  refine IN.out.mono ?_
  rintro e w2 ⟨rfl, rfl⟩
  go_wp2_with (first
    | (at_lookup; go_must (refine wpList_look rfl (.tmp 20) (.tmp 21) rfl bn n D rfl HO.out s rfl HS.out ?_; intro f hf hlk; rw [HL.out] at hlk; subst hlk; rw [pv_nil]))
    | (at_len; go_must (refine wpList_len_own _ rfl _ 144 rfl 9 185 underNames ptrElem bn n D rfl HO.out ?_)))
  rw [← HW1.out, ← HG.out]
  refine NA.out.mono ?_
  rintro e w3 ⟨rfl, wv', m3, r3, n3, c3, loc3⟩
  have FIN := Lib.hid (show ∃ gf wv', w.heap.size ≤ gf ∧ FileB w3 gf (.slice none 0 0) (.slice none 0 0) (.slice none 0 0) ∧ MedB w3 g room bn bf wv' (stepR left false).1 false ∧ w3.ownsRow base 263 3 wv' (k + 1) (xs ++ nmL ⟨#[]⟩ s gf) ∧ NM w3 bn (n + 1) (nmDo D ⟨#[]⟩ s gf) ∧ Chg w w3 (fun x => x = g ∨ x = bn ∨ wv.ownBlock = some x) ∧ (wv'.ownBlock = wv.ownBlock ∨ ∃ j, wv'.ownBlock = some j ∧ w.heap.size ≤ j) by
    refine ⟨gf, wv', by rw [HG.out]; exact Nat.le_refl _, c3.blk HF.out ?_, m3, r3, n3, Chg.trans (HC1.out.mono (fun _ _ h => h.elim)) c3 (fun _ _ h => h), ?_⟩
    · rintro (h | h | h)
      · have := HG.out; have := HNE.out.1; omega
      · have := HG.out; have := HNE.out.2.1; omega
      · have := HG.out; have := HNE.out.2.2 _ h; omega
    · rcases loc3 with h | ⟨j, h, hj⟩
      · exact .inl h
      · exact .inr ⟨j, h, Nat.le_trans HC1.out.size hj⟩)
  clear m3 r3 n3 c3 loc3 NA
  go_wp2_with fail
  go_ret
  exact ⟨rfl, FIN.out⟩
end Go.Proofs.YtfneloobfidckaaGreatDoor
