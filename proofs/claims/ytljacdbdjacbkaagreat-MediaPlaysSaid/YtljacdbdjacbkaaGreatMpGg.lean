/- Contracts and facts, several texts in one. It proves no statement. -/
import Derived.Test.YtljacdbdjacbkaaGreatMpGa
import Derived.Test.YtljacdbdjacbkaaGreatMpGc
import Derived.Laws.IdiomStrings
import Derived.Test.YtljacdbdjacbkaaGreatMpGf

/- Contracts: names, room, works and step of a medium. It proves no statement. -/



namespace Go.Proofs.YtljacdbdjacbkaaGreat
open Go.RowKit Go.Maps Go.WideMaps
set_option linter.unusedVariables false
set_option linter.unusedSimpArgs false

theorem index_textM (s : ByteArray) (w : World) (k : Nat) (h : k < s.size) : (Instr.index 9 (.string s) (.int .i64 (k : Int))).run Tryz.prog w = .ok (.int .u8 ((s.data.toList.getD k 0).toNat : Int)) w := by
  rw [run_index_string w 9 s .i64 (k : Int) (by kernel_rfl), dif_pos ⟨by omega, by omega⟩]
  congr 3
  simp only [List.getD, Array.getElem?_toList]
  rw [Array.getElem?_eq_getElem (show k < s.data.size from h)]
  rfl
/-- A byte of a name. -/
def inNm (c : Nat) : Bool := decide ((97 ≤ c ∧ c ≤ 122) ∨ (48 ≤ c ∧ c ≤ 57) ∨ c = 46 ∨ c = 45)
def nmOK (l : List UInt8) : Bool := decide (1 ≤ l.length ∧ l.length ≤ 24) && l.all (fun c => inNm c.toNat)
set_option maxRecDepth 100000 in
set_option maxHeartbeats 800000 in
theorem inName_any (c : Nat) (hc : c < 256) (w : World) : Calls Tryz.prog 72 #[.int .u8 (c : Int)] w fun e w' => e = .returned (.bool (inNm c)) ∧ w = w' := by
  by_cases a1 : 97 ≤ c
  · by_cases a2 : c ≤ 122
    · have E := Lib.hid (show inNm c = true by unfold inNm; exact decide_eq_true (by omega))
      go_enter Tryz.func72, Tryz.ntmps72
      go_wp2_with fail
      go_ret
      exact ⟨by rw [E.out]; first | rfl | (simp; omega), rfl⟩
    · have E := Lib.hid (show inNm c = false by unfold inNm; exact decide_eq_false (by omega))
      have b1 : ((c : Int) == 46) = false := by rw [beq_eq_false_iff_ne]; omega
      have b2 : ((c : Int) == 45) = false := by rw [beq_eq_false_iff_ne]; omega
      go_enter Tryz.func72, Tryz.ntmps72
      go_wp2_with fail
      go_ret
      exact ⟨by rw [E.out]; first | rfl | (simp; omega), rfl⟩
  · by_cases a3 : 48 ≤ c
    · by_cases a4 : c ≤ 57
      · have E := Lib.hid (show inNm c = true by unfold inNm; exact decide_eq_true (by omega))
        go_enter Tryz.func72, Tryz.ntmps72
        go_wp2_with fail
        go_ret
        exact ⟨by rw [E.out]; first | rfl | (simp; omega), rfl⟩
      · have E := Lib.hid (show inNm c = false by unfold inNm; exact decide_eq_false (by omega))
        have b1 : ((c : Int) == 46) = false := by rw [beq_eq_false_iff_ne]; omega
        have b2 : ((c : Int) == 45) = false := by rw [beq_eq_false_iff_ne]; omega
        go_enter Tryz.func72, Tryz.ntmps72
        go_wp2_with fail
        go_ret
        exact ⟨by rw [E.out]; first | rfl | (simp; omega), rfl⟩
    · by_cases a5 : c = 46
      · have E := Lib.hid (show inNm c = true by unfold inNm; exact decide_eq_true (by omega))
        subst a5
        go_enter Tryz.func72, Tryz.ntmps72
        go_wp2_with fail
        go_ret
        exact ⟨by rw [E.out]; first | rfl | (simp; omega), rfl⟩
      · have b1 : ((c : Int) == 46) = false := by rw [beq_eq_false_iff_ne]; omega
        by_cases a6 : c = 45
        · have E := Lib.hid (show inNm c = true by unfold inNm; exact decide_eq_true (by omega))
          subst a6
          go_enter Tryz.func72, Tryz.ntmps72
          go_wp2_with fail
          go_ret
          exact ⟨by rw [E.out]; first | rfl | (simp; omega), rfl⟩
        · have E := Lib.hid (show inNm c = false by unfold inNm; exact decide_eq_false (by omega))
          have b2 : ((c : Int) == 45) = false := by rw [beq_eq_false_iff_ne]; omega
          go_enter Tryz.func72, Tryz.ntmps72
          go_wp2_with fail
          go_ret
          exact ⟨by rw [E.out]; first | rfl | (simp; omega), rfl⟩
set_option maxRecDepth 100000 in
set_option maxHeartbeats 800000 in
theorem isName_any (s : ByteArray) (hs : s.size ≤ 9223372036854775807) (w : World) : Calls Tryz.prog 51 #[.string s] w fun e w' => e = .returned (.bool (nmOK s.data.toList)) ∧ w = w' := by
  obtain ⟨l, hl⟩ : ∃ l, l = s.data.toList := ⟨_, rfl⟩
  have hix : ∀ (k : Nat) (w : World), k < s.size → (Instr.index 9 (.string s) (.int .i64 (k : Int))).run Tryz.prog w = .ok (.int .u8 ((l.getD k 0).toNat : Int)) w := fun k w h => by rw [hl]; exact index_textM s w k h
  have hll : l.length = s.size := by rw [hl]; simp
  rw [← hl]
  obtain ⟨n, hn⟩ : ∃ n, n = s.size := ⟨_, rfl⟩
  have HLL := Lib.hid (show l.length = n by rw [hll, hn])
  have HIX := Lib.hid (fun (k : Nat) (h : k < n) => fun w => hix k w (by omega))
  have hsz : s.size = n := hn.symm
  have hn63 : n ≤ 9223372036854775807 := by omega
  clear hl hll hix hs hn
  go_enter Tryz.func51, Tryz.ntmps51
  go_wp2_with fail
  go_loopw [6] (fun iv wr => ∃ k : Nat, k ≤ n ∧ iv = .int .i64 k ∧ wr = w ∧ Hid (∀ i, i < k → inNm (l.getD i 0).toNat = true)) (fun iv _ => n - (intOf iv).toNat)
  case atStart => exact ⟨0, Nat.zero_le _, rfl, rfl, fun i hi => by omega⟩
  case round =>
    obtain ⟨k, hk, rfl, hw, hall⟩ := hrel
    subst hw
    by_cases hlt : k < n
    · have ix := HIX.out k hlt
      have IN := Lib.hid (inName_any (l.getD k 0).toNat (l.getD k 0).toNat_lt)
      obtain ⟨c, hc⟩ : ∃ c, c = (l.getD k 0).toNat := ⟨_, rfl⟩
      rw [← hc] at ix IN
      have z1 : (k : Int) < (n : Int) := by omega
      have HLT := Lib.hid hlt
      have HCC := Lib.hid hc
      clear hc hlt
      obtain ⟨q, hq⟩ : ∃ q, q = inNm c := ⟨_, rfl⟩
      rw [← hq] at IN
      have HQ := Lib.hid hq
      clear hq
      go_wp2_with fail
      refine (IN.out _).mono ?_
      rintro e w1 ⟨rfl, rfl⟩
      cases q
      · have E := Lib.hid (show nmOK l = false by
          unfold nmOK
          rw [Bool.and_eq_false_iff]
          right
          rw [List.all_eq_false]
          have hk2 : k < l.length := by rw [HLL.out]; exact HLT.out
          refine ⟨l[k], List.getElem_mem _, ?_⟩
          have : l.getD k 0 = l[k] := by simp [List.getD, hk2]
          rw [← this, ← HCC.out, ← HQ.out]
          decide)
        go_wp2_with fail
        (try simp only [Exit.inBlock, Exit.then])
        go_ret
        exact ⟨by rw [E.out]; rfl, rfl⟩
      · go_wp2_with fail
        go_roundw
        case rel =>
          refine ⟨k + 1, by have := HLT.out; omega, by go_num, by first | rfl | trivial, fun i hi => ?_⟩
          by_cases h : i = k
          · rw [h, ← HCC.out, ← HQ.out]
          · exact hall.out i (by omega)
        case measure => simp [intOf]; have := HLT.out; omega
    · obtain rfl : k = n := by omega
      have E := Lib.hid (show nmOK l = decide (1 ≤ k ∧ k ≤ 24) by
        unfold nmOK
        rw [HLL.out]
        have : l.all (fun c => inNm c.toNat) = true := by
          rw [List.all_eq_true]
          intro x hx
          obtain ⟨i, hi, rfl⟩ := List.getElem_of_mem hx
          have := hall.out i (by rw [← HLL.out]; exact hi)
          simpa [List.getD, hi] using this
        rw [this, Bool.and_true])
      clear hall hlt
      by_cases b1 : 1 ≤ k
      · by_cases b2 : k ≤ 24
        · have E2 := Lib.hid (show nmOK l = true by rw [E.out]; exact decide_eq_true ⟨b1, b2⟩)
          go_wp2_with fail
          go_ret
          exact ⟨by rw [E2.out]; first | rfl | (simp; omega), rfl⟩
        · have E2 := Lib.hid (show nmOK l = false by rw [E.out]; exact decide_eq_false (by omega))
          go_wp2_with fail
          go_ret
          exact ⟨by rw [E2.out]; first | rfl | (simp; omega), rfl⟩
      · have E2 := Lib.hid (show nmOK l = false by rw [E.out]; exact decide_eq_false (by omega))
        go_wp2_with fail
        go_ret
        exact ⟨by rw [E2.out]; first | rfl | (simp; omega), rfl⟩
end Go.Proofs.YtljacdbdjacbkaaGreat

/- Contract: Create, where it creates. It proves no statement. -/


namespace Go.Proofs.YtljacdbdjacbkaaGreat
open Go.RowKit Go.Maps Go.WideMaps
set_option linter.unusedVariables false
set_option linter.unusedSimpArgs false

/-- A file's block. -/
def FileB (w : World) (gf : Nat) (a b c : Value) : Prop := Blk w gf 89 #[a, b, c]
set_option maxRecDepth 100000 in
set_option maxHeartbeats 1600000 in
theorem create_ok {w : World} {g : Nat} {room : Int} {bn bf : Nat} {wv : Value} {left : Int} (h : MedB w g room bn bf wv left false) (hl : left ≤ 9223372036854775807) (hl0 : left ≠ 0) (s : ByteArray) (n k base : Nat) (D : DataW Unit) (xs : List Value)
    (hown : NM w bn n D) (hn : n ≤ 1000000) (hs : s.size ≤ maxLen) (hw : w.ownsRow base 96 3 wv k xs) (hk : k ≤ 1000000) (hbase : base ≤ w.heap.size) (hnm : nmOK s.data.toList = true) (hlook : look D s = -1) (hsz : Maps.size D < 500) :
    Calls Tryz.prog 19 #[.pointer (some ⟨g, 0, none⟩), .string s] w fun e w' => e = .returned (.int .i64 0) ∧ ∃ gf wv', w.heap.size ≤ gf ∧ FileB w' gf (.slice none 0 0) (.slice none 0 0) (.slice none 0 0) ∧ MedB w' g room bn bf wv' (stepR left false).1 false ∧ w'.ownsRow base 96 3 wv' (k + 1) (xs ++ nmL ⟨#[]⟩ s gf) ∧ NM w' bn (n + 1) (nmDo D ⟨#[]⟩ s gf) ∧ Chg w w' (fun x => x = g ∨ x = bn ∨ wv.ownBlock = some x) ∧ (wv'.ownBlock = wv.ownBlock ∨ ∃ j, wv'.ownBlock = some j ∧ w.heap.size ≤ j) := by
  have hst : (stepR left false).2.2 = 0 ∧ (stepR left false).2.1 = false := by
    unfold stepR
    rw [if_neg hl0]
    split <;> exact ⟨rfl, rfl⟩
  obtain ⟨gf, hgf⟩ : ∃ gf, gf = w.heap.size := ⟨_, rfl⟩
  obtain ⟨w1, hw1⟩ : ∃ w1, w1 = w.alloc (.cells #[.slice none 0 0, .slice none 0 0, .slice none 0 0] 89) := ⟨_, rfl⟩
  have S1 : Still w w1 := by rw [hw1]; exact (Still.refl w).alloc (Nat.le_refl _) _
  have F1 : FileB w1 gf (.slice none 0 0) (.slice none 0 0) (.slice none 0 0) := by rw [hw1, hgf]; exact Blk.new _ _ _
  have C1 := Chg.of_still S1 (fun _ => False)
  have NA := Lib.hid (name_yes (h.still S1) hl ⟨#[]⟩ s (gf : Int) (.inr (by omega)) n k base D xs (C1.nm hown (fun h => h)) hn (by decide) hs (C1.own hw (fun _ _ h => h)) hk (Nat.le_trans hbase S1.size) hst.1)
  rw [hst.2, pv_at] at NA
  have WK := Lib.hid (works_yes h)
  have IN := Lib.hid (isName_any s hs w)
  rw [hnm] at IN
  have c1 : w.cell? ⟨g, 1, none⟩ = some (.map (some bn)) := Blk.cell h 1
  have HS := Lib.hid hs
  have HL := Lib.hid hlook
  have HO := Lib.hid hown
  have HF := Lib.hid F1
  have HC1 := Lib.hid C1
  have HW1 := Lib.hid hw1
  have HG := Lib.hid hgf
  have HNE := Lib.hid (And.intro (Nat.ne_of_lt (Blk.lt h)) (And.intro hown.lt (fun j (e : wv.ownBlock = some j) => (hw.lt j e).2)))
  have hsz2 : (Maps.size D : Int) < 500 := by omega
  clear h hl hl0 hown hn hs hw hk hbase hnm hlook hst S1 F1 C1 hw1 hgf hsz
  go_enter Tryz.func19, Tryz.ntmps19
  go_wp2_with fail
  refine WK.out.mono ?_
  rintro e w2 ⟨rfl, rfl⟩
  go_wp2_with fail
  refine IN.out.mono ?_
  rintro e w2 ⟨rfl, rfl⟩
  go_wp2_with (first
    | (at_lookup; go_must (refine wpList_look rfl (.tmp 20) (.tmp 21) rfl bn n D rfl HO.out s rfl HS.out ?_; intro f hf hlk; rw [HL.out] at hlk; subst hlk; rw [pv_nil]))
    | (at_len; go_must (refine wpList_len_own _ rfl _ 56 rfl 9 84 underNames ptrElem bn n D rfl HO.out ?_)))
  rw [← HW1.out, ← HG.out]
  refine NA.out.mono ?_
  rintro e w3 ⟨rfl, wv', m3, r3, n3, c3, loc3⟩
  have FIN := Lib.hid (show ∃ gf wv', w.heap.size ≤ gf ∧ FileB w3 gf (.slice none 0 0) (.slice none 0 0) (.slice none 0 0) ∧ MedB w3 g room bn bf wv' (stepR left false).1 false ∧ w3.ownsRow base 96 3 wv' (k + 1) (xs ++ nmL ⟨#[]⟩ s gf) ∧ NM w3 bn (n + 1) (nmDo D ⟨#[]⟩ s gf) ∧ Chg w w3 (fun x => x = g ∨ x = bn ∨ wv.ownBlock = some x) ∧ (wv'.ownBlock = wv.ownBlock ∨ ∃ j, wv'.ownBlock = some j ∧ w.heap.size ≤ j) by
    refine ⟨gf, wv', by rw [HG.out]; exact Nat.le_refl _, c3.blk HF.out ?_, m3, r3, n3, Chg.trans (HC1.out.mono (fun _ _ h => h.elim)) c3 (fun _ _ h => h), ?_⟩
    · rintro (h | h | h)
      · have := HG.out; have := HNE.out.1; omega
      · have := HG.out; have := HNE.out.2.1; omega
      · have := HG.out; have := HNE.out.2.2 _ h; omega
    · rcases loc3 with h | ⟨j, h, hj⟩
      · exact .inl h
      · exact .inr ⟨j, h, Nat.le_trans HC1.out.size hj⟩)
  clear m3 r3 n3 c3 loc3 NA
  go_wp2_with fail
  go_ret
  exact ⟨rfl, FIN.out⟩
end Go.Proofs.YtljacdbdjacbkaaGreat
