/- Contract: Create, where it creates. It proves no statement. -/
import Derived.Test.YtlddmgofjeibaaaMdNam
import Derived.Test.YtlddmgofjeibaaaMdOp
namespace Go.Proofs.Ytlddmgofjeibaaa
open Go.RowKit Go.Maps Go.WideMaps
set_option linter.unusedVariables false
set_option linter.unusedSimpArgs false

/-- A file's block. -/
def FileB (w : World) (gf : Nat) (a b c : Value) : Prop := Blk w gf 74 #[a, b, c]
set_option maxRecDepth 100000 in
set_option maxHeartbeats 1600000 in
theorem create_ok {w : World} {g : Nat} {room : Int} {bn bf : Nat} {wv : Value} {left : Int} (h : MedB w g room bn bf wv left false) (hl : left ≤ 9223372036854775807) (hl0 : left ≠ 0) (s : ByteArray) (n k base : Nat) (D : DataW Unit) (xs : List Value)
    (hown : NM w bn n D) (hn : n ≤ 1000000) (hs : s.size ≤ maxLen) (hw : w.ownsRow base 93 3 wv k xs) (hk : k ≤ 1000000) (hbase : base ≤ w.heap.size) (hnm : nmOK s.data.toList = true) (hlook : look D s = -1) (hsz : Maps.size D < 500) :
    Calls Try.prog 23 #[.pointer (some ⟨g, 0, none⟩), .string s] w fun e w' => e = .returned (.int .i64 0) ∧ ∃ gf wv', w.heap.size ≤ gf ∧ FileB w' gf (.slice none 0 0) (.slice none 0 0) (.slice none 0 0) ∧ MedB w' g room bn bf wv' (stepR left false).1 false ∧ w'.ownsRow base 93 3 wv' (k + 1) (xs ++ nmL ⟨#[]⟩ s gf) ∧ NM w' bn (n + 1) (nmDo D ⟨#[]⟩ s gf) ∧ Chg w w' (fun x => x = g ∨ x = bn ∨ wv.ownBlock = some x) ∧ (wv'.ownBlock = wv.ownBlock ∨ ∃ j, wv'.ownBlock = some j ∧ w.heap.size ≤ j) := by
  have hst : (stepR left false).2.2 = 0 ∧ (stepR left false).2.1 = false := by
    unfold stepR
    rw [if_neg hl0]
    split <;> exact ⟨rfl, rfl⟩
  obtain ⟨gf, hgf⟩ : ∃ gf, gf = w.heap.size := ⟨_, rfl⟩
  obtain ⟨w1, hw1⟩ : ∃ w1, w1 = w.alloc (.cells #[.slice none 0 0, .slice none 0 0, .slice none 0 0] 74) := ⟨_, rfl⟩
  have S1 : Still w w1 := by rw [hw1]; exact (Still.refl w).alloc (Nat.le_refl _) _
  have F1 : FileB w1 gf (.slice none 0 0) (.slice none 0 0) (.slice none 0 0) := by rw [hw1, hgf]; exact Blk.new _ _ _
  have C1 := Chg.of_still S1 (fun _ => False)
  have NA := Lib.hid (name_yes (h.still S1) hl ⟨#[]⟩ s (gf : Int) (.inr (by omega)) n k base D xs (C1.nm hown (fun h => h)) hn (by decide) hs (C1.own hw (fun _ _ h => h)) hk (Nat.le_trans hbase S1.size) hst.1)
  rw [hst.2, pv_at] at NA
  have WK := Lib.hid (works_yes h)
  have IN := Lib.hid (isName_any s hs w)
  rw [hnm] at IN
  have c1 : w.cell? ⟨g, 1, none⟩ = some (.map (some bn)) := Blk.cell h 1
  have HS := Lib.hid hs
  have HL := Lib.hid hlook
  have HO := Lib.hid hown
  have HF := Lib.hid F1
  have HC1 := Lib.hid C1
  have HW1 := Lib.hid hw1
  have HG := Lib.hid hgf
  have HNE := Lib.hid (And.intro (Nat.ne_of_lt (Blk.lt h)) (And.intro hown.lt (fun j (e : wv.ownBlock = some j) => (hw.lt j e).2)))
  have hsz2 : (Maps.size D : Int) < 500 := by omega
  clear h hl hl0 hown hn hs hw hk hbase hnm hlook hst S1 F1 C1 hw1 hgf hsz
  go_enter Try.func23, Try.ntmps23
  go_wp2_with fail
  refine WK.out.mono ?_
  rintro e w2 ⟨rfl, rfl⟩
  go_wp2_with fail
  refine IN.out.mono ?_
  rintro e w2 ⟨rfl, rfl⟩
  go_wp2_with (first
    | (at_lookup; go_must (refine wpList_look rfl (.tmp 20) (.tmp 21) rfl bn n D rfl HO.out s rfl HS.out ?_; intro f hf hlk; rw [HL.out] at hlk; subst hlk; rw [pv_nil]))
    | (at_len; go_must (refine wpList_len_own _ rfl _ 61 rfl 9 68 underNames ptrElem bn n D rfl HO.out ?_)))
  rw [← HW1.out, ← HG.out]
  refine NA.out.mono ?_
  rintro e w3 ⟨rfl, wv', m3, r3, n3, c3, loc3⟩
  have FIN := Lib.hid (show ∃ gf wv', w.heap.size ≤ gf ∧ FileB w3 gf (.slice none 0 0) (.slice none 0 0) (.slice none 0 0) ∧ MedB w3 g room bn bf wv' (stepR left false).1 false ∧ w3.ownsRow base 93 3 wv' (k + 1) (xs ++ nmL ⟨#[]⟩ s gf) ∧ NM w3 bn (n + 1) (nmDo D ⟨#[]⟩ s gf) ∧ Chg w w3 (fun x => x = g ∨ x = bn ∨ wv.ownBlock = some x) ∧ (wv'.ownBlock = wv.ownBlock ∨ ∃ j, wv'.ownBlock = some j ∧ w.heap.size ≤ j) by
    refine ⟨gf, wv', by rw [HG.out]; exact Nat.le_refl _, c3.blk HF.out ?_, m3, r3, n3, Chg.trans (HC1.out.mono (fun _ _ h => h.elim)) c3 (fun _ _ h => h), ?_⟩
    · rintro (h | h | h)
      · have := HG.out; have := HNE.out.1; omega
      · have := HG.out; have := HNE.out.2.1; omega
      · have := HG.out; have := HNE.out.2.2 _ h; omega
    · rcases loc3 with h | ⟨j, h, hj⟩
      · exact .inl h
      · exact .inr ⟨j, h, Nat.le_trans HC1.out.size hj⟩)
  clear m3 r3 n3 c3 loc3 NA
  go_wp2_with fail
  go_ret
  exact ⟨rfl, FIN.out⟩
end Go.Proofs.Ytlddmgofjeibaaa
