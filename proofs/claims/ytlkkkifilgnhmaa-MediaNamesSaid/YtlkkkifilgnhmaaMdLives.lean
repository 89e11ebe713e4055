/- Contract: lives. It proves no statement. -/
import Derived.Test.YtlkkkifilgnhmaaMdAppend
namespace Go.Proofs.Ytlkkkifilgnhmaa
open Go.RowKit Go.Maps Go.WideMaps
set_option linter.unusedVariables false
set_option linter.unusedSimpArgs false

theorem look_one (s : ByteArray) (hs : s.size ≤ maxLen) (f : Nat) : look (nmDo (.map []) ⟨#[]⟩ s (f : Int)) s = (f : Int) := by
  unfold nmDo look
  rw [if_neg (by omega)]
  have h : (((DataW.map [] : DataW Unit).del (kl ⟨#[]⟩)).put (kl s) (fd (f : Int))).atKey (kl s) (fd (-1)) = fd (f : Int) := atKey_put_same (isMap_empty.del _) (mapLaw.key (key_of s hs)) _ _
  rw [h]
  rfl
theorem entries_one (s : ByteArray) (f : Nat) : entriesOf (nmDo (.map []) ⟨#[]⟩ s (f : Int)) = [(kl s, fd (f : Int))] := by
  unfold nmDo
  rw [if_neg (by omega)]
  rfl
set_option maxRecDepth 100000 in
set_option maxHeartbeats 3200000 in
theorem lives_any (w : World) : Calls Try.prog 12 #[] w fun e w' => e = .returned (.bool true) ∧ Still w w' := by
  have NW := Lib.hid (new_yes 10 w ⟨by decide, by decide⟩)
  go_enter Try.func12, Try.ntmps12
  go_wp2_with fail
  refine NW.out.mono ?_
  rintro e w1 ⟨g, bn, bf, rfl, m1, n1, n2, l1, l2, l3, nbf, s1⟩
  have hsa : (⟨#[97]⟩ : ByteArray).size ≤ maxLen := by decide
  have CR := Lib.hid (create_ok m1 (by decide) (by decide) ⟨#[97]⟩ 0 0 w1.heap.size (.map []) [] n1 (by omega) hsa (World.ownsRow_nil _ _ _ _) (by omega) (Nat.le_refl _) (by rfl) (by rfl) (by decide))
  have S1 := Lib.hid s1
  have LO := Lib.hid (And.intro l1 l3)
  clear NW m1 n1 n2 l1 l2 l3 nbf s1
  go_wp2_with fail
  refine CR.out.mono ?_
  rintro e w2 ⟨rfl, gf, wv2, hgf, f2, m2, r2, n2, c2, loc2⟩
  rw [show (stepR (-1) false).1 = -1 from rfl] at m2
  obtain ⟨D, hD⟩ : ∃ D, D = nmDo (.map []) ⟨#[]⟩ ⟨#[97]⟩ (gf : Int) := ⟨_, rfl⟩
  rw [← hD] at n2
  have hlk : look D ⟨#[97]⟩ = (gf : Int) := by rw [hD]; exact look_one _ hsa gf
  have hen : entriesOf D = [(kl ⟨#[97]⟩, fd (gf : Int))] := by rw [hD]; exact entries_one _ gf
  have hgw : gf < w2.heap.size := Blk.lt f2
  have S2 := Lib.hid (show Still w w2 from c2.still S1.out (by
    rintro x (h | h | h)
    · rw [h]; exact LO.out.2
    · rw [h]; exact LO.out.1
    · simp [Value.ownBlock] at h))
  obtain ⟨w3, hw3⟩ : ∃ w3, w3 = w2.alloc (.cells #[.int .u8 7] 5) := ⟨_, rfl⟩
  obtain ⟨g3, hg3⟩ : ∃ g3, g3 = w2.heap.size := ⟨_, rfl⟩
  have st3 : Still w2 w3 := by rw [hw3]; exact (Still.refl _).alloc (Nat.le_refl _) _
  have C3 := Chg.of_still st3 (fun _ => False)
  have R3 : Reads w3 w3.heap.size (some ⟨g3, 0, none⟩) 1 [7] := by
    have h := const_reads w2 [7] (0, 0)
    rw [hw3, hg3]
    have e : (w2.alloc (.cells (bytesV [7]).toArray 5 (0, 0))).heap.size = w2.heap.size + 1 := by simp
    rw [← e] at h
    exact h
  have AP := Lib.hid (append_ok (m2.still st3) (by decide) (by decide) ⟨#[97]⟩ hsa 1 D (C3.nm n2 (fun h => h)) (fun _ => 0) (by
    intro p hp
    rw [hen, List.mem_singleton] at hp
    subst hp
    exact ⟨gf, rfl, none, 0, _, _, Blk.still f2 st3⟩) gf 0 w3.heap.size 0 (.slice none 0 0) (.slice none 0 0) (.slice none 0 0) [] [7] [] (some ⟨g3, 0, none⟩) 1 1 w3.heap.size hlk (Blk.still f2 st3) (World.ownsRow_nil _ _ _ _) (World.ownsRow_nil _ _ _ _) (Nat.le_refl _) R3 (Nat.le_refl _) (fun e => by cases e) (by omega) (by omega) (by unfold usedOf; rw [hen]; simp [sumL]) (by unfold usedOf; rw [hen]; simp [sumL]) (by decide))
  have S3 := Lib.hid (S2.out.trans st3)
  have N3 := Lib.hid (C3.nm n2 (fun h => h))
  have NEB := Lib.hid (And.intro (nm_ne n2 m2) (nm_ne n2 f2))
  have HEN := Lib.hid hen
  have HW3 := Lib.hid hw3
  have HG3 := Lib.hid hg3
  have HGF := Lib.hid (show w.heap.size ≤ gf from Nat.le_trans S1.out.size hgf)
  clear CR f2 m2 r2 n2 c2 loc2 hD hlk hen hw3 hg3 st3 C3 R3 hgf hgw hsa
  go_wp2_with fail
  rw [← HW3.out, ← HG3.out]
  refine AP.out.mono ?_
  rintro e w4 ⟨rfl, nv4, wt4, cv4, m4, f4, o4, t4, cc4, c4, _, _⟩
  rw [show (stepR (-1) false).1 = -1 from rfl] at m4
  obtain ⟨A4, c4', rfl, _, _, _⟩ := own_form o4
  have US := Lib.hid (used_yes m4 1 D (c4.nm N3.out (by
    rintro (h | h | h | h)
    · exact NEB.out.1 h
    · exact NEB.out.2 h
    · simp [Value.ownBlock] at h
    · simp [Value.ownBlock] at h)) (fun _ => 1) (by
    intro p hp
    rw [HEN.out, List.mem_singleton] at hp
    subst hp
    exact ⟨gf, rfl, _, _, _, _, f4⟩) (by unfold usedOf; rw [HEN.out]; simp [sumL]))
  have hu1 : usedOf (fun _ => 1) D = 1 := by unfold usedOf; rw [HEN.out]; rfl
  rw [hu1] at US
  have S4 := Lib.hid (show Still w w4 from c4.still S3.out (by
    rintro x (h | h | h | h)
    · rw [h]; exact LO.out.2
    · rw [h]; exact HGF.out
    · simp [Value.ownBlock] at h
    · simp [Value.ownBlock] at h))
  clear AP m4 f4 o4 t4 cc4 c4 hu1 N3 NEB
  go_wp2_with fail
  refine US.out.mono ?_
  rintro e w5 ⟨rfl, s5⟩
  have S5 := Lib.hid (S4.out.trans s5)
  clear s5 US
  go_wp2_with fail
  go_ret
  exact ⟨rfl, S5.out⟩
end Go.Proofs.Ytlkkkifilgnhmaa
