/- Contracts and facts, several texts in one. It proves no statement. -/
import Derived.Test.YtljacdbdjacbkaaGreatMpGi
import Derived.Test.YtljacdbdjacbkaaGreatMpGzc
import Derived.Test.YtljacdbdjacbkaaGreatMpGo
import Derived.ChangeSlices
import Derived.ChangeSame
import Derived.ChangeArms

/- Contract: lives. It proves no statement. -/

namespace Go.Proofs.YtljacdbdjacbkaaGreat
open Go.RowKit Go.Maps Go.WideMaps
set_option linter.unusedVariables false
set_option linter.unusedSimpArgs false

theorem look_one (s : ByteArray) (hs : s.size ≤ maxLen) (f : Nat) : look (nmDo (.map []) ⟨#[]⟩ s (f : Int)) s = (f : Int) := by
  unfold nmDo look
  rw [if_neg (by omega)]
  have h : (((DataW.map [] : DataW Unit).del (kl ⟨#[]⟩)).put (kl s) (fd (f : Int))).atKey (kl s) (fd (-1)) = fd (f : Int) := atKey_put_same (isMap_empty.del _) (mapLaw.key (key_of s hs)) _ _
  rw [h]
  rfl
theorem entries_one (s : ByteArray) (f : Nat) : entriesOf (nmDo (.map []) ⟨#[]⟩ s (f : Int)) = [(kl s, fd (f : Int))] := by
  unfold nmDo
  rw [if_neg (by omega)]
  rfl
set_option maxRecDepth 100000 in
set_option maxHeartbeats 3200000 in
theorem lives_any (w : World) : Calls Tryz.prog 13 #[] w fun e w' => e = .returned (.bool true) ∧ Still w w' := by
  have NW := Lib.hid (new_yes 10 w ⟨by decide, by decide⟩)
  go_enter Tryz.func13, Tryz.ntmps13
  go_wp2_with fail
  refine NW.out.mono ?_
  rintro e w1 ⟨g, bn, bf, rfl, m1, n1, n2, l1, l2, l3, nbf, s1⟩
  have hsa : (⟨#[97]⟩ : ByteArray).size ≤ maxLen := by decide
  have CR := Lib.hid (create_ok m1 (by decide) (by decide) ⟨#[97]⟩ 0 0 w1.heap.size (.map []) [] n1 (by omega) hsa (World.ownsRow_nil _ _ _ _) (by omega) (Nat.le_refl _) (by rfl) (by rfl) (by decide))
  have S1 := Lib.hid s1
  have LO := Lib.hid (And.intro l1 l3)
  clear NW m1 n1 n2 l1 l2 l3 nbf s1
  go_wp2_with fail
  refine CR.out.mono ?_
  rintro e w2 ⟨rfl, gf, wv2, hgf, f2, m2, r2, n2, c2, loc2⟩
  rw [show (stepR (-1) false).1 = -1 from rfl] at m2
  obtain ⟨D, hD⟩ : ∃ D, D = nmDo (.map []) ⟨#[]⟩ ⟨#[97]⟩ (gf : Int) := ⟨_, rfl⟩
  rw [← hD] at n2
  have hlk : look D ⟨#[97]⟩ = (gf : Int) := by rw [hD]; exact look_one _ hsa gf
  have hen : entriesOf D = [(kl ⟨#[97]⟩, fd (gf : Int))] := by rw [hD]; exact entries_one _ gf
  have hgw : gf < w2.heap.size := Blk.lt f2
  have S2 := Lib.hid (show Still w w2 from c2.still S1.out (by
    rintro x (h | h | h)
    · rw [h]; exact LO.out.2
    · rw [h]; exact LO.out.1
    · simp [Value.ownBlock] at h))
  obtain ⟨w3, hw3⟩ : ∃ w3, w3 = w2.alloc (.cells #[.int .u8 7] 5) := ⟨_, rfl⟩
  obtain ⟨g3, hg3⟩ : ∃ g3, g3 = w2.heap.size := ⟨_, rfl⟩
  have st3 : Still w2 w3 := by rw [hw3]; exact (Still.refl _).alloc (Nat.le_refl _) _
  have C3 := Chg.of_still st3 (fun _ => False)
  have R3 : Reads w3 w3.heap.size (some ⟨g3, 0, none⟩) 1 [7] := by
    have h := const_reads w2 [7] (0, 0)
    rw [hw3, hg3]
    have e : (w2.alloc (.cells (bytesV [7]).toArray 5 (0, 0))).heap.size = w2.heap.size + 1 := by simp
    rw [← e] at h
    exact h
  have AP := Lib.hid (append_ok (m2.still st3) (by decide) (by decide) ⟨#[97]⟩ hsa 1 D (C3.nm n2 (fun h => h)) (fun _ => 0) (by
    intro p hp
    rw [hen, List.mem_singleton] at hp
    subst hp
    exact ⟨gf, rfl, none, 0, _, _, Blk.still f2 st3⟩) gf 0 w3.heap.size 0 (.slice none 0 0) (.slice none 0 0) (.slice none 0 0) [] [7] [] (some ⟨g3, 0, none⟩) 1 1 w3.heap.size hlk (Blk.still f2 st3) (World.ownsRow_nil _ _ _ _) (World.ownsRow_nil _ _ _ _) (Nat.le_refl _) R3 (Nat.le_refl _) (fun e => by cases e) (by omega) (by omega) (by unfold usedOf; rw [hen]; simp [sumL]) (by unfold usedOf; rw [hen]; simp [sumL]) (by decide))
  have S3 := Lib.hid (S2.out.trans st3)
  have N3 := Lib.hid (C3.nm n2 (fun h => h))
  have NEB := Lib.hid (And.intro (nm_ne n2 m2) (nm_ne n2 f2))
  have HEN := Lib.hid hen
  have HW3 := Lib.hid hw3
  have HG3 := Lib.hid hg3
  have HGF := Lib.hid (show w.heap.size ≤ gf from Nat.le_trans S1.out.size hgf)
  clear CR f2 m2 r2 n2 c2 loc2 hD hlk hen hw3 hg3 st3 C3 R3 hgf hgw hsa
  go_wp2_with fail
  rw [← HW3.out, ← HG3.out]
  refine AP.out.mono ?_
  rintro e w4 ⟨rfl, nv4, wt4, cv4, m4, f4, o4, t4, cc4, c4, _, _⟩
  rw [show (stepR (-1) false).1 = -1 from rfl] at m4
  obtain ⟨A4, c4', rfl, _, _, _⟩ := own_form o4
  have US := Lib.hid (used_yes m4 1 D (c4.nm N3.out (by
    rintro (h | h | h | h)
    · exact NEB.out.1 h
    · exact NEB.out.2 h
    · simp [Value.ownBlock] at h
    · simp [Value.ownBlock] at h)) (fun _ => 1) (by
    intro p hp
    rw [HEN.out, List.mem_singleton] at hp
    subst hp
    exact ⟨gf, rfl, _, _, _, _, f4⟩) (by unfold usedOf; rw [HEN.out]; simp [sumL]))
  have hu1 : usedOf (fun _ => 1) D = 1 := by unfold usedOf; rw [HEN.out]; rfl
  rw [hu1] at US
  have S4 := Lib.hid (show Still w w4 from c4.still S3.out (by
    rintro x (h | h | h | h)
    · rw [h]; exact LO.out.2
    · rw [h]; exact HGF.out
    · simp [Value.ownBlock] at h
    · simp [Value.ownBlock] at h))
  clear AP m4 f4 o4 t4 cc4 c4 hu1 N3 NEB
  go_wp2_with fail
  refine US.out.mono ?_
  rintro e w5 ⟨rfl, s5⟩
  have S5 := Lib.hid (S4.out.trans s5)
  clear s5 US
  go_wp2_with fail
  go_ret
  exact ⟨rfl, S5.out⟩
end Go.Proofs.YtljacdbdjacbkaaGreat

/- A call that came in (the law's own struct), opened. It proves no statement. -/





namespace Go.Proofs.YtljacdbdjacbkaaGreat
open Go.RowKit
set_option linter.unusedVariables false
set_option linter.unusedSimpArgs false

theorem Tryz.cells_do : Tryz.prog.cellsOf 36 = 7 := by kernel_rfl
theorem Tryz.cells_int0 : Tryz.prog.cellsOf 3 = 1 := by kernel_rfl
theorem Tryz.cells_str0 : Tryz.prog.cellsOf 9 = 1 := by kernel_rfl
theorem Tryz.cells_bytes0 : Tryz.prog.cellsOf 31 = 1 := by kernel_rfl
theorem Tryz.cells_ints0 : Tryz.prog.cellsOf 34 = 1 := by kernel_rfl
theorem Tryz.cells_byte0 : Tryz.prog.cellsOf 5 = 1 := by kernel_rfl
/-- A call that came in: its names, its bytes, its numbers. -/
structure DoIn (w : World) (s t : ByteArray) (D : List UInt8) (A : Option Addr) (n c : Nat) (A2 : Option Addr) (n2 c2 : Nat) : Prop where
  name : s.size ≤ 9223372036854775807
  goal : t.size ≤ 9223372036854775807
  reads : Reads w w.heap.size A n D
  fit : n ≤ c
  cap : c ≤ 9223372036854775807
  nil : A = none → n = 0 ∧ c = 0
  fit2 : n2 ≤ c2
  cap2 : c2 ≤ 9223372036854775807
  at2 : 0 < n2 → ∃ b o, A2 = some ⟨b, o, none⟩
set_option maxRecDepth 100000 in
theorem open_do {H : Type} {enc : TypeId × Value → H} {w : World} {r : Reach} {b0 : Nat} {held : Bool} {v : Value} {d : DataW H} {p : List MemPlace} (hv : Value.okWide Tryz.prog w r b0 36 v) (h : DataW.Trod enc Tryz.prog w 0 (fun _ => true) held 36 v d p) :
    ∃ k s t nn mm D A n c A2 n2 c2, v = .agg #[.int .i64 k, .string s, .string t, .int .i64 nn, .int .i64 mm, .slice A n c, .slice A2 n2 c2] ∧ DoIn w s t D A n c A2 n2 c2 := by
  obtain ⟨cs, rfl, hsz⟩ := Go.WideShapes.okWide_struct Tryz.underlying36 hv
  obtain ⟨l⟩ := cs
  obtain ⟨fuel, hf⟩ := h
  obtain ⟨xs, m, hn, hx, hlen, hxl, hg⟩ := DataW.trod_struct Tryz.underlying36 hf
  rw [Tryz.cells_do] at hlen
  simp only [Value.cells] at hlen hg
  have hl7 : l.length = 7 := hlen
  have hxl7 : xs.length = 7 := hxl
  have hfx : ∀ (i : Nat) (hi : i < xs.length), xs[i]? = some xs[i] := fun i hi => List.getElem?_eq_getElem hi
  match l, hl7 with
  | [v0, v1, v2, v3, v4, v5, v6], _ =>
  have g0 : DataW.trod enc Tryz.prog w 0 (fun _ => true) held m 3 [v0] = some xs[0] := by
    have this : DataW.trod enc Tryz.prog w 0 (fun _ => true) held m 3 (([v0, v1, v2, v3, v4, v5, v6].drop 0).take (Tryz.prog.cellsOf 3)) = some xs[0] := (hg 0 _ rfl).trans (hfx 0 (by omega))
    rw [Tryz.cells_int0] at this
    exact this
  have g1 : DataW.trod enc Tryz.prog w 0 (fun _ => true) held m 9 [v1] = some xs[1] := by
    have this : DataW.trod enc Tryz.prog w 0 (fun _ => true) held m 9 (([v0, v1, v2, v3, v4, v5, v6].drop 1).take (Tryz.prog.cellsOf 9)) = some xs[1] := (hg 1 _ rfl).trans (hfx 1 (by omega))
    rw [Tryz.cells_str0] at this
    exact this
  have g2 : DataW.trod enc Tryz.prog w 0 (fun _ => true) held m 9 [v2] = some xs[2] := by
    have this : DataW.trod enc Tryz.prog w 0 (fun _ => true) held m 9 (([v0, v1, v2, v3, v4, v5, v6].drop 2).take (Tryz.prog.cellsOf 9)) = some xs[2] := (hg 2 _ rfl).trans (hfx 2 (by omega))
    rw [Tryz.cells_str0] at this
    exact this
  have g3 : DataW.trod enc Tryz.prog w 0 (fun _ => true) held m 3 [v3] = some xs[3] := by
    have this : DataW.trod enc Tryz.prog w 0 (fun _ => true) held m 3 (([v0, v1, v2, v3, v4, v5, v6].drop 3).take (Tryz.prog.cellsOf 3)) = some xs[3] := (hg 3 _ rfl).trans (hfx 3 (by omega))
    rw [Tryz.cells_int0] at this
    exact this
  have g4 : DataW.trod enc Tryz.prog w 0 (fun _ => true) held m 3 [v4] = some xs[4] := by
    have this : DataW.trod enc Tryz.prog w 0 (fun _ => true) held m 3 (([v0, v1, v2, v3, v4, v5, v6].drop 4).take (Tryz.prog.cellsOf 3)) = some xs[4] := (hg 4 _ rfl).trans (hfx 4 (by omega))
    rw [Tryz.cells_int0] at this
    exact this
  have g5 : DataW.trod enc Tryz.prog w 0 (fun _ => true) held m 31 [v5] = some xs[5] := by
    have this : DataW.trod enc Tryz.prog w 0 (fun _ => true) held m 31 (([v0, v1, v2, v3, v4, v5, v6].drop 5).take (Tryz.prog.cellsOf 31)) = some xs[5] := (hg 5 _ rfl).trans (hfx 5 (by omega))
    rw [Tryz.cells_bytes0] at this
    exact this
  have g6 : DataW.trod enc Tryz.prog w 0 (fun _ => true) held m 34 [v6] = some xs[6] := by
    have this : DataW.trod enc Tryz.prog w 0 (fun _ => true) held m 34 (([v0, v1, v2, v3, v4, v5, v6].drop 6).take (Tryz.prog.cellsOf 34)) = some xs[6] := (hg 6 _ rfl).trans (hfx 6 (by omega))
    rw [Tryz.cells_ints0] at this
    exact this
  obtain ⟨k, e0, _, _⟩ := DataW.trod_int Tryz.underlying3 g0
  obtain ⟨s, e1, _, z1⟩ := DataW.trod_string Tryz.underlying9 g1
  obtain ⟨t, e2, _, z2⟩ := DataW.trod_string Tryz.underlying9 g2
  obtain ⟨nn, e3, _, _⟩ := DataW.trod_int Tryz.underlying3 g3
  obtain ⟨mm, e4, _, _⟩ := DataW.trod_int Tryz.underlying3 g4
  have hb : ∃ (A : Option Addr) (n c : Nat) (D : List UInt8), v5 = .slice A n c ∧ Reads w w.heap.size A n D ∧ n ≤ c ∧ c ≤ 9223372036854775807 ∧ (A = none → n = 0 ∧ c = 0) := by
    rcases Go.ChangeShapes.open_ints Tryz.underlying31 Tryz.underlying5 Tryz.cells_byte0 g5 with ⟨e2, _⟩ | ⟨a, len, cap, zs, e2, _, hl, hm, hz, _, hc, hw⟩
    · exact ⟨none, 0, 0, [], by simpa using e2, Reads.nil0, by omega, by omega, fun _ => ⟨rfl, rfl⟩⟩
    · obtain ⟨D, hr, h1, h2, h3⟩ := reads_of_row (a := some a) (len := len) (cap := cap) (zs := zs) (.inr ⟨a, rfl, hl, hm, by simpa using hz, hc, hw⟩)
      exact ⟨some a, len, cap, D, by simpa using e2, hr, h1, h2, h3⟩
  have hb2 : ∃ (A : Option Addr) (n c : Nat), v6 = .slice A n c ∧ n ≤ c ∧ c ≤ 9223372036854775807 ∧ (0 < n → ∃ b o, A = some ⟨b, o, none⟩) := by
    rcases Go.ChangeShapes.open_ints Tryz.underlying34 Tryz.underlying3 Tryz.cells_int0 g6 with ⟨e2, _⟩ | ⟨a, len, cap, zs, e2, _, hl, hm, hz, _, hc, hw⟩
    · exact ⟨none, 0, 0, by simpa using e2, by omega, by omega, fun h => by omega⟩
    · have h4 := ints_of_row (a := some a) (len := len) (cap := cap) (zs := zs) (.inr ⟨a, rfl, hl, hm, by simpa using hz, hc, hw⟩)
      unfold maxLen at hm
      refine ⟨some a, len, cap, by simpa using e2, hl, by omega, fun h0 => ?_⟩
      obtain ⟨b, o, y, ha, _, _⟩ := h4.2 0 h0
      exact ⟨b, o, ha⟩
  obtain ⟨A, n, c, D, e5, hr, h1, h2, h3⟩ := hb
  obtain ⟨A2, n2, c2, e6, h4, h5, h6⟩ := hb2
  unfold maxLen at z1 z2
  simp only [List.cons.injEq, and_true] at e0 e1 e2 e3 e4
  subst e0 e1 e2 e3 e4 e5 e6
  exact ⟨k, s, t, nn, mm, D, A, n, c, A2, n2, c2, rfl, { name := by omega, goal := by omega, reads := hr, fit := h1, cap := h2, nil := h3, fit2 := h4, cap2 := h5, at2 := h6 }⟩
end Go.Proofs.YtljacdbdjacbkaaGreat
