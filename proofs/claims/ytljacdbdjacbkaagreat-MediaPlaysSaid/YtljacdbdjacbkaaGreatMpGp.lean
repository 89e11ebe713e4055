/- Contracts and facts, several texts in one. It proves no statement. -/
import Derived.Test.YtljacdbdjacbkaaGreatMpGo
import Derived.Test.YtljacdbdjacbkaaGreatMpGb
import Derived.Test.YtljacdbdjacbkaaGreatMpGk
import Derived.Deep.RegionHeld3
import Derived.Test.YtljacdbdjacbkaaGreatMpGl

/- Contracts on the document's disk: Names, Find, Here, step. It proves no statement. -/


namespace Go.Proofs.YtljacdbdjacbkaaGreat
open Go.RowKit Go.Maps Go.WideMaps Go.Sort
set_option linter.unusedVariables false
set_option linter.unusedSimpArgs false

section
variable {w w' : World} {base dk : Nat} {own : DOwn} {D : Dk} {fv wv : Value} {fcs : List Value} {A A2 : Option Addr} {n c n2 c2 : Nat}
/-- The disk's own block has turned, but its rows haven't. -/
theorem DiskC.reB (h : DiskC w base own dk D fv fcs A n c A2 n2 c2 wv) (D' : Dk) (e1 : D'.files = D.files) (e2 : D'.fast = D.fast) (e3 : D'.now = D.now) (e4 : D'.waits = D.waits) (hb : Blk w' dk 47 (dkC D' fv A n c A2 n2 c2 wv)) (g : Chg w w' (fun b => b = dk)) : DLeft w w' base dk own D' := by
  have hk : ∀ k b, b = dk → k ≠ 1 → own b ≠ some k := fun k b e hk e2 => by rw [e, h.odk] at e2; injection e2 with e2; exact hk e2.symm
  refine ⟨g.mono (fun b _ e => by rw [e, h.odk]; simp), own, fun _ _ => rfl, fv, fcs, A, n, c, A2, n2, c2, wv, hb, ?_, ?_, ?_, ?_, ?_, h.odk, h.ofv, h.owv, fun b hb => ⟨(h.dom b hb).1, Nat.lt_of_lt_of_le (h.dom b hb).2 g.size⟩, Nat.le_trans h.low g.size⟩
  · rw [e1]; exact g.own h.fown (fun b hb hs => hk 2 b hs (by decide) (h.ofv b hb))
  · rw [e1]; exact h.files.move g (fun b hs => hk 0 b hs (by decide)) (fun b i hs => hk (4 + i) b hs (by omega)) (fun _ _ => rfl)
  · rw [e2]; exact h.fast.move g (fun b hs => hk 0 b hs (by decide)) (fun _ _ => rfl)
  · rw [e3]; exact h.now.move g (fun b hs => hk 0 b hs (by decide)) (fun _ _ => rfl)
  · rw [e4]; exact g.own h.wown (fun b hb hs => hk 3 b hs (by decide) (h.owv b hb))
theorem DiskC.cells (h : DiskC w base own dk D fv fcs A n c A2 n2 c2 wv) : w.cell? ⟨dk, 0, none⟩ = some (.int .i64 D.room) ∧ w.cell? ⟨dk, 1, none⟩ = some fv ∧ w.cell? ⟨dk, 2, none⟩ = some (.slice A n c) ∧ w.cell? ⟨dk, 3, none⟩ = some (.slice A2 n2 c2) ∧ w.cell? ⟨dk, 4, none⟩ = some wv ∧ w.cell? ⟨dk, 5, none⟩ = some (.bool D.armed) ∧ w.cell? ⟨dk, 6, none⟩ = some (.int .i64 D.left) ∧ w.cell? ⟨dk, 7, none⟩ = some (.bool D.off) :=
  ⟨h.blk.cell 0, h.blk.cell 1, h.blk.cell 2, h.blk.cell 3, h.blk.cell 4, h.blk.cell 5, h.blk.cell 6, h.blk.cell 7⟩
theorem DiskC.still (h : DiskC w base own dk D fv fcs A n c A2 n2 c2 wv) (s : Still w w') : DiskC w' base own dk D fv fcs A n c A2 n2 c2 wv := by
  have g := Chg.of_still s (fun _ => False)
  exact ⟨g.blk h.blk (fun h => h), g.own h.fown (fun _ _ h => h), h.files.move g (fun _ h => h.elim) (fun _ _ h => h.elim) (fun _ _ => rfl), h.fast.move g (fun _ h => h.elim) (fun _ _ => rfl), h.now.move g (fun _ h => h.elim) (fun _ _ => rfl), g.own h.wown (fun _ _ h => h), h.odk, h.ofv, h.owv, fun b hb => ⟨(h.dom b hb).1, Nat.lt_of_lt_of_le (h.dom b hb).2 g.size⟩, Nat.le_trans h.low g.size⟩
theorem DiskC.frozen (h : DiskC w base own dk D fv fcs A n c A2 n2 c2 wv) (i : Nat) : w.frozen? ⟨dk, i, none⟩ = false := h.blk.frozen i
theorem DiskC.I (h : DiskC w base own dk D fv fcs A n c A2 n2 c2 wv) : DiskI w base own dk D := ⟨fv, fcs, A, n, c, A2, n2, c2, wv, h⟩
end
/-- The power's step. -/
def stepD (D : Dk) : Int × Dk := if D.armed = true then (if D.left = 0 then (12, { D with off := true }) else (0, { D with left := D.left - 1 })) else (0, D)
theorem chg_set1 (w : World) (g o : Nat) (u : Value) : Chg w (w.setCell ⟨g, o, none⟩ u) (fun b => b = g) := Chg.of_grown (grownBy_set w g o u) (fun k e _ => (Option.some.inj e).symm)
set_option maxRecDepth 100000 in
theorem step_D {w : World} {base dk : Nat} {own : DOwn} {D : Dk} (h : DiskI w base own dk D) (h0 : 0 ≤ D.left) (h1 : D.left ≤ 9223372036854775807) :
    Calls Tryz.prog 65 #[.pointer (some ⟨dk, 0, none⟩)] w fun e w' => e = .returned (.int .i64 (stepD D).1) ∧ DLeft w w' base dk own (stepD D).2 := by
  obtain ⟨fv, fcs, A, n, c, A2, n2, c2, wv, h⟩ := h
  obtain ⟨_, _, _, _, _, c5, c6, c7⟩ := h.cells
  have f6 := h.frozen 6
  have f7 := h.frozen 7
  by_cases ha : D.armed = true
  · rw [ha] at c5
    by_cases hl : D.left = 0
    · have E : stepD D = (12, { D with off := true }) := by unfold stepD; rw [if_pos ha, if_pos hl]
      rw [E]
      have M := Lib.hid (fun W (hw : W = w.setCell ⟨dk, 7, none⟩ (.bool true)) => (show DLeft w W base dk own { D with off := true } from by subst hw; exact h.reB { D with off := true } rfl rfl rfl rfl (h.blk.setc 7 (.bool true)) (chg_set1 w dk 7 (.bool true))))
      rw [hl] at c6
      clear h E ha hl h0 h1
      go_enter Tryz.func65, Tryz.ntmps65
      go_wp2
      go_ret
      exact ⟨rfl, M.out _ rfl⟩
    · have E : stepD D = (0, { D with left := D.left - 1 }) := by unfold stepD; rw [if_pos ha, if_neg hl]
      rw [E]
      obtain ⟨l, hll⟩ := Int.eq_ofNat_of_zero_le h0
      have M := Lib.hid (fun W (hw : W = w.setCell ⟨dk, 6, none⟩ (.int .i64 (D.left - 1))) => (show DLeft w W base dk own { D with left := D.left - 1 } from by subst hw; exact h.reB { D with left := D.left - 1 } rfl rfl rfl rfl (h.blk.setc 6 (.int .i64 (D.left - 1))) (chg_set1 w dk 6 (.int .i64 (D.left - 1)))))
      have b0 : (D.left == 0) = false := by simpa using hl
      clear h E ha
      obtain ⟨L, hL⟩ : ∃ L, L = D.left := ⟨_, rfl⟩
      rw [← hL] at c6 b0 M h0 h1 ⊢
      clear hL hl hll
      go_enter Tryz.func65, Tryz.ntmps65
      go_wp2
      go_ret
      exact ⟨rfl, M.out _ rfl⟩
  · have hf : D.armed = false := by simpa using ha
    have E : stepD D = (0, D) := by unfold stepD; rw [if_neg ha]
    rw [E]
    have M := Lib.hid (show DLeft w w base dk own D from DLeft.still h.I (Still.refl w))
    rw [hf] at c5
    clear h E ha hf
    go_enter Tryz.func65, Tryz.ntmps65
    go_wp2
    go_ret
    exact ⟨rfl, M.out⟩
theorem names_D (A2 : Option Addr) (n2 c2 dk : Nat) (w : World) (c3 : w.cell? ⟨dk, 3, none⟩ = some (.slice A2 n2 c2)) :
    Calls Tryz.prog 49 #[.pointer (some ⟨dk, 0, none⟩)] w fun e w' => e = .returned (.slice A2 n2 c2) ∧ w' = w := by
  go_enter Tryz.func49, Tryz.ntmps49
  go_wp2
  go_ret
  exact ⟨rfl, rfl⟩
/-- Which file lies under a name; -1: none. -/
def dFind (N : NT) (s : List UInt8) : Int := match nFind N s with | some f => (f : Int) | none => -1
theorem nFind_at : ∀ (N : NT) (k : Nat) (p : List UInt8 × Nat) (s : List UInt8), N[k]? = some p → p.1 = s → (∀ j, j < k → ∀ q, N[j]? = some q → q.1 ≠ s) → nFind N s = some p.2
  | [], k, p, s, h, _, _ => by simp at h
  | x :: r, 0, p, s, h, hs, _ => by
    simp only [List.getElem?_cons_zero, Option.some.injEq] at h
    subst h
    unfold nFind
    simp [hs]
  | x :: r, k + 1, p, s, h, hs, hb => by
    have h0 : x.1 ≠ s := hb 0 (by omega) x rfl
    have ih := nFind_at r k p s (by simpa using h) hs (fun j hj q hq => hb (j + 1) (by omega) q (by simpa using hq))
    unfold nFind at ih ⊢
    rw [List.find?_cons, show (x.1 == s) = false by simpa using h0]
    exact ih
theorem nFind_no : ∀ (N : NT) (s : List UInt8), (∀ (j : Nat) (q : List UInt8 × Nat), N[j]? = some q → q.1 ≠ s) → nFind N s = none
  | [], s, _ => rfl
  | x :: r, s, h => by
    have h0 : x.1 ≠ s := h 0 x rfl
    have ih := nFind_no r s (fun j q hq => h (j + 1) q (by simpa using hq))
    unfold nFind at ih ⊢
    rw [List.find?_cons, show (x.1 == s) = false by simpa using h0]
    exact ih
set_option maxRecDepth 100000 in
set_option maxHeartbeats 3200000 in
theorem find_D {w : World} {base dk : Nat} {own : DOwn} {D : Dk} (h : DiskI w base own dk D) (s : ByteArray) :
    Calls Tryz.prog 12 #[.pointer (some ⟨dk, 0, none⟩), .string s] w fun e w' => e = .returned (.int .i64 (dFind D.now s.data.toList)) ∧ w' = w := by
  obtain ⟨fv, fcs, A, n, c, A2, n2, c2, wv, h⟩ := h
  have NM := Lib.hid (names_D A2 n2 c2 dk w h.cells.2.2.2.1)
  have HN := Lib.hid h.now
  have hnc := h.now.fit
  have hcm := h.now.cap
  obtain ⟨N, hN⟩ : ∃ N, N = D.now := ⟨_, rfl⟩
  rw [← hN] at HN ⊢
  obtain ⟨R, hR⟩ : ∃ R, R = dFind N s.data.toList := ⟨_, rfl⟩
  rw [← hR]
  have HR := Lib.hid hR
  have HL := Lib.hid HN.out.len
  clear h hN hR
  go_enter Tryz.func12, Tryz.ntmps12
  go_wp2_with fail
  refine NM.out.mono ?_
  rintro e w1 ⟨rfl, rfl⟩
  go_wp2_with fail
  go_loopw [6] (fun iv wr => ∃ k : Nat, iv = .int .i64 k ∧ k ≤ n2 ∧ Hid (∀ j, j < k → ∀ q : List UInt8 × Nat, N[j]? = some q → q.1 ≠ s.data.toList) ∧ Hid (wr = w1)) (fun iv _ => n2 - (intOf iv).toNat)
  case atStart => exact ⟨0, rfl, Nat.zero_le _, Lib.hid (fun j hj => by omega), Lib.hid (by first | rfl | trivial)⟩
  case round =>
    obtain ⟨k, rfl, hk, hin, hwr⟩ := hrel
    have hwr' := hwr.out
    subst hwr'
    by_cases hlt : k < n2
    · obtain ⟨b, p, rfl, hp, hr, c0, c1⟩ := HN.out.name hlt
      have HLT := Lib.hid hlt
      have q1 : (0 : Int) ≤ (k : Int) := by omega
      have q2 : (k : Int) < (n2 : Int) := by omega
      have NE := Lib.hid (nmS_eq (p := p) (s := s))
      obtain ⟨X, hX⟩ : ∃ X, X = nmS p := ⟨_, rfl⟩
      rw [← hX] at c0 NE
      have HP := Lib.hid hp
      clear hp hr hlt hX
      by_cases he : p.1 = s.data.toList
      · have b1 : (X.toList == s.toList) = true := by rw [beq_iff_eq]; exact NE.out.2 he
        have HE := Lib.hid (nFind_at N k p _ HP.out he hin.out)
        clear he
        go_wp2_with fail
        (try simp only [Exit.inBlock, Exit.then])
        go_ret
        exact ⟨by rw [HR.out]; unfold dFind; rw [HE.out]; rfl, rfl⟩
      · have b1 : (X.toList == s.toList) = false := by rw [beq_eq_false_iff_ne]; exact fun e => he (NE.out.1 e)
        have NX := Lib.hid (show ∀ j, j < k + 1 → ∀ q, N[j]? = some q → q.1 ≠ s.data.toList from fun j hj q hq => by
          by_cases e : j = k
          · rw [e, HP.out] at hq
            obtain rfl := Option.some.inj hq
            exact he
          · exact hin.out j (by omega) q hq)
        clear he hin
        go_wp2_with fail
        go_roundw
        case rel => exact ⟨k + 1, by go_num, by have := HLT.out; omega, NX, Lib.hid (by first | rfl | trivial)⟩
        case measure => simp [intOf]; have := HLT.out; omega
    · obtain rfl : k = n2 := by omega
      have HE := Lib.hid (nFind_no N s.data.toList (fun j q hq => hin.out j (by rw [← HL.out]; exact (List.getElem?_eq_some_iff.1 hq).1) q hq))
      clear hin
      go_wp2_with fail
      go_ret
      exact ⟨by rw [HR.out]; unfold dFind; rw [HE.out]; rfl, rfl⟩
/-- A file of the row, in memory. -/
theorem DiskC.file {w : World} {base dk : Nat} {own : DOwn} {D : Dk} {fv wv : Value} {fcs : List Value} {A A2 : Option Addr} {n c n2 c2 : Nat} (h : DiskC w base own dk D fv fcs A n c A2 n2 c2 wv) {f : Nat} {F : DFi} (hf : D.files[f]? = some F) :
    ∃ g cap, fv = .slice (some ⟨g, 0, none⟩) D.files.length cap ∧ D.files.length ≤ cap ∧ cap ≤ 9223372036854775807 ∧ g < w.heap.size ∧ ∃ cs, cs.length = 3 ∧ FileD w base own f F cs ∧ w.rangeAt g (f * 3) cs := by
  have hl := (List.getElem?_eq_some_iff.1 hf).1
  obtain ⟨cs, h1, h2, h3⟩ := h.files.2 f F hf
  rcases h.fown.2 with ⟨_, h0⟩ | ⟨g, cap, cur, rfl, hg, hb, hnc, hm, _⟩
  · omega
  · refine ⟨g, cap, rfl, hnc, by unfold maxLen at hm; omega, (Array.getElem?_eq_some_iff.1 hb).1, cs, h1, h3, fun q u hq => ?_⟩
    have hq3 := (List.getElem?_eq_some_iff.1 hq).1
    rw [h.fown.cellAt (f * 3 + q) (by omega)]
    exact h2 q u hq
theorem here_D {w : World} {base dk : Nat} {own : DOwn} {D : Dk} (h : DiskI w base own dk D) {f : Nat} {F : DFi} (hf : D.files[f]? = some F) (hn : F.now.length ≤ 140737488355328) :
    Calls Tryz.prog 68 #[.pointer (some ⟨dk, 0, none⟩), .int .i64 (f : Int)] w fun e w' => (∃ (A : Option Addr) (c : Nat), e = .returned (.slice A F.now.length c) ∧ w'.ownsRow w.heap.size 5 1 (.slice A F.now.length c) F.now.length (bytesV F.now)) ∧ Still w w' := by
  obtain ⟨fv, fcs, A, n, c, A2, n2, c2, wv, h⟩ := h
  obtain ⟨g, cap, rfl, g1, g2, g3, cs, _, ⟨Af, nf, cf, Ag, ng, cg, Ah, nh, ch, ccs, rfl, _, hnow, _⟩, hr⟩ := h.file hf
  have c1 := h.cells.2.1
  have d1 := hr 1 _ rfl
  have hfl : f < D.files.length := (List.getElem?_eq_some_iff.1 hf).1
  have HNL := Lib.hid hnow.len
  have CP := Lib.hid (copy_any Ag ng cg F.now w _ hnow.reads (by rw [← hnow.len]; exact hn) hnow.nil)
  obtain ⟨fl, hfl2⟩ : ∃ fl, fl = D.files.length := ⟨_, rfl⟩
  rw [← hfl2] at c1 g1 hfl
  clear h hr hnow hf hn hfl2
  go_enter Tryz.func68, Tryz.ntmps68
  go_wp2_with fail
  refine CP.out.mono ?_
  rintro e w1 ⟨⟨v, rfl, o1⟩, s1⟩
  have O1 := Lib.hid (And.intro o1 s1)
  clear o1 s1
  go_wp2_with fail
  go_ret
  obtain ⟨Av, cv, hv⟩ := own_formN O1.out.1
  rw [HNL.out]
  exact ⟨⟨Av, cv, by rw [hv]; rfl, by rw [← hv]; exact O1.out.1⟩, O1.out.2⟩
end Go.Proofs.YtljacdbdjacbkaaGreat

/- Contract: a file's bytes behind so many changes. It proves no statement. -/



namespace Go.Proofs.YtljacdbdjacbkaaGreat
open Go.RowKit Go.Maps Go.WideMaps Go.Sort
set_option linter.unusedVariables false
set_option linter.unusedSimpArgs false

def appD (b : List UInt8) (x : DCh) : List UInt8 := if x.cut = true then b.take x.k.toNat else b ++ x.b
def bytesD (F : DFi) (n : Nat) : List UInt8 := (F.waits.take n).foldl appD F.fast
/-- Each change fits, none makes more than T bytes. -/
structure DFi.good (F : DFi) (k T : Nat) : Prop where
  cnt : F.waits.length ≤ k
  cut : ∀ (j : Nat) (x : DCh), F.waits[j]? = some x → x.cut = true → 0 ≤ x.k ∧ x.k ≤ (bytesD F j).length
  most : ∀ j, (bytesD F j).length ≤ T
  each : ∀ x ∈ F.waits, x.b.length ≤ T
  now : F.now = bytesD F F.waits.length
/-- The same without what is there now. -/
structure DFi.fit (F : DFi) (T : Nat) : Prop where
  cut : ∀ (j : Nat) (x : DCh), F.waits[j]? = some x → x.cut = true → 0 ≤ x.k ∧ x.k ≤ (bytesD F j).length
  most : ∀ j, (bytesD F j).length ≤ T
  each : ∀ x ∈ F.waits, x.b.length ≤ T
theorem DFi.good.fit {F : DFi} {k T : Nat} (h : F.good k T) : F.fit T := ⟨h.cut, h.most, h.each⟩
theorem bytesD_succ (F : DFi) (j : Nat) (x : DCh) (h : F.waits[j]? = some x) : bytesD F (j + 1) = appD (bytesD F j) x := by
  unfold bytesD
  rw [List.take_add_one, h, List.foldl_append]
  rfl
set_option maxRecDepth 100000 in
set_option maxHeartbeats 3200000 in
theorem bytes_D {w : World} {base i n T : Nat} {own : DOwn} {F : DFi} {cs : List Value} (h : FileD w base own i F cs) (hg : F.fit T) (hT : T ≤ 1099511627776) (hn : n ≤ F.waits.length) :
    Calls Tryz.prog 71 #[.agg cs.toArray, .int .i64 (n : Int)] w fun e w' => (∃ (A : Option Addr) (c : Nat), e = .returned (.slice A (bytesD F n).length c) ∧ w'.ownsRow w.heap.size 5 1 (.slice A (bytesD F n).length c) (bytesD F n).length (bytesV (bytesD F n))) ∧ Still w w' := by
  obtain ⟨A, m, c, A2, m2, c2, A3, m3, c3, ccs, rfl, h1, h2, h3, h4, h5, h6⟩ := h
  obtain ⟨wb, hwb⟩ : ∃ wb, wb = w.alloc (.cells #[.slice A m c, .slice A2 m2 c2, .slice A3 m3 c3] 111) := ⟨_, rfl⟩
  have SB := Lib.hid (show Still w wb by rw [hwb]; exact (Still.refl w).alloc (Nat.le_refl _) _)
  have BX := Lib.hid (show Blk wb w.heap.size 111 #[.slice A m c, .slice A2 m2 c2, .slice A3 m3 c3] by rw [hwb]; exact Blk.new _ _ _)
  have ZB := Lib.hid (show wb.heap.size = w.heap.size + 1 by rw [hwb]; simp)
  have HWB := Lib.hid hwb
  have CP := Lib.hid (copy_any A m c F.fast wb _ (h1.still SB.out).reads (by have h0 := hg.most 0; rw [show bytesD F 0 = F.fast from rfl] at h0; have := h1.len; omega) h1.nil)
  -- a change in memory
  have CH := Lib.hid (show ∀ j x, F.waits[j]? = some x → ∃ g, A3 = some ⟨g, 0, none⟩ ∧ ∀ W, Still wb W → W.cell? ⟨g, j * 3, none⟩ = some (.bool x.cut) ∧ W.cell? ⟨g, j * 3 + 1, none⟩ = some (.int .i64 x.k) ∧ ∃ Ab nb cb, W.cell? ⟨g, j * 3 + 2, none⟩ = some (.slice Ab nb cb) ∧ RowP W (frz own) Ab nb cb x.b from by
    intro j x hx
    have hj := (List.getElem?_eq_some_iff.1 hx).1
    obtain ⟨Ab, nb, cb, e1, e2⟩ := h5.2 j x hx
    rcases h4.2 with ⟨_, h0⟩ | ⟨g, cp, cur, hv, hg', hb, _⟩
    · omega
    · injection hv with hv1
      subst hv1
      have hg2 : g < w.heap.size := (Array.getElem?_eq_some_iff.1 hb).1
      have at_ : ∀ q u, ([.bool x.cut, .int .i64 x.k, .slice Ab nb cb] : List Value)[q]? = some u → ∀ W, Still wb W → W.cell? ⟨g, j * 3 + q, none⟩ = some u := fun q u hq W s => by
        have hq3 : q < 3 := by have := (List.getElem?_eq_some_iff.1 hq).1; simpa using this
        have h8 := (Still.trans SB.out s).cell (p := ⟨g, j * 3 + q, none⟩) hg2
        rw [h8, h4.cellAt (j * 3 + q) (by omega)]
        exact e1 q u hq
      exact ⟨g, rfl, fun W s => ⟨at_ 0 _ rfl W s, at_ 1 _ rfl W s, Ab, nb, cb, at_ 2 _ rfl W s, e2.still (Still.trans SB.out s)⟩⟩)
  have GD := Lib.hid hg
  have hm3 : n ≤ m3 := by rw [h3]; exact hn
  have hc3 : m3 ≤ c3 ∧ c3 ≤ 9223372036854775807 := by
    rcases h4.2 with ⟨he, h0⟩ | ⟨g, cp, cur, hv, hg', hb, hnc, hm, _⟩
    · injection he with _ _ e3
      omega
    · injection hv with _ _ e3
      subst e3
      exact ⟨hnc, by unfold maxLen at hm; omega⟩
  obtain ⟨hc3a, hc3b⟩ := hc3
  have HM := Lib.hid h3
  have HML := Lib.hid h1.len
  clear h1 h2 h3 h4 h5 h6 hwb hg hn
  go_enter Tryz.func71, Tryz.ntmps71
  go_upto_region 1 with fail
  rw [← HWB.out]
  have xc0 : wb.cell? ⟨w.heap.size, 0, none⟩ = some (.slice A m c) := BX.out.cell 0
  clear HWB
  go_wp2_with fail
  refine CP.out.mono ?_
  rintro e w2 ⟨⟨v2, rfl, o2⟩, s2⟩
  have I0 := Lib.hid (show w2.ownsRow wb.heap.size 5 1 v2 (bytesD F 0).length (bytesV (bytesD F 0)) ∧ Still wb w2 from ⟨by rw [show bytesD F 0 = F.fast by simp [bytesD], HML.out]; exact o2, s2⟩)
  clear o2 s2 xc0 CP
  go_wp2_with fail
  go_loopw [5, 6] (fun bv iv wr => ∃ (j : Nat) (v : Value), v = bv ∧ iv = .int .i64 j ∧ j ≤ n ∧ Hid (wr.ownsRow wb.heap.size 5 1 v (bytesD F j).length (bytesV (bytesD F j)) ∧ Still wb wr)) (fun _ iv _ => n - (intOf iv).toNat)
  case atStart => exact ⟨0, _, rfl, rfl, Nat.zero_le _, I0⟩
  case round =>
    clear I0
    obtain ⟨j, v, rfl, rfl, hj, hin⟩ := hrel
    have OW := Lib.hid hin.out.1
    have ST := Lib.hid hin.out.2
    clear hin
    by_cases hlt : j < n
    · obtain ⟨x, hx⟩ : ∃ x, F.waits[j]? = some x := ⟨_, List.getElem?_eq_getElem (by have := HM.out; omega)⟩
      obtain ⟨g, rfl, hch⟩ := CH.out j x hx
      have HCH := Lib.hid hch
      have k2 : wr.cell? ⟨w.heap.size, 2, none⟩ = some (.slice (some ⟨g, 0, none⟩) m3 c3) := (BX.out.still ST.out).cell 2
      have HLT := Lib.hid hlt
      have q1 : (0 : Int) ≤ (j : Int) := by omega
      have q2 : (j : Int) < (m3 : Int) := by omega
      have SUC := Lib.hid (bytesD_succ F j x hx)
      have HT := Lib.hid (GD.out.most j)
      have HT1 := Lib.hid (GD.out.most (j + 1))
      have HE := Lib.hid (GD.out.each x (List.mem_of_getElem? hx))
      have HCUT := Lib.hid (GD.out.cut j x hx)
      obtain ⟨B, hB⟩ : ∃ B, B = bytesD F j := ⟨_, rfl⟩
      obtain ⟨B1, hB1⟩ : ∃ B1, B1 = bytesD F (j + 1) := ⟨_, rfl⟩
      have HB1 := Lib.hid hB1
      rw [← hB] at OW SUC HT HCUT
      rw [← hB1] at SUC HT1
      clear hx hch hlt hB hB1
      obtain ⟨cu, ki, xb⟩ := x
      obtain ⟨d0, d1, Ab, nb, cb, d2, hrow⟩ := HCH.out wr ST.out
      cases cu
      · have SUC2 := Lib.hid (show B1 = B ++ xb from by rw [SUC.out]; rfl)
        have D2 := Lib.hid (fun W (s : Still wr W) => (show W.cell? ⟨w.heap.size, 2, none⟩ = some (.slice (some ⟨g, 0, none⟩) m3 c3) ∧ W.cell? ⟨g, j * 3 + 2, none⟩ = some (.slice Ab nb cb) from ⟨(s.cell (p := ⟨w.heap.size, 2, none⟩) (BX.out.still ST.out).lt).trans k2, (s.cell (p := ⟨g, j * 3 + 2, none⟩) (World.block_lt_of_cell? _ _ d2)).trans d2⟩))
        have HRW := Lib.hid (show RowP wr (frz own) Ab nb cb xb from hrow)
        obtain ⟨Av, cv, rfl, hv1, hv2, hv3⟩ := own_form OW.out
        have CPB := Lib.hid (fun W (s : Still wr W) => copy_any Av B.length cv B W _ (Reads.of_own (still_own OW.out s)) (by have := HT.out; omega) hv3)
        have HRL := Lib.hid hrow.len
        clear hrow d1 d2 HCUT hv1 hv2 hv3
        go_upto_region 7 with fail
        go_region_held3 (fun W => W.cell? ⟨w.heap.size, 2, none⟩ = some (.slice (some ⟨g, 0, none⟩) m3 c3) ∧ W.cell? ⟨g, j * 3 + 2, none⟩ = some (.slice Ab nb cb)) (first | exact D2.out _ ((Still.refl wr).drew) | exact D2.out _ S4.out | exact D2.out _ S5.out) (first
          | (go_at_call 15; with_reducible refine (CPB.out _ ((Still.refl wr).drew)).mono ?_; rintro e w4 ⟨⟨v4, rfl, o4⟩, s4⟩; have O4 := Lib.hid o4; have S4 := Lib.hid (Still.trans ((Still.refl wr).drew) s4); clear o4 s4)
          | (refine step_adds w4 (by rfl) (.tmp 30) (.tmp 36) (by rfl) wr.heap.size _ B.length B (by rfl) O4.out Ab nb cb _ xb (by rfl) (HRW.out.still S4.out).reads (fun e => (HRW.out.nil e).2) (by have := HT.out; have h8 : xb.length ≤ T := HE.out; have h9 : xb.length = nb := HRL.out; omega) S4.out.size ?_; intro v5 w5 o5 g5 _; have O5 := Lib.hid o5; have S5 := Lib.hid (still_push S4.out O4.out (Nat.le_refl _) g5); clear o5 g5))
        have IN := Lib.hid (show w5.ownsRow wb.heap.size 5 1 v5 (bytesD F (j + 1)).length (bytesV (bytesD F (j + 1))) ∧ Still wb w5 from ⟨by
          rw [← HB1.out, SUC2.out, List.length_append, HRL.out]
          exact own_base O5.out ST.out.size, Still.trans ST.out S5.out⟩)
        clear k2 d0
        go_wp2_with fail
        go_roundw
        case rel => exact ⟨j + 1, v5, rfl, by go_num, by have := HLT.out; omega, IN⟩
        case measure => simp [intOf]; have := HLT.out; omega
      · obtain ⟨u1, u2⟩ := HCUT.out rfl
        simp only at u1 u2
        obtain ⟨kk, rfl⟩ := Int.eq_ofNat_of_zero_le u1
        have u3 : kk ≤ B.length := by omega
        have SUC2 := Lib.hid (show B1 = B.take kk from by rw [SUC.out]; rfl)
        obtain ⟨Av, cv, rfl, hv1, hv2, hv3⟩ := own_form OW.out
        have OF := Lib.hid (own_front OW.out u3)
        have HKL := Lib.hid (show (B.take kk).length = kk by rw [List.length_take]; omega)
        have IN := Lib.hid (show wr.ownsRow wb.heap.size 5 1 (.slice Av kk cv) (bytesD F (j + 1)).length (bytesV (bytesD F (j + 1))) ∧ Still wb wr from ⟨by
          rw [← HB1.out, SUC2.out, HKL.out]
          exact OF.out, ST.out⟩)
        obtain ⟨bl, hbl⟩ : ∃ bl, bl = B.length := ⟨_, rfl⟩
        rw [← hbl] at u3 hv1 hv3 ⊢
        clear u1 u2 hrow HCUT HCH hbl
        rcases Av with _ | ⟨gv, ov, sp⟩
        · obtain ⟨y1, y2⟩ := hv3 rfl
          subst y1 y2
          obtain rfl : kk = 0 := by omega
          go_wp2_with fail
          go_roundw
          case rel => exact ⟨j + 1, _, rfl, by go_num, by have := HLT.out; omega, IN⟩
          case measure => simp [intOf]; have := HLT.out; omega
        · clear hv3
          go_wp2_with fail
          go_roundw
          case rel => exact ⟨j + 1, _, rfl, by go_num, by have := HLT.out; omega, IN⟩
          case measure => simp [intOf]; have := HLT.out; omega
    · obtain rfl : j = n := by omega
      obtain ⟨Av, cv, rfl⟩ := own_formN OW.out
      have TT := Lib.hid (Still.trans SB.out ST.out)
      have LOW := Lib.hid (own_base OW.out SB.out.size)
      go_wp2_with fail
      go_ret
      exact ⟨⟨Av, cv, rfl, LOW.out⟩, TT.out⟩
end Go.Proofs.YtljacdbdjacbkaaGreat

/- Contracts on the document's disk: All, List, Read, SetRoom, Arm, New, Used, names. It proves no statement. -/


namespace Go.Proofs.YtljacdbdjacbkaaGreat
open Go.RowKit Go.Maps Go.WideMaps Go.Sort
set_option linter.unusedVariables false
set_option linter.unusedSimpArgs false

def namesD (D : Dk) (j : Nat) : NT := (D.waits.take j).foldl lkD D.fast
theorem namesD_succ (D : Dk) (j : Nat) (x : Lk) (h : D.waits[j]? = some x) : namesD D (j + 1) = lkD (namesD D j) x := by
  unfold namesD
  rw [List.take_add_one, h, List.foldl_append]
  rfl
/-- What holds of a disk between calls. -/
structure Dk.good (D : Dk) (k : Nat) : Prop where
  nf : D.files.length ≤ k
  nn : D.now.length ≤ k
  nw : D.waits.length ≤ k
  nm : ∀ j, (namesD D j).length ≤ k ∧ ∀ p ∈ namesD D j, p.2 < D.files.length
  fs : ∀ (f : Nat) (F : DFi), D.files[f]? = some F → F.good k 33554432
  left : 0 ≤ D.left ∧ D.left ≤ 9223372036854775807
  room : 0 ≤ D.room ∧ D.room ≤ 16777216
  nowf : ∀ p ∈ D.now, p.2 < D.files.length
theorem Dk.good.most {D : Dk} {k : Nat} (h : D.good k) {f : Nat} {F : DFi} (hf : D.files[f]? = some F) : F.now.length ≤ 33554432 := by
  have := (h.fs f F hf).most F.waits.length
  rw [(h.fs f F hf).now]
  exact this
theorem dFind_some {N : NT} {s : List UInt8} (h : ¬ dFind N s < 0) : ∃ f, nFind N s = some f ∧ dFind N s = (f : Int) := by
  unfold dFind at h ⊢
  cases hq : nFind N s with
  | none => rw [hq] at h; exact absurd (show (-1 : Int) < 0 by decide) h
  | some f => exact ⟨f, rfl, rfl⟩
theorem dFind_none {N : NT} {s : List UInt8} (h : dFind N s < 0) : nFind N s = none ∧ dFind N s = -1 := by
  unfold dFind at h ⊢
  cases hq : nFind N s with
  | none => exact ⟨rfl, rfl⟩
  | some f =>
    rw [hq] at h
    have h2 : (f : Int) < 0 := h
    omega
theorem Dk.good.file {D : Dk} {k : Nat} (h : D.good k) {s : List UInt8} {f : Nat} (hs : nFind D.now s = some f) : ∃ F, D.files[f]? = some F :=
  ⟨_, List.getElem?_eq_getElem (h.nowf _ (nFind_mem hs))⟩
/-- All bytes of a file; or why not. -/
def allD (D : Dk) (s : List UInt8) : List UInt8 × Int := if D.off = true then ([], 12) else match nFind D.now s with | none => ([], 9) | some f => (((D.files[f]?).map (·.now)).getD [], 0)
set_option maxRecDepth 100000 in
theorem all_D {w : World} {base dk k : Nat} {own : DOwn} {D : Dk} (h : DiskI w base own dk D) (hg : D.good k) (s : ByteArray) :
    Calls Tryz.prog 46 #[.pointer (some ⟨dk, 0, none⟩), .string s] w fun e w' => (∃ (A : Option Addr) (c : Nat), e = .returned (.tuple #[.slice A (allD D s.data.toList).1.length c, .int .i64 (allD D s.data.toList).2]) ∧ w'.ownsRow w.heap.size 5 1 (.slice A (allD D s.data.toList).1.length c) (allD D s.data.toList).1.length (bytesV (allD D s.data.toList).1)) ∧ Still w w' := by
  have FD := Lib.hid (find_D h s)
  obtain ⟨fv, fcs, A, n, c, A2, n2, c2, wv, hc⟩ := id h
  obtain ⟨_, _, _, _, _, _, _, c7⟩ := hc.cells
  by_cases ho : D.off = true
  · have E : allD D s.data.toList = ([], 12) := by unfold allD; rw [if_pos ho]
    rw [E]
    rw [ho] at c7
    clear h hc hg ho E FD
    go_enter Tryz.func46, Tryz.ntmps46
    go_wp2_with fail
    go_ret2
    exact ⟨⟨none, 0, rfl, World.ownsRow_nil _ _ _ _⟩, Still.refl _⟩
  · have hf : D.off = false := by simpa using ho
    rw [hf] at c7
    by_cases hl : dFind D.now s.data.toList < 0
    · obtain ⟨e1, e2⟩ := dFind_none hl
      have E : allD D s.data.toList = ([], 9) := by unfold allD; rw [if_neg ho, e1]
      rw [E]
      rw [e2] at FD
      clear h hc hg ho E e1 e2 hl hf
      go_enter Tryz.func46, Tryz.ntmps46
      go_wp2_with fail
      refine FD.out.mono ?_
      rintro e w1 ⟨rfl, rfl⟩
      go_wp2_with fail
      go_ret2
      exact ⟨⟨none, 0, rfl, World.ownsRow_nil _ _ _ _⟩, Still.refl _⟩
    · obtain ⟨f, e1, e2⟩ := dFind_some hl
      obtain ⟨F, hF⟩ := hg.file e1
      have E : allD D s.data.toList = (F.now, 0) := by unfold allD; rw [if_neg ho, e1]; simp only [hF]; rfl
      rw [E]
      rw [e2] at FD
      have HE := Lib.hid (here_D h hF (by have := hg.most hF; omega))
      obtain ⟨l, hl2⟩ : ∃ l, l = F.now := ⟨_, rfl⟩
      rw [← hl2] at HE ⊢
      clear h hc hg ho E e1 e2 hl hf hl2 hF
      go_enter Tryz.func46, Tryz.ntmps46
      go_wp2_with fail
      refine FD.out.mono ?_
      rintro e w1 ⟨rfl, rfl⟩
      go_wp2_with fail
      refine HE.out.mono ?_
      rintro e w2 ⟨⟨Av, cv, rfl, o⟩, s2⟩
      have O2 := Lib.hid (And.intro o s2)
      clear o s2
      go_wp2_with fail
      go_ret2
      exact ⟨⟨Av, cv, rfl, O2.out.1⟩, O2.out.2⟩
def roomD (D : Dk) (n : Int) : Int × Dk := if D.off = true then (12, D) else if n < 0 ∨ 16777216 < n then (2, D) else (0, { D with room := n })
def armD (D : Dk) (n : Int) : Int × Dk := if D.off = true then (12, D) else if n < 0 then (2, D) else (0, { D with armed := true, left := n })
set_option maxRecDepth 100000 in
theorem room_D {w : World} {base dk : Nat} {own : DOwn} {D : Dk} (h : DiskI w base own dk D) (n : Int) :
    Calls Tryz.prog 37 #[.pointer (some ⟨dk, 0, none⟩), .int .i64 n] w fun e w' => e = .returned (.int .i64 (roomD D n).1) ∧ DLeft w w' base dk own (roomD D n).2 := by
  have L0 := Lib.hid (DLeft.still h (Still.refl w))
  obtain ⟨fv, fcs, A, m, c, A2, n2, c2, wv, h⟩ := h
  obtain ⟨_, _, _, _, _, _, _, c7⟩ := h.cells
  have f0 := h.frozen 0
  by_cases ho : D.off = true
  · have E : roomD D n = (12, D) := by unfold roomD; rw [if_pos ho]
    rw [E]
    rw [ho] at c7
    clear h ho E
    go_enter Tryz.func37, Tryz.ntmps37
    go_wp2
    go_ret
    exact ⟨rfl, L0.out⟩
  · have hf : D.off = false := by simpa using ho
    rw [hf] at c7
    by_cases h1 : n < 0
    · have E : roomD D n = (2, D) := by unfold roomD; rw [if_neg ho, if_pos (.inl h1)]
      rw [E]
      clear h ho E hf
      go_enter Tryz.func37, Tryz.ntmps37
      go_wp2
      go_ret
      exact ⟨rfl, L0.out⟩
    · by_cases h2 : 16777216 < n
      · have E : roomD D n = (2, D) := by unfold roomD; rw [if_neg ho, if_pos (.inr h2)]
        rw [E]
        clear h ho E hf
        go_enter Tryz.func37, Tryz.ntmps37
        go_wp2
        go_ret
        exact ⟨rfl, L0.out⟩
      · have E : roomD D n = (0, { D with room := n }) := by unfold roomD; rw [if_neg ho, if_neg (by omega)]
        rw [E]
        have M := Lib.hid (fun W (hw : W = w.setCell ⟨dk, 0, none⟩ (.int .i64 n)) => (show DLeft w W base dk own { D with room := n } from by subst hw; exact h.reB { D with room := n } rfl rfl rfl rfl (h.blk.setc 0 (.int .i64 n)) (chg_set1 w dk 0 (.int .i64 n))))
        clear h ho E hf
        go_enter Tryz.func37, Tryz.ntmps37
        go_wp2
        go_ret
        exact ⟨rfl, M.out _ rfl⟩
set_option maxRecDepth 100000 in
theorem arm_D {w : World} {base dk : Nat} {own : DOwn} {D : Dk} (h : DiskI w base own dk D) (n : Int) :
    Calls Tryz.prog 35 #[.pointer (some ⟨dk, 0, none⟩), .int .i64 n] w fun e w' => e = .returned (.int .i64 (armD D n).1) ∧ DLeft w w' base dk own (armD D n).2 := by
  have L0 := Lib.hid (DLeft.still h (Still.refl w))
  obtain ⟨fv, fcs, A, m, c, A2, n2, c2, wv, h⟩ := h
  obtain ⟨_, _, _, _, _, _, _, c7⟩ := h.cells
  have f5 := h.frozen 5
  have f6 := h.frozen 6
  by_cases ho : D.off = true
  · have E : armD D n = (12, D) := by unfold armD; rw [if_pos ho]
    rw [E]
    rw [ho] at c7
    clear h ho E
    go_enter Tryz.func35, Tryz.ntmps35
    go_wp2
    go_ret
    exact ⟨rfl, L0.out⟩
  · have hf : D.off = false := by simpa using ho
    rw [hf] at c7
    by_cases h1 : n < 0
    · have E : armD D n = (2, D) := by unfold armD; rw [if_neg ho, if_pos h1]
      rw [E]
      clear h ho E hf
      go_enter Tryz.func35, Tryz.ntmps35
      go_wp2
      go_ret
      exact ⟨rfl, L0.out⟩
    · have E : armD D n = (0, { D with armed := true, left := n }) := by unfold armD; rw [if_neg ho, if_neg h1]
      rw [E]
      have M := Lib.hid (fun W (hw : W = (w.setCell ⟨dk, 5, none⟩ (.bool true)).setCell ⟨dk, 6, none⟩ (.int .i64 n)) => (show DLeft w W base dk own { D with armed := true, left := n } from by subst hw; exact h.reB { D with armed := true, left := n } rfl rfl rfl rfl ((h.blk.setc 5 (.bool true)).setc 6 (.int .i64 n)) ((chg_set1 w dk 5 (.bool true)).trans (chg_set1 _ dk 6 (.int .i64 n)) (fun _ _ h => h))))
      clear h ho E hf
      go_enter Tryz.func35, Tryz.ntmps35
      go_wp2
      go_ret
      exact ⟨rfl, M.out _ rfl⟩
end Go.Proofs.YtljacdbdjacbkaaGreat
