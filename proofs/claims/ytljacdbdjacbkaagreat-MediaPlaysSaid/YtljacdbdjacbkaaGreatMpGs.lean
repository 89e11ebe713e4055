/- Contracts and facts, several texts in one. It proves no statement. -/
import Derived.Test.YtljacdbdjacbkaaGreatMpGg
import Derived.Test.YtljacdbdjacbkaaGreatMpGn
import Derived.Test.YtljacdbdjacbkaaGreatMpGr

/- Contract: which texts are names, by the document. It proves no statement. -/


namespace Go.Proofs.YtljacdbdjacbkaaGreat
open Go.RowKit Go.Maps Go.WideMaps
set_option linter.unusedVariables false
set_option linter.unusedSimpArgs false

set_option maxRecDepth 100000 in
set_option maxHeartbeats 3200000 in
theorem good_any (s : ByteArray) (hs : s.size ≤ 9223372036854775807) (w : World) : Calls Tryz.prog 64 #[.string s] w fun e w' => e = .returned (.bool (nmOK s.data.toList)) ∧ w = w' := by
  obtain ⟨l, hl⟩ : ∃ l, l = s.data.toList := ⟨_, rfl⟩
  have hix : ∀ (k : Nat) (w : World), k < s.size → (Instr.index 9 (.string s) (.int .i64 (k : Int))).run Tryz.prog w = .ok (.int .u8 ((l.getD k 0).toNat : Int)) w := fun k w h => by rw [hl]; exact index_textM s w k h
  have hll : l.length = s.size := by rw [hl]; simp
  rw [← hl]
  obtain ⟨n, hn⟩ : ∃ n, n = s.size := ⟨_, rfl⟩
  have HLL := Lib.hid (show l.length = n by rw [hll, hn])
  have HIX := Lib.hid (fun (k : Nat) (h : k < n) => fun w => hix k w (by omega))
  have hsz : s.size = n := hn.symm
  have hn63 : n ≤ 9223372036854775807 := by omega
  clear hl hll hix hs hn
  go_enter Tryz.func64, Tryz.ntmps64
  go_wp2_with fail
  go_loopw [3] (fun iv wr => ∃ k : Nat, k ≤ n ∧ iv = .int .i64 k ∧ wr = w ∧ Hid (∀ i, i < k → inNm (l.getD i 0).toNat = true)) (fun iv _ => n - (intOf iv).toNat)
  case atStart => exact ⟨0, Nat.zero_le _, rfl, rfl, fun i hi => by omega⟩
  case round =>
    obtain ⟨k, hk, rfl, hw, hall⟩ := hrel
    subst hw
    by_cases hlt : k < n
    · have ix := HIX.out k hlt
      obtain ⟨c, hc⟩ : ∃ c, c = (l.getD k 0).toNat := ⟨_, rfl⟩
      have hc256 : c < 256 := by rw [hc]; exact (l.getD k 0).toNat_lt
      rw [← hc] at ix
      have z1 : (k : Int) < (n : Int) := by omega
      have HLT := Lib.hid hlt
      have HCC := Lib.hid hc
      clear hc hlt
      have NO := Lib.hid (fun (hq : inNm c = false) => (show nmOK l = false by
          unfold nmOK
          rw [Bool.and_eq_false_iff]
          right
          rw [List.all_eq_false]
          have hk2 : k < l.length := by rw [HLL.out]; exact HLT.out
          refine ⟨l[k], List.getElem_mem _, ?_⟩
          have : l.getD k 0 = l[k] := by simp [List.getD, hk2]
          rw [← this, ← HCC.out, hq]
          decide))
      have YES := Lib.hid (fun (hq : inNm c = true) => (show ∀ i, i < k + 1 → inNm (l.getD i 0).toNat = true from fun i hi => by
          by_cases e : i = k
          · rw [e, ← HCC.out]; exact hq
          · exact hall.out i (by omega)))
      clear hall
      have part : c < 45 ∨ c = 45 ∨ c = 46 ∨ c = 47 ∨ (48 ≤ c ∧ c ≤ 57) ∨ (58 ≤ c ∧ c ≤ 96) ∨ (97 ≤ c ∧ c ≤ 122) ∨ 123 ≤ c := by omega
      rcases part with h | h | h | h | h | h | h | h
      · have E := Lib.hid (show inNm c = false by unfold inNm; exact decide_eq_false (by omega))
        have a1 : (c : Int) < 97 := by omega
        have a2 : ¬ (122 : Int) < (c : Int) := by omega
        have a3 : (c : Int) < 48 := by omega
        have a4 : ¬ (57 : Int) < (c : Int) := by omega
        have b45 : ((c : Int) == 45) = false := by rw [beq_eq_false_iff_ne]; omega
        have b46 : ((c : Int) == 46) = false := by rw [beq_eq_false_iff_ne]; omega
        have n45 : ((c : Int) != 45) = true := by simp; omega
        have n46 : ((c : Int) != 46) = true := by simp; omega
        go_wp2_with fail
        (try simp only [Exit.inBlock, Exit.then])
        go_ret
        exact ⟨by rw [NO.out E.out]; rfl, rfl⟩
      · have E := Lib.hid (show inNm c = true by unfold inNm; exact decide_eq_true (by omega))
        subst h
        go_wp2_with fail
        go_roundw
        case rel => exact ⟨k + 1, by have := HLT.out; omega, by go_num, (by first | rfl | trivial), Lib.hid (YES.out E.out)⟩
        case measure => simp [intOf]; have := HLT.out; omega
      · have E := Lib.hid (show inNm c = true by unfold inNm; exact decide_eq_true (by omega))
        subst h
        go_wp2_with fail
        go_roundw
        case rel => exact ⟨k + 1, by have := HLT.out; omega, by go_num, (by first | rfl | trivial), Lib.hid (YES.out E.out)⟩
        case measure => simp [intOf]; have := HLT.out; omega
      · have E := Lib.hid (show inNm c = false by unfold inNm; exact decide_eq_false (by omega))
        subst h
        go_wp2_with fail
        (try simp only [Exit.inBlock, Exit.then])
        go_ret
        exact ⟨by rw [NO.out E.out]; rfl, rfl⟩
      · have E := Lib.hid (show inNm c = true by unfold inNm; exact decide_eq_true (by omega))
        have a1 : (c : Int) < 97 := by omega
        have a2 : ¬ (122 : Int) < (c : Int) := by omega
        have a3 : ¬ (c : Int) < 48 := by omega
        have a4 : ¬ (57 : Int) < (c : Int) := by omega
        have b45 : ((c : Int) == 45) = false := by rw [beq_eq_false_iff_ne]; omega
        have b46 : ((c : Int) == 46) = false := by rw [beq_eq_false_iff_ne]; omega
        have n45 : ((c : Int) != 45) = true := by simp; omega
        have n46 : ((c : Int) != 46) = true := by simp; omega
        go_wp2_with fail
        go_roundw
        case rel => exact ⟨k + 1, by have := HLT.out; omega, by go_num, (by first | rfl | trivial), Lib.hid (YES.out E.out)⟩
        case measure => simp [intOf]; have := HLT.out; omega
      · have E := Lib.hid (show inNm c = false by unfold inNm; exact decide_eq_false (by omega))
        have a1 : (c : Int) < 97 := by omega
        have a2 : ¬ (122 : Int) < (c : Int) := by omega
        have a3 : ¬ (c : Int) < 48 := by omega
        have a4 : (57 : Int) < (c : Int) := by omega
        have b45 : ((c : Int) == 45) = false := by rw [beq_eq_false_iff_ne]; omega
        have b46 : ((c : Int) == 46) = false := by rw [beq_eq_false_iff_ne]; omega
        have n45 : ((c : Int) != 45) = true := by simp; omega
        have n46 : ((c : Int) != 46) = true := by simp; omega
        go_wp2_with fail
        (try simp only [Exit.inBlock, Exit.then])
        go_ret
        exact ⟨by rw [NO.out E.out]; rfl, rfl⟩
      · have E := Lib.hid (show inNm c = true by unfold inNm; exact decide_eq_true (by omega))
        have a1 : ¬ (c : Int) < 97 := by omega
        have a2 : ¬ (122 : Int) < (c : Int) := by omega
        have a3 : ¬ (c : Int) < 48 := by omega
        have a4 : (57 : Int) < (c : Int) := by omega
        have b45 : ((c : Int) == 45) = false := by rw [beq_eq_false_iff_ne]; omega
        have b46 : ((c : Int) == 46) = false := by rw [beq_eq_false_iff_ne]; omega
        have n45 : ((c : Int) != 45) = true := by simp; omega
        have n46 : ((c : Int) != 46) = true := by simp; omega
        go_wp2_with fail
        go_roundw
        case rel => exact ⟨k + 1, by have := HLT.out; omega, by go_num, (by first | rfl | trivial), Lib.hid (YES.out E.out)⟩
        case measure => simp [intOf]; have := HLT.out; omega
      · have E := Lib.hid (show inNm c = false by unfold inNm; exact decide_eq_false (by omega))
        have a1 : ¬ (c : Int) < 97 := by omega
        have a2 : (122 : Int) < (c : Int) := by omega
        have a3 : ¬ (c : Int) < 48 := by omega
        have a4 : (57 : Int) < (c : Int) := by omega
        have b45 : ((c : Int) == 45) = false := by rw [beq_eq_false_iff_ne]; omega
        have b46 : ((c : Int) == 46) = false := by rw [beq_eq_false_iff_ne]; omega
        have n45 : ((c : Int) != 45) = true := by simp; omega
        have n46 : ((c : Int) != 46) = true := by simp; omega
        go_wp2_with fail
        (try simp only [Exit.inBlock, Exit.then])
        go_ret
        exact ⟨by rw [NO.out E.out]; rfl, rfl⟩
    · obtain rfl : k = n := by omega
      have ALL := Lib.hid (show l.all (fun c => inNm c.toNat) = true from by
        rw [List.all_eq_true]
        intro x hx
        obtain ⟨i, hi, rfl⟩ := List.mem_iff_getElem.1 hx
        have := hall.out i (by rw [← HLL.out]; exact hi)
        simpa [List.getD, hi] using this)
      clear hall
      by_cases h1 : 0 < k
      · by_cases h2 : k ≤ 24
        · have E := Lib.hid (show nmOK l = true by unfold nmOK; rw [ALL.out, HLL.out]; simp; omega)
          have g1 : (0 : Int) < (k : Int) := by omega
          have g2 : (k : Int) ≤ 24 := by omega
          go_wp2_with fail
          go_ret
          exact ⟨by rw [E.out]; first | rfl | (simp; omega), rfl⟩
        · have E := Lib.hid (show nmOK l = false by unfold nmOK; rw [ALL.out, HLL.out]; simp; omega)
          have g1 : (0 : Int) < (k : Int) := by omega
          have g2 : ¬ (k : Int) ≤ 24 := by omega
          go_wp2_with fail
          go_ret
          exact ⟨by rw [E.out]; first | rfl | (simp; omega), rfl⟩
      · have E := Lib.hid (show nmOK l = false by unfold nmOK; rw [ALL.out, HLL.out]; simp; omega)
        obtain rfl : k = 0 := by omega
        go_wp2_with fail
        go_ret
        exact ⟨by rw [E.out]; first | rfl | (simp; omega), rfl⟩
end Go.Proofs.YtljacdbdjacbkaaGreat

/- Contract: the document's Create. It proves no statement. -/


namespace Go.Proofs.YtljacdbdjacbkaaGreat
open Go.RowKit Go.Maps Go.WideMaps Go.Sort
set_option linter.unusedVariables false
set_option linter.unusedSimpArgs false

def newLk (s : ByteArray) (f : Nat) : Lk := ⟨⟨#[]⟩, s, f⟩
def madeD (D : Dk) (s : ByteArray) : Dk := { D with files := D.files ++ [⟨[], [], []⟩], waits := D.waits ++ [newLk s D.files.length], now := lkD D.now (newLk s D.files.length) }
def createD (D : Dk) (s : ByteArray) : Int × Dk :=
  if D.off = true then (12, D) else if nmOK s.data.toList = false then (7, D) else if ¬ dFind D.now s.data.toList < 0 then (10, D) else if 500 ≤ D.now.length then (16, D) else if (stepD D).1 = 0 then (0, madeD (stepD D).2 s) else stepD D
theorem stepD_same (D : Dk) : (stepD D).2.files = D.files ∧ (stepD D).2.now = D.now ∧ (stepD D).2.waits = D.waits ∧ (stepD D).2.fast = D.fast ∧ (stepD D).2.room = D.room := by
  unfold stepD
  split
  · split <;> exact ⟨rfl, rfl, rfl, rfl, rfl⟩
  · exact ⟨rfl, rfl, rfl, rfl, rfl⟩
theorem stepD_12 (D : Dk) (h : ¬ (stepD D).1 = 0) : (stepD D).1 = 12 := by
  unfold stepD at h ⊢
  split
  · split
    · rfl
    · rename_i h1 h2
      rw [if_pos h1, if_neg h2] at h
      exact absurd rfl h
  · rename_i h1
    rw [if_neg h1] at h
    exact absurd rfl h
theorem DLeft.chain {w w1 w2 : World} {base dk : Nat} {own own1 : DOwn} {D2 : Dk} (c1 : Chg w w1 (fun b => own b ≠ none)) (ho1 : ∀ b, b < w.heap.size → own1 b = own b) (h2 : DLeft w1 w2 base dk own1 D2) : DLeft w w2 base dk own D2 := by
  obtain ⟨c2, own2, ho2, d2⟩ := h2
  exact ⟨c1.trans c2 (fun b hb hs => by rw [← ho1 b hb]; exact hs), own2, fun b hb => (ho2 b (Nat.lt_of_lt_of_le hb c1.size)).trans (ho1 b hb), d2⟩
/-- A new file was put to the row of files. -/
theorem file_end {w w4 : World} {base dk : Nat} {own : DOwn} {D : Dk} {fv fv' wv : Value} {fcs : List Value} {A A2 : Option Addr} {n c n2 c2 : Nat} (h : DiskC w base own dk D fv fcs A n c A2 n2 c2 wv) (g : Chg w w4 (fun b => b = dk ∨ fv.ownBlock = some b))
    (hb : Blk w4 dk 47 (dkC D fv' A n c A2 n2 c2 wv)) (o4 : w4.ownsRow base 111 3 fv' (D.files.length + 1) (fcs ++ [.slice none 0 0, .slice none 0 0, .slice none 0 0])) (hv : fv'.ownBlock = fv.ownBlock ∨ ∃ j, fv'.ownBlock = some j ∧ w.heap.size ≤ j) :
    DLeft w w4 base dk own { D with files := D.files ++ [⟨[], [], []⟩] } := by
  have hv2 : ∀ b, fv'.ownBlock = some b → own b = some 2 ∨ w.heap.size ≤ b := fun b e => by
    rcases hv with hv | ⟨j, hv, hj⟩
    · rw [hv] at e; exact .inl (h.ofv b e)
    · rw [hv] at e; injection e with e; exact .inr (by omega)
  have ho := relab_old (hi := w4.heap.size) hv2
  have hS : ∀ k b, (b = dk ∨ fv.ownBlock = some b) → k ≠ 1 → k ≠ 2 → own b ≠ some k := fun k b hb h1 h3 e => by
    rcases hb with rfl | hb
    · rw [h.odk] at e; injection e with e; exact h1 e.symm
    · rw [h.ofv b hb] at e; injection e with e; exact h3 e.symm
  refine ⟨g.mono (fun b _ hb => ?_), relab own w.heap.size w4.heap.size fv' 2, ho, fv', _, A, n, c, A2, n2, c2, wv, hb, ?_, (h.files.move g (fun b hs => hS 0 b hs (by decide) (by decide)) (fun b i hs => hS (4 + i) b hs (by omega) (by omega)) ho).snoc (cs' := [.slice none 0 0, .slice none 0 0, .slice none 0 0]) rfl ?_, h.fast.move g (fun b hs => hS 0 b hs (by decide) (by decide)) ho, h.now.move g (fun b hs => hS 0 b hs (by decide) (by decide)) ho, g.own h.wown (fun b e hs => hS 3 b hs (by decide) (by decide) (h.owv b e)), ?_, fun b e => ?_, fun b e => ?_, ?_, Nat.le_trans h.low g.size⟩
  · rcases hb with rfl | hb
    · rw [h.odk]; simp
    · rw [h.ofv b hb]; simp
  · show w4.ownsRow base _ 3 fv' (D.files ++ [_]).length _
    rw [List.length_append]
    exact o4
  · exact ⟨none, 0, 0, none, 0, 0, none, 0, 0, [], rfl, RowP.none_, RowP.none_, rfl, World.ownsRow_nil _ _ _ _, HasDc.nil _ _, fun b hb => by simp [Value.ownBlock] at hb⟩
  · rw [ho dk h.blk.lt]; exact h.odk
  · unfold relab; rw [if_pos e]
  · rw [ho b (h.wown.lt b e).2]; exact h.owv b e
  · exact relab_dom (fun b e => o4.lt b e) (fun b hb => ⟨(h.dom b hb).1, Nat.lt_of_lt_of_le (h.dom b hb).2 g.size⟩) h.low
set_option maxRecDepth 100000 in
set_option maxHeartbeats 3200000 in
theorem create_D {w : World} {base dk k : Nat} {own : DOwn} {D : Dk} (h : DiskI w base own dk D) (hg : D.good k) (hk : k ≤ 700000) (s : ByteArray) (hs : s.size ≤ 9223372036854775807) :
    Calls Tryz.prog 31 #[.pointer (some ⟨dk, 0, none⟩), .string s] w fun e w' => e = .returned (.int .i64 (createD D s).1) ∧ DLeft w w' base dk own (createD D s).2 := by
  have L0 := Lib.hid (DLeft.still h (Still.refl w))
  have FD := Lib.hid (find_D h s)
  have GO := Lib.hid (good_any s hs w)
  have SP := Lib.hid (step_D h hg.left.1 hg.left.2)
  obtain ⟨fv, fcs, A, n, c, A2, n2, c2, wv, hc⟩ := id h
  obtain ⟨_, _, _, c3, _, _, _, c7⟩ := hc.cells
  have NM := Lib.hid (names_D A2 n2 c2 dk w c3)
  have hnl := hc.now.len
  by_cases ho : D.off = true
  · have E : createD D s = (12, D) := by unfold createD; rw [if_pos ho]
    rw [E]
    rw [ho] at c7
    clear h hc ho E hg c3
    go_enter Tryz.func31, Tryz.ntmps31
    go_wp2
    go_ret
    exact ⟨rfl, L0.out⟩
  have hf : D.off = false := by simpa using ho
  rw [hf] at c7
  by_cases hn : nmOK s.data.toList = false
  · have E : createD D s = (7, D) := by unfold createD; rw [if_neg ho, if_pos hn]
    rw [E]
    rw [hn] at GO
    clear h hc ho E hg hf hn c3
    go_enter Tryz.func31, Tryz.ntmps31
    go_wp2_with fail
    refine GO.out.mono ?_
    rintro e w1 ⟨rfl, rfl⟩
    go_wp2_with fail
    go_ret
    exact ⟨rfl, L0.out⟩
  have hn2 : nmOK s.data.toList = true := by simpa using hn
  rw [hn2] at GO
  by_cases hd : ¬ dFind D.now s.data.toList < 0
  · have E : createD D s = (10, D) := by unfold createD; rw [if_neg ho, if_neg hn, if_pos hd]
    rw [E]
    obtain ⟨f, e1, e2⟩ := dFind_some hd
    rw [e2] at FD
    have q0 : ((f : Int) ≥ 0) := by omega
    clear h hc ho E hg hf hn hn2 hd e1 e2 c3
    go_enter Tryz.func31, Tryz.ntmps31
    go_wp2_with fail
    refine GO.out.mono ?_
    rintro e w1 ⟨rfl, rfl⟩
    go_wp2_with fail
    refine FD.out.mono ?_
    rintro e w1 ⟨rfl, rfl⟩
    go_wp2_with fail
    go_ret
    exact ⟨rfl, L0.out⟩
  obtain ⟨e1, e2⟩ := dFind_none (show dFind D.now s.data.toList < 0 by simpa using hd)
  rw [e2] at FD
  by_cases hl : 500 ≤ D.now.length
  · have E : createD D s = (16, D) := by unfold createD; rw [if_neg ho, if_neg hn, if_neg hd, if_pos hl]
    rw [E]
    have q0 : (500 : Int) ≤ (n2 : Int) := by omega
    clear h hc ho E hg hf hn hn2 hd e1 e2 hl hnl
    go_enter Tryz.func31, Tryz.ntmps31
    go_wp2_with fail
    refine GO.out.mono ?_
    rintro e w1 ⟨rfl, rfl⟩
    go_wp2_with fail
    refine FD.out.mono ?_
    rintro e w1 ⟨rfl, rfl⟩
    go_wp2_with fail
    refine NM.out.mono ?_
    rintro e w1 ⟨rfl, rfl⟩
    go_wp2_with fail
    go_ret
    exact ⟨rfl, L0.out⟩
  have q0 : ¬ (500 : Int) ≤ (n2 : Int) := by omega
  by_cases hz : (stepD D).1 = 0
  · have E : createD D s = (0, madeD (stepD D).2 s) := by unfold createD; rw [if_neg ho, if_neg hn, if_neg hd, if_neg hl, if_pos hz]
    rw [E]
    rw [hz] at SP
    have HD := Lib.hid (fun b (hb : own b ≠ none) => (hc.dom b hb).2)
    obtain ⟨D1, hD1⟩ : ∃ D1, D1 = (stepD D).2 := ⟨_, rfl⟩
    have SM := stepD_same D
    rw [← hD1] at SM SP ⊢
    have HB := Lib.hid (show D1.files.length ≤ 700000 ∧ D1.waits.length ≤ 700000 ∧ D1.now.length ≤ 700000 from ⟨by rw [SM.1]; have := hg.nf; omega, by rw [SM.2.2.1]; have := hg.nw; omega, by rw [SM.2.1]; have := hg.nn; omega⟩)
    clear h hc ho E hg hf hn hn2 hd e1 e2 hl hnl hz hD1 SM L0 c3
    go_enter Tryz.func31, Tryz.ntmps31
    go_wp2_with fail
    refine GO.out.mono ?_
    rintro e w1 ⟨rfl, rfl⟩
    go_wp2_with fail
    refine FD.out.mono ?_
    rintro e w1 ⟨rfl, rfl⟩
    go_wp2_with fail
    refine NM.out.mono ?_
    rintro e w1 ⟨rfl, rfl⟩
    go_wp2_with fail
    refine SP.out.mono ?_
    rintro e w3 ⟨rfl, cg, own3, ho3, fv3, fcs3, A3, n3, c3, A4, n4, c4, wv3, d3⟩
    have CG := Lib.hid (And.intro cg ho3)
    have D3 := Lib.hid d3
    have k1 := d3.cells.2.1
    obtain ⟨Af, cf, hfv⟩ := own_formN d3.fown
    have HFV := Lib.hid hfv
    have OF := Lib.hid (show w3.ownsRow base 111 3 (.slice Af D1.files.length cf) D1.files.length fcs3 by rw [← hfv]; exact d3.fown)
    rw [hfv] at k1
    obtain ⟨fl, hfl⟩ : ∃ fl, fl = D1.files.length := ⟨_, rfl⟩
    have HFL := Lib.hid hfl
    rw [← hfl] at k1 OF HB
    have hfl7 : fl ≤ 1048576 := by have := HB.out.1; omega
    have HBS := Lib.hid (show base ≤ (w3.alloc (.cells #[.slice none 0 0, .slice none 0 0, .slice none 0 0] 111)).heap.size by have := d3.low; simp; omega)
    clear cg ho3 d3 hfv hfl SP GO FD NM
    go_wp2_with ((first
      | (guard_target =~ wpList _ _ _ (Oper.mk (some 33) _ _ _ _ _ :: _) _ _; go_must (refine wpList_boxDf _ rfl _ rfl _ _ _ _ _ _ _ _ _ rfl ?_))
      | (guard_target =~ wpList _ _ _ (Oper.mk (some 34) _ _ _ _ _ :: _) _ _; go_must (refine wpList_pushDf _ rfl _ _ rfl base _ _ _ rfl (OF.out.alloc _) w3.heap.size [.slice none 0 0, .slice none 0 0, .slice none 0 0] rfl (fun q u hq => ((Blk.new w3 111 #[.slice none 0 0, .slice none 0 0, .slice none 0 0]).cell q).trans (by simpa using hq)) rfl (by simp [Value.oneCell']) hfl7 HBS.out ?_))
      | fail))
    intro v' w5 o5 g5 hv5
    obtain ⟨A5, c5, rfl⟩ := own_formN o5
    have SA := Lib.hid (show Still w3 (w3.alloc (.cells #[.slice none 0 0, .slice none 0 0, .slice none 0 0] 111)) from (Still.refl w3).alloc (Nat.le_refl _) _)
    have OFV := Lib.hid (show ∀ b, (Value.slice Af fl cf).ownBlock = some b → own3 b = some 2 from fun b e => D3.out.ofv b (by rw [HFV.out, ← HFL.out]; exact e))
    have G5 := Lib.hid (show Chg w3 w5 (fun b => (Value.slice Af fl cf).ownBlock = some b) from (Chg.of_still SA.out _).trans (Chg.of_grown g5 (fun k e _ => e)) (fun b hb hs => hs))
    have NE := Lib.hid (show ¬ (Value.slice Af fl cf).ownBlock = some dk from fun e => by have := OFV.out dk e; rw [D3.out.odk] at this; cases this)
    have B5 := Lib.hid (G5.out.blk D3.out.blk NE.out)
    have k51 : w5.cell? ⟨dk, 1, none⟩ = some (.slice Af fl cf) := by rw [B5.out.cell 1, HFL.out, ← HFV.out]; rfl
    have f51 := B5.out.frozen 1
    have O5 := Lib.hid o5
    have HV5 := Lib.hid hv5
    clear o5 g5 hv5 k1
    go_upto_region 13 with fail
    obtain ⟨w6, hw6⟩ : ∃ w6, w6 = w5.setCell ⟨dk, 1, none⟩ (.slice A5 (fl + 1) c5) := ⟨_, rfl⟩
    rw [← hw6]
    have g6 : Chg w5 w6 (fun b => b = dk) := by rw [hw6]; exact chg_set1 w5 dk 1 _
    have DL := Lib.hid (show DLeft w3 w6 base dk own3 { D1 with files := D1.files ++ [⟨[], [], []⟩] } from by
      refine file_end D3.out (fv' := .slice A5 (fl + 1) c5) ((G5.out.mono (fun b _ hs => .inr (by rw [HFV.out, ← HFL.out]; exact hs))).trans g6 (fun b _ hs => .inl hs)) (by rw [hw6]; exact B5.out.setc 1 _) ?_ ?_
      · rw [← HFL.out]
        exact g6.own O5.out (fun b e hs => by
          have hs : b = dk := hs
          rcases HV5.out with h | h
          · rw [h] at e; exact NE.out (by rw [← hs]; exact e)
          · rw [h] at e; injection e with e; have := D3.out.blk.lt; omega)
      · rcases HV5.out with h | h
        · exact .inl (by rw [HFV.out, ← HFL.out]; exact h)
        · exact .inr ⟨_, h, by omega⟩)
    have k61 : w6.cell? ⟨dk, 1, none⟩ = some (.slice A5 (fl + 1) c5) := by
      rw [hw6]
      exact (B5.out.setc 1 _).cell 1
    clear k51 f51 g6 hw6
    obtain ⟨cg6, own6, ho6, d6⟩ := id DL.out
    have WT := Lib.hid (wait_D d6 (by show D1.waits.length ≤ 800000; have := HB.out.2.1; omega) (by show D1.now.length ≤ 800000; have := HB.out.2.2; omega) (newLk s fl))
    have CG6 := Lib.hid (And.intro cg6 ho6)
    have SZ := Lib.hid (show w3.heap.size ≤ w6.heap.size from cg6.size)
    clear d6 cg6 ho6
    go_wp2_with fail
    refine WT.out.mono ?_
    rintro e w7 ⟨rfl, c7', own7, ho7, d7⟩
    have FIN := Lib.hid (show DLeft w1 w7 base dk own (madeD D1 s) from by
      have h7 : DLeft w6 w7 base dk own6 (madeD D1 s) := by
        unfold madeD
        rw [← HFL.out]
        exact ⟨c7', own7, ho7, d7⟩
      exact DLeft.chain CG.out.1 CG.out.2 (DLeft.chain CG6.out.1 CG6.out.2 h7))
    clear d7 c7' ho7
    go_wp2_with fail
    go_ret
    exact ⟨rfl, FIN.out⟩
  · have E : createD D s = stepD D := by unfold createD; rw [if_neg ho, if_neg hn, if_neg hd, if_neg hl, if_neg hz]
    rw [E]
    have e12 := stepD_12 D hz
    rw [e12] at SP ⊢
    obtain ⟨D1, hD1⟩ : ∃ D1, D1 = (stepD D).2 := ⟨_, rfl⟩
    rw [← hD1] at SP ⊢
    clear h hc ho E hg hf hn hn2 hd e1 e2 hl hnl hz hD1 e12 L0 c3
    go_enter Tryz.func31, Tryz.ntmps31
    go_wp2_with fail
    refine GO.out.mono ?_
    rintro e w1 ⟨rfl, rfl⟩
    go_wp2_with fail
    refine FD.out.mono ?_
    rintro e w1 ⟨rfl, rfl⟩
    go_wp2_with fail
    refine NM.out.mono ?_
    rintro e w1 ⟨rfl, rfl⟩
    go_wp2_with fail
    refine SP.out.mono ?_
    rintro e w3 ⟨rfl, hl⟩
    have HL := Lib.hid hl
    clear hl
    go_wp2_with fail
    go_ret
    exact ⟨rfl, HL.out⟩
end Go.Proofs.YtljacdbdjacbkaaGreat

/- Contract: the document's Move. It proves no statement. -/

namespace Go.Proofs.YtljacdbdjacbkaaGreat
open Go.RowKit Go.Maps Go.WideMaps Go.Sort
set_option linter.unusedVariables false
set_option linter.unusedSimpArgs false

def movedD (D : Dk) (x : Lk) : Dk := { D with waits := D.waits ++ [x], now := lkD D.now x }
def moveD (D : Dk) (s t : ByteArray) (gone : Bool) : Int × Dk :=
  if D.off = true then (12, D) else if dFind D.now s.data.toList < 0 then (9, D) else if gone = false ∧ nmOK t.data.toList = false then (7, D) else if (stepD D).1 = 0 then (0, movedD (stepD D).2 ⟨s, if gone = true then ⟨#[]⟩ else t, (dFind D.now s.data.toList).toNat⟩) else stepD D
set_option maxRecDepth 100000 in
set_option maxHeartbeats 3200000 in
theorem move_D {w : World} {base dk k : Nat} {own : DOwn} {D : Dk} (h : DiskI w base own dk D) (hg : D.good k) (hk : k ≤ 700000) (s t : ByteArray) (gone : Bool) (ht : t.size ≤ 9223372036854775807) :
    Calls Tryz.prog 33 #[.pointer (some ⟨dk, 0, none⟩), .string s, .string t, .bool gone] w fun e w' => e = .returned (.int .i64 (moveD D s t gone).1) ∧ DLeft w w' base dk own (moveD D s t gone).2 := by
  have L0 := Lib.hid (DLeft.still h (Still.refl w))
  have FD := Lib.hid (find_D h s)
  have GO := Lib.hid (good_any t ht w)
  have SP := Lib.hid (step_D h hg.left.1 hg.left.2)
  obtain ⟨fv, fcs, A, n, c, A2, n2, c2, wv, hc⟩ := id h
  obtain ⟨_, _, _, _, _, _, _, c7⟩ := hc.cells
  by_cases ho : D.off = true
  · have E : moveD D s t gone = (12, D) := by unfold moveD; rw [if_pos ho]
    rw [E]
    rw [ho] at c7
    clear h hc ho E hg
    go_enter Tryz.func33, Tryz.ntmps33
    go_wp2
    go_ret
    exact ⟨rfl, L0.out⟩
  have hf : D.off = false := by simpa using ho
  rw [hf] at c7
  by_cases hd : dFind D.now s.data.toList < 0
  · have E : moveD D s t gone = (9, D) := by unfold moveD; rw [if_neg ho, if_pos hd]
    rw [E]
    obtain ⟨e1, e2⟩ := dFind_none hd
    rw [e2] at FD
    clear h hc ho E hg hf hd e1 e2
    go_enter Tryz.func33, Tryz.ntmps33
    go_wp2_with fail
    refine FD.out.mono ?_
    rintro e w1 ⟨rfl, rfl⟩
    go_wp2_with fail
    go_ret
    exact ⟨rfl, L0.out⟩
  obtain ⟨f, e1, e2⟩ := dFind_some hd
  have q0 : ¬ ((f : Int) < 0) := by omega
  cases gone
  · by_cases hn : nmOK t.data.toList = false
    · have E : moveD D s t false = (7, D) := by unfold moveD; rw [if_neg ho, if_neg hd, if_pos ⟨rfl, hn⟩]
      rw [E]
      rw [hn] at GO
      rw [e2] at FD
      clear h hc ho E hg hf hn hd e1 e2
      go_enter Tryz.func33, Tryz.ntmps33
      go_wp2_with fail
      refine FD.out.mono ?_
      rintro e w1 ⟨rfl, rfl⟩
      go_wp2_with fail
      refine GO.out.mono ?_
      rintro e w1 ⟨rfl, rfl⟩
      go_wp2_with fail
      go_ret
      exact ⟨rfl, L0.out⟩
    have hn2 : nmOK t.data.toList = true := by simpa using hn
    rw [hn2] at GO
    by_cases hz : (stepD D).1 = 0
    · have E : moveD D s t false = (0, movedD (stepD D).2 ⟨s, t, f⟩) := by
        unfold moveD
        rw [if_neg ho, if_neg hd, if_neg (fun h => hn h.2), if_pos hz, e2]
        rfl
      rw [E]
      rw [hz] at SP
      rw [e2] at FD
      obtain ⟨D1, hD1⟩ : ∃ D1, D1 = (stepD D).2 := ⟨_, rfl⟩
      have SM := stepD_same D
      rw [← hD1] at SM SP ⊢
      have HB := Lib.hid (show D1.waits.length ≤ 700000 ∧ D1.now.length ≤ 700000 from ⟨by rw [SM.2.2.1]; have := hg.nw; omega, by rw [SM.2.1]; have := hg.nn; omega⟩)
      clear h hc ho E hg hf hn hn2 hd e1 e2 hz hD1 SM L0
      go_enter Tryz.func33, Tryz.ntmps33
      go_wp2_with fail
      refine FD.out.mono ?_
      rintro e w1 ⟨rfl, rfl⟩
      go_wp2_with fail
      refine GO.out.mono ?_
      rintro e w1 ⟨rfl, rfl⟩
      go_wp2_with fail
      refine SP.out.mono ?_
      rintro e w3 ⟨rfl, cg, own3, ho3, d3⟩
      have CG := Lib.hid (And.intro cg ho3)
      have WT := Lib.hid (wait_D d3 (by have := HB.out.1; omega) (by have := HB.out.2; omega) ⟨s, t, f⟩)
      clear cg ho3 d3 SP
      go_wp2_with fail
      refine WT.out.mono ?_
      rintro e w7 ⟨rfl, h7⟩
      have FIN := Lib.hid (DLeft.chain CG.out.1 CG.out.2 h7)
      clear h7
      go_wp2_with fail
      go_ret
      exact ⟨rfl, FIN.out⟩
    · have E : moveD D s t false = stepD D := by unfold moveD; rw [if_neg ho, if_neg hd, if_neg (fun h => hn h.2), if_neg hz]
      rw [E]
      rw [e2] at FD
      have e12 := stepD_12 D hz
      rw [e12] at SP ⊢
      obtain ⟨D1, hD1⟩ : ∃ D1, D1 = (stepD D).2 := ⟨_, rfl⟩
      rw [← hD1] at SP ⊢
      clear h hc ho E hg hf hn hn2 hd e1 e2 hz hD1 e12 L0
      go_enter Tryz.func33, Tryz.ntmps33
      go_wp2_with fail
      refine FD.out.mono ?_
      rintro e w1 ⟨rfl, rfl⟩
      go_wp2_with fail
      refine GO.out.mono ?_
      rintro e w1 ⟨rfl, rfl⟩
      go_wp2_with fail
      refine SP.out.mono ?_
      rintro e w3 ⟨rfl, hl⟩
      have HL := Lib.hid hl
      clear hl
      go_wp2_with fail
      go_ret
      exact ⟨rfl, HL.out⟩
  · by_cases hz : (stepD D).1 = 0
    · have E : moveD D s t true = (0, movedD (stepD D).2 ⟨s, (⟨#[]⟩ : ByteArray), f⟩) := by
        unfold moveD
        rw [if_neg ho, if_neg hd, if_neg (fun h => by cases h.1), if_pos hz, e2]
        rfl
      rw [E]
      rw [hz] at SP
      rw [e2] at FD
      obtain ⟨D1, hD1⟩ : ∃ D1, D1 = (stepD D).2 := ⟨_, rfl⟩
      have SM := stepD_same D
      rw [← hD1] at SM SP ⊢
      have HB := Lib.hid (show D1.waits.length ≤ 700000 ∧ D1.now.length ≤ 700000 from ⟨by rw [SM.2.2.1]; have := hg.nw; omega, by rw [SM.2.1]; have := hg.nn; omega⟩)
      clear h hc ho E hg hf hd e1 e2 hz hD1 SM L0
      go_enter Tryz.func33, Tryz.ntmps33
      go_wp2_with fail
      refine FD.out.mono ?_
      rintro e w1 ⟨rfl, rfl⟩
      go_wp2_with fail
      refine SP.out.mono ?_
      rintro e w3 ⟨rfl, cg, own3, ho3, d3⟩
      have CG := Lib.hid (And.intro cg ho3)
      have WT := Lib.hid (wait_D d3 (by have := HB.out.1; omega) (by have := HB.out.2; omega) ⟨s, (⟨#[]⟩ : ByteArray), f⟩)
      clear cg ho3 d3 SP
      go_wp2_with fail
      refine WT.out.mono ?_
      rintro e w7 ⟨rfl, h7⟩
      have FIN := Lib.hid (DLeft.chain CG.out.1 CG.out.2 h7)
      clear h7
      go_wp2_with fail
      go_ret
      exact ⟨rfl, FIN.out⟩
    · have E : moveD D s t true = stepD D := by unfold moveD; rw [if_neg ho, if_neg hd, if_neg (fun h => by cases h.1), if_neg hz]
      rw [E]
      rw [e2] at FD
      have e12 := stepD_12 D hz
      rw [e12] at SP ⊢
      obtain ⟨D1, hD1⟩ : ∃ D1, D1 = (stepD D).2 := ⟨_, rfl⟩
      rw [← hD1] at SP ⊢
      clear h hc ho E hg hf hd e1 e2 hz hD1 e12 L0
      go_enter Tryz.func33, Tryz.ntmps33
      go_wp2_with fail
      refine FD.out.mono ?_
      rintro e w1 ⟨rfl, rfl⟩
      go_wp2_with fail
      refine SP.out.mono ?_
      rintro e w3 ⟨rfl, hl⟩
      have HL := Lib.hid hl
      clear hl
      go_wp2_with fail
      go_ret
      exact ⟨rfl, HL.out⟩
end Go.Proofs.YtljacdbdjacbkaaGreat

/- Contract: the document's Sync. It proves no statement. -/

namespace Go.Proofs.YtljacdbdjacbkaaGreat
open Go.RowKit Go.Maps Go.WideMaps Go.Sort
set_option linter.unusedVariables false
set_option linter.unusedSimpArgs false

section
variable {w w4 : World} {base dk f g cap : Nat} {own : DOwn} {D : Dk} {fv wv : Value} {fcs fcs' cs' : List Value} {A A2 : Option Addr} {n c n2 c2 : Nat} {G : DFi}
/-- A file of the row has turned. -/
theorem fset_end (h : DiskC w base own dk D fv fcs A n c A2 n2 c2 wv) (hf : f < D.files.length) (hfv : fv = .slice (some ⟨g, 0, none⟩) D.files.length cap) (v : Value) (S : Nat → Prop) (c4 : Chg w w4 S) (hS : ∀ b, S b → b = g ∨ own b = some (4 + f))
    (hl : cs'.length = 3) (hG : ∀ own' : DOwn, own' = relab own w.heap.size w4.heap.size v (4 + f) → FileD w4 base own' f G cs') (o4 : w4.ownsRow base 111 3 fv D.files.length fcs') (he : ∀ q u, cs'[q]? = some u → fcs'[f * 3 + q]? = some u) (hne : ∀ j, (j < f * 3 ∨ f * 3 + 3 ≤ j) → fcs'[j]? = fcs[j]?)
    (hv : ∀ b, v.ownBlock = some b → (own b = some (4 + f) ∨ w.heap.size ≤ b) ∧ base ≤ b ∧ b < w4.heap.size) : DLeft w w4 base dk own { D with files := D.files.set f G } := by
  have ho := relab_old (own := own) (lo := w.heap.size) (hi := w4.heap.size) (k := 4 + f) (v := v) (fun b e => (hv b e).1)
  have og : own g = some 2 := h.ofv g (by rw [hfv]; rfl)
  have hk : ∀ k b, S b → k ≠ 2 → k ≠ 4 + f → own b ≠ some k := fun k b hs h2 hf e => by
    rcases hS b hs with rfl | hb
    · rw [og] at e; injection e with e; exact h2 e.symm
    · rw [hb] at e; injection e with e; exact hf e.symm
  refine ⟨c4.mono (fun b _ hs => ?_), relab own w.heap.size w4.heap.size v (4 + f), ho, fv, fcs', A, n, c, A2, n2, c2, wv, c4.blk h.blk (fun hs => hk 1 dk hs (by decide) (by omega) h.odk), ?_, ?_, h.fast.move c4 (fun b hs => hk 0 b hs (by decide) (by omega)) ho, h.now.move c4 (fun b hs => hk 0 b hs (by decide) (by omega)) ho, c4.own h.wown (fun b e hs => hk 3 b hs (by decide) (by omega) (h.owv b e)), ?_, fun b e => ?_, fun b e => ?_, relab_dom (fun b e => (hv b e).2) (fun b hb => ⟨(h.dom b hb).1, Nat.lt_of_lt_of_le (h.dom b hb).2 c4.size⟩) h.low, Nat.le_trans h.low c4.size⟩
  · rcases hS b hs with rfl | hb
    · rw [og]; simp
    · rw [hb]; simp
  · show w4.ownsRow base _ 3 fv (D.files.set f G).length fcs'
    rw [List.length_set]
    exact o4
  · exact h.files.set c4 (fun b hs => hk 0 b hs (by decide) (by omega)) (fun b i hs hi => hk (4 + i) b hs (by omega) (by omega)) ho hf hl (hG _ rfl) fcs' (by have := o4.1; omega) he hne
  · rw [ho dk h.blk.lt]; exact h.odk
  · rw [ho b (h.fown.lt b e).2]; exact h.ofv b e
  · rw [ho b (h.wown.lt b e).2]; exact h.owv b e
/-- All names are fast. -/
theorem dir_end (h : DiskC w base own dk D fv fcs A n c A2 n2 c2 wv) (g4 : Chg w w4 (fun b => b = dk)) (hb : Blk w4 dk 47 (dkC D fv A2 n2 c2 A2 n2 c2 (.slice none 0 0))) : DLeft w w4 base dk own { D with fast := D.now, waits := [] } := by
  have hk : ∀ k b, b = dk → k ≠ 1 → own b ≠ some k := fun k b e hk e2 => by rw [e, h.odk] at e2; injection e2 with e2; exact hk e2.symm
  refine ⟨g4.mono (fun b _ e => by rw [e, h.odk]; simp), own, fun _ _ => rfl, fv, fcs, A2, n2, c2, A2, n2, c2, .slice none 0 0, hb, g4.own h.fown (fun b hb hs => hk 2 b hs (by decide) (h.ofv b hb)), h.files.move g4 (fun b hs => hk 0 b hs (by decide)) (fun b i hs => hk (4 + i) b hs (by omega)) (fun _ _ => rfl), h.now.move g4 (fun b hs => hk 0 b hs (by decide)) (fun _ _ => rfl), h.now.move g4 (fun b hs => hk 0 b hs (by decide)) (fun _ _ => rfl), World.ownsRow_nil _ _ _ _, h.odk, h.ofv, fun b hb => by simp [Value.ownBlock] at hb, fun b hb => ⟨(h.dom b hb).1, Nat.lt_of_lt_of_le (h.dom b hb).2 g4.size⟩, Nat.le_trans h.low g4.size⟩
end
def syncDirD (D : Dk) : Dk := { D with fast := D.now, waits := [] }
def syncFileD (D : Dk) (f : Nat) : Dk := match D.files[f]? with | some F => { D with files := D.files.set f ⟨F.now, F.now, []⟩ } | none => D
def syncD (D : Dk) (s : ByteArray) (dir : Bool) : Int × Dk :=
  if D.off = true then (12, D) else if dir = false ∧ dFind D.now s.data.toList < 0 then (9, D) else if (stepD D).1 = 0 then (0, if dir = true then syncDirD (stepD D).2 else syncFileD (stepD D).2 (dFind D.now s.data.toList).toNat) else stepD D
set_option maxRecDepth 100000 in
set_option maxHeartbeats 3200000 in
theorem sync_D {w : World} {base dk k : Nat} {own : DOwn} {D : Dk} (h : DiskI w base own dk D) (hg : D.good k) (hk : k ≤ 700000) (s : ByteArray) (dir : Bool) :
    Calls Tryz.prog 34 #[.pointer (some ⟨dk, 0, none⟩), .string s, .bool dir] w fun e w' => e = .returned (.int .i64 (syncD D s dir).1) ∧ DLeft w w' base dk own (syncD D s dir).2 := by
  have L0 := Lib.hid (DLeft.still h (Still.refl w))
  have FD := Lib.hid (find_D h s)
  have SP := Lib.hid (step_D h hg.left.1 hg.left.2)
  obtain ⟨fv, fcs, A, n, c, A2, n2, c2, wv, hc⟩ := id h
  obtain ⟨_, _, _, _, _, _, _, c7⟩ := hc.cells
  by_cases ho : D.off = true
  · have E : syncD D s dir = (12, D) := by unfold syncD; rw [if_pos ho]
    rw [E]
    rw [ho] at c7
    clear h hc ho E hg
    go_enter Tryz.func34, Tryz.ntmps34
    go_wp2
    go_ret
    exact ⟨rfl, L0.out⟩
  have hf : D.off = false := by simpa using ho
  rw [hf] at c7
  by_cases hz : (stepD D).1 = 0
  · obtain ⟨D1, hD1⟩ : ∃ D1, D1 = (stepD D).2 := ⟨_, rfl⟩
    have SM := stepD_same D
    rw [hz, ← hD1] at SP
    rw [← hD1] at SM
    cases dir
    · by_cases hd : dFind D.now s.data.toList < 0
      · have E : syncD D s false = (9, D) := by unfold syncD; rw [if_neg ho, if_pos ⟨rfl, hd⟩]
        rw [E]
        obtain ⟨e1, e2⟩ := dFind_none hd
        rw [e2] at FD
        clear h hc ho E hg hf hd e1 e2 SP hz hD1 SM
        go_enter Tryz.func34, Tryz.ntmps34
        go_wp2_with fail
        refine FD.out.mono ?_
        rintro e w1 ⟨rfl, rfl⟩
        go_wp2_with fail
        go_ret
        exact ⟨rfl, L0.out⟩
      obtain ⟨f, e1, e2⟩ := dFind_some hd
      obtain ⟨F, hF⟩ := hg.file e1
      rw [← SM.1] at hF
      have q0 : ¬ ((f : Int) < 0) := by omega
      have E : syncD D s false = (0, { D1 with files := D1.files.set f ⟨F.now, F.now, []⟩ }) := by
        unfold syncD
        rw [if_neg ho, if_neg (fun h => hd h.2), if_pos hz, e2, ← hD1]
        show (0, syncFileD D1 f) = _
        unfold syncFileD
        rw [hF]
      rw [E]
      rw [e2] at FD
      have HFL := Lib.hid (show f < D1.files.length from (List.getElem?_eq_some_iff.1 hF).1)
      have HM := Lib.hid (hg.most (by rw [← SM.1]; exact hF))
      have HF := Lib.hid hF
      clear h hc ho E hg hf hd e1 e2 hz hD1 SM L0 hF
      go_enter Tryz.func34, Tryz.ntmps34
      go_wp2_with fail
      refine FD.out.mono ?_
      rintro e w1 ⟨rfl, rfl⟩
      go_wp2_with fail
      refine SP.out.mono ?_
      rintro e w3 ⟨rfl, cg, own3, ho3, fv3, fcs3, A3, n3, c3, A4, n4, c4, wv3, d3⟩
      have CG := Lib.hid (And.intro cg ho3)
      have HR := Lib.hid (here_D d3.I HF.out (by have := HM.out; omega))
      obtain ⟨g, cap, hfv, g1, g2, g3, cs, hcl, ⟨Af, nf, cf, Ag, ng, cg', Ah, nh, ch, ccs, rfl, r1, r2, r3, r4, r5, r6⟩, hrg⟩ := d3.file HF.out
      have D3 := Lib.hid d3
      have HFV := Lib.hid hfv
      have RG := Lib.hid hrg
      clear cg ho3 d3 SP FD r1 r2 r3 r4 r5 r6 hrg
      go_wp2_with fail
      refine HR.out.mono ?_
      rintro e w4 ⟨⟨Ab, cb, rfl, o4⟩, s4⟩
      have D4 := Lib.hid (D3.out.still s4)
      have k1 := D4.out.cells.2.1
      rw [hfv] at k1
      have S4 := Lib.hid s4
      have O4 := Lib.hid o4
      have fo := D4.out.fown
      rw [hfv] at fo
      have FO := Lib.hid fo
      have d0 : w4.cell? ⟨g, f * 3, none⟩ = some (.slice Af nf cf) := by
        have := (s4.cell (p := ⟨g, f * 3 + 0, none⟩) g3).trans (RG.out 0 _ rfl)
        simpa using this
      have d2 : w4.cell? ⟨g, f * 3 + 2, none⟩ = some (.slice Ah nh ch) := (s4.cell (p := ⟨g, f * 3 + 2, none⟩) g3).trans (RG.out 2 _ rfl)
      have z0 := fo.frozenAt (f * 3)
      have z2 := fo.frozenAt (f * 3 + 2)
      have NDG : ¬ dk = g := fun e => by have h1 := D3.out.odk; have h2 := D3.out.ofv g (by rw [hfv]; rfl); rw [e, h2] at h1; cases h1
      obtain ⟨fl, hfl⟩ : ∃ fl, fl = D1.files.length := ⟨_, rfl⟩
      have HLEN := Lib.hid hfl
      have hff : f < fl := by rw [hfl]; exact HFL.out
      rw [← hfl] at k1 g1
      obtain ⟨nl, hnl⟩ : ∃ nl, nl = F.now.length := ⟨_, rfl⟩
      have HNL := Lib.hid hnl
      rw [← hnl] at O4 ⊢
      clear hnl
      have q1 : (f : Int) < (fl : Int) := by omega
      have FIN := Lib.hid (fun W (hW : W = (w4.setCell ⟨g, f * 3, none⟩ (.slice Ab nl cb)).setCell ⟨g, f * 3 + 2, none⟩ (.slice none 0 0)) => (show DLeft w3 W base dk own3 { D1 with files := D1.files.set f ⟨F.now, F.now, []⟩ } from by
        have st1 := FO.out.stored (f * 3) (.slice Ab nl cb)
        have st2 := st1.1.stored (f * 3 + 2) (.slice none 0 0)
        rw [← hW] at st2
        have gg : Chg w4 W (fun b => b = g) := (Chg.of_grown st1.2 (fun k e _ => (Option.some.inj e).symm)).trans (Chg.of_grown st2.2 (fun k e _ => (Option.some.inj e).symm)) (fun _ _ h => h)
        obtain ⟨cs2, hcl2, hcs2, hfd⟩ := D3.out.files.2 f F HF.out
        refine fset_end D3.out HFL.out hfv (.slice none 0 0) (fun b => b = g) ((Chg.of_still S4.out _).trans gg (fun _ _ h => h)) (fun b hs => .inl hs) (cs' := [.slice Ab nl cb, .slice Ag ng cg', .slice none 0 0]) rfl (fun own' e => ?_) (by rw [hfv]; exact st2.1) (fun q u hq => ?_) (fun j hj => ?_) (fun b e => by simp [Value.ownBlock] at e)
        · obtain ⟨_, _, _, B2, m2, e2, _, _, _, _, hcc, _, hnow, _⟩ := hfd
          have hB : ([.slice Af nf cf, .slice Ag ng cg', .slice Ah nh ch] : List Value)[1]? = some (.slice Ag ng cg') := rfl
          have hsame : Value.slice B2 m2 e2 = Value.slice Ag ng cg' := by
            have h1 := hcs2 1 _ (by rw [hcc]; rfl)
            have h2 := RG.out 1 _ rfl
            have h3 := D3.out.fown
            rw [hfv] at h3
            rw [h3.cellAt (f * 3 + 1) (by have := HFL.out; omega), h1] at h2
            exact Option.some.inj h2
          injection hsame with y1 y2 y3
          subst y1 y2 y3
          have hok : ∀ b, b < w3.heap.size → own' b = own3 b := by rw [e]; exact relab_old (fun b e => by simp [Value.ownBlock] at e)
          refine ⟨Ab, nl, cb, B2, m2, e2, none, 0, 0, [], rfl, ?_, hnow.move ((Chg.of_still S4.out _).trans gg (fun _ _ h => h)) (fun b hs e2 => ?_) hok, rfl, World.ownsRow_nil _ _ _ _, HasDc.nil _ _, fun b hb => by simp [Value.ownBlock] at hb⟩
          · have hO := O4.out
            have hP := (RowP.of_own hO)
            have h5 := hP.chg gg (fun b hb hlt hs => by
              have hs : b = g := hs
              have := hb.1
              omega)
            refine h5.mono (fun b hb hlt => ?_)
            show own' b = some 0
            rw [e]
            unfold relab
            rw [if_neg (by simp [Value.ownBlock]), if_pos ⟨hb.1, hlt⟩]
          · have hs : b = g := hs
            have := D3.out.ofv g (by rw [hfv]; rfl)
            rw [hs, this] at e2
            cases e2
        · have hlen : fcs3.length = D1.files.length * 3 := D3.out.files.1
          have hfl2 := HFL.out
          have M1 : fcs3[f * 3 + 1]? = some (.slice Ag ng cg') := by
            have h2 := RG.out 1 _ rfl
            have h3 := D3.out.fown
            rw [hfv] at h3
            rw [h3.cellAt (f * 3 + 1) (by omega)] at h2
            exact h2
          rcases q with _ | _ | _ | q
          · rw [List.getElem?_set_ne (by omega), Nat.add_zero, List.getElem?_set_self (by omega)]
            exact hq
          · rw [List.getElem?_set_ne (by omega), List.getElem?_set_ne (by omega)]
            exact M1.trans hq
          · rw [List.getElem?_set_self (by rw [List.length_set]; omega)]
            exact hq
          · simp at hq
        · rw [List.getElem?_set_ne (by omega), List.getElem?_set_ne (by omega)]))
      clear o4 s4 fo
      go_wp2_with fail
      go_ret
      exact ⟨rfl, DLeft.chain CG.out.1 CG.out.2 (FIN.out _ rfl)⟩
    · have E : syncD D s true = (0, { D1 with fast := D1.now, waits := [] }) := by
        unfold syncD
        rw [if_neg ho, if_neg (fun h => by cases h.1), if_pos hz, ← hD1]
        rfl
      rw [E]
      clear h hc ho E hg hf hz hD1 SM L0
      go_enter Tryz.func34, Tryz.ntmps34
      go_wp2_with fail
      refine FD.out.mono ?_
      rintro e w1 ⟨rfl, rfl⟩
      go_wp2_with fail
      refine SP.out.mono ?_
      rintro e w3 ⟨rfl, cg, own3, ho3, fv3, fcs3, A3, n3, c3, A4, n4, c4, wv3, d3⟩
      have CG := Lib.hid (And.intro cg ho3)
      have D3 := Lib.hid d3
      obtain ⟨_, _, k2, k3, k4, _, _, _⟩ := d3.cells
      have z2 := d3.frozen 2
      have z4 := d3.frozen 4
      have FIN := Lib.hid (fun W (hW : W = (w3.setCell ⟨dk, 2, none⟩ (.slice A4 n4 c4)).setCell ⟨dk, 4, none⟩ (.slice none 0 0)) => (show DLeft w3 W base dk own3 { D1 with fast := D1.now, waits := [] } from dir_end D3.out (by rw [hW]; exact (chg_set1 w3 dk 2 _).trans (chg_set1 _ dk 4 _) (fun _ _ h => h)) (by rw [hW]; exact (D3.out.blk.setc 2 _).setc 4 _)))
      clear cg ho3 d3 SP FD
      go_wp2_with fail
      go_ret
      exact ⟨rfl, DLeft.chain CG.out.1 CG.out.2 (FIN.out _ rfl)⟩
  · have e12 := stepD_12 D hz
    rw [e12] at SP
    cases dir
    · by_cases hd : dFind D.now s.data.toList < 0
      · have E : syncD D s false = (9, D) := by unfold syncD; rw [if_neg ho, if_pos ⟨rfl, hd⟩]
        rw [E]
        obtain ⟨e1, e2⟩ := dFind_none hd
        rw [e2] at FD
        clear h hc ho E hg hf hd e1 e2 SP hz e12
        go_enter Tryz.func34, Tryz.ntmps34
        go_wp2_with fail
        refine FD.out.mono ?_
        rintro e w1 ⟨rfl, rfl⟩
        go_wp2_with fail
        go_ret
        exact ⟨rfl, L0.out⟩
      obtain ⟨f, e1, e2⟩ := dFind_some hd
      have q0 : ¬ ((f : Int) < 0) := by omega
      have E : syncD D s false = stepD D := by unfold syncD; rw [if_neg ho, if_neg (fun h => hd h.2), if_neg hz]
      rw [E, e12]
      rw [e2] at FD
      obtain ⟨D1, hD1⟩ : ∃ D1, D1 = (stepD D).2 := ⟨_, rfl⟩
      rw [← hD1] at SP ⊢
      clear h hc ho E hg hf hd e1 e2 hz hD1 e12 L0
      go_enter Tryz.func34, Tryz.ntmps34
      go_wp2_with fail
      refine FD.out.mono ?_
      rintro e w1 ⟨rfl, rfl⟩
      go_wp2_with fail
      refine SP.out.mono ?_
      rintro e w3 ⟨rfl, hl⟩
      have HL := Lib.hid hl
      clear hl
      go_wp2_with fail
      go_ret
      exact ⟨rfl, HL.out⟩
    · have E : syncD D s true = stepD D := by unfold syncD; rw [if_neg ho, if_neg (fun h => by cases h.1), if_neg hz]
      rw [E, e12]
      obtain ⟨D1, hD1⟩ : ∃ D1, D1 = (stepD D).2 := ⟨_, rfl⟩
      rw [← hD1] at SP ⊢
      clear h hc ho E hg hf hz hD1 e12 L0
      go_enter Tryz.func34, Tryz.ntmps34
      go_wp2_with fail
      refine FD.out.mono ?_
      rintro e w1 ⟨rfl, rfl⟩
      go_wp2_with fail
      refine SP.out.mono ?_
      rintro e w3 ⟨rfl, hl⟩
      have HL := Lib.hid hl
      clear hl
      go_wp2_with fail
      go_ret
      exact ⟨rfl, HL.out⟩
end Go.Proofs.YtljacdbdjacbkaaGreat
