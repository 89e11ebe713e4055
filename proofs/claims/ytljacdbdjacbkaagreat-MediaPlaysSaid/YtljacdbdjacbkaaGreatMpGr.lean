/- Contracts and facts, several texts in one. It proves no statement. -/
import Derived.Test.YtljacdbdjacbkaaGreatMpGq
import Derived.Test.YtljacdbdjacbkaaGreatMpGb

/- Contracts on the document's disk: List, Used, number, New. It proves no statement. -/




namespace Go.Proofs.YtljacdbdjacbkaaGreat
open Go.RowKit Go.Maps Go.WideMaps Go.Sort
set_option linter.unusedVariables false
set_option linter.unusedSimpArgs false

def listD (D : Dk) : NT := if D.off = true then [] else D.now
theorem namesV_snoc (N : NT) (k : Nat) (p : List UInt8 × Nat) (h : N[k]? = some p) : namesV (N.take (k + 1)) = namesV (N.take k) ++ [.string (nmS p)] := by
  rw [List.take_add_one, h]
  simp [namesV, nmS]
set_option maxRecDepth 100000 in
set_option maxHeartbeats 3200000 in
theorem list_D {w : World} {base dk k : Nat} {own : DOwn} {D : Dk} (h : DiskI w base own dk D) (hg : D.good k) (hk : k ≤ 800000) :
    Calls Tryz.prog 40 #[.pointer (some ⟨dk, 0, none⟩)] w fun e w' => (∃ (A : Option Addr) (c : Nat), e = .returned (.slice A (listD D).length c) ∧ w'.ownsRow w.heap.size 9 1 (.slice A (listD D).length c) (listD D).length (namesV (listD D))) ∧ Still w w' := by
  obtain ⟨fv, fcs, A, n, c, A2, n2, c2, wv, h⟩ := h
  obtain ⟨_, _, _, k3, _, _, _, k7⟩ := h.cells
  by_cases ho : D.off = true
  · have E : listD D = [] := if_pos ho
    rw [E]
    rw [ho] at k7
    clear h hg ho E
    go_enter Tryz.func40, Tryz.ntmps40
    go_wp2_with fail
    go_ret
    exact ⟨⟨none, 0, rfl, World.ownsRow_nil _ _ _ _⟩, Still.refl _⟩
  · have hf : D.off = false := by simpa using ho
    have E : listD D = D.now := if_neg ho
    rw [E]
    rw [hf] at k7
    have NM := Lib.hid (names_D A2 n2 c2 dk w k3)
    have HN := Lib.hid h.now
    have hnc := h.now.fit
    have hcm := h.now.cap
    have HK := Lib.hid (show n2 ≤ 800000 by have := hg.nn; have := h.now.len; omega)
    obtain ⟨N, hN⟩ : ∃ N, N = D.now := ⟨_, rfl⟩
    rw [← hN] at HN ⊢
    have HL := Lib.hid HN.out.len
    clear h hg ho hf E hN k3
    go_enter Tryz.func40, Tryz.ntmps40
    go_wp2_with fail
    refine NM.out.mono ?_
    rintro e w1 ⟨rfl, rfl⟩
    go_wp2_with fail
    go_loopw [3, 5] (fun bv iv wr => ∃ (i : Nat) (v : Value), v = bv ∧ iv = .int .i64 i ∧ i ≤ n2 ∧ Hid (wr.ownsRow w1.heap.size 9 1 v i (namesV (N.take i)) ∧ Still w1 wr)) (fun _ iv _ => n2 - (intOf iv).toNat)
    case atStart => exact ⟨0, _, rfl, rfl, Nat.zero_le _, Lib.hid ⟨World.ownsRow_nil _ _ _ _, Still.refl _⟩⟩
    case round =>
      obtain ⟨i, v, rfl, rfl, hi, hin⟩ := hrel
      have OW := Lib.hid hin.out.1
      have ST := Lib.hid hin.out.2
      clear hin
      by_cases hlt : i < n2
      · obtain ⟨b, p, rfl, hp, hr, c0, c1⟩ := (HN.out.still ST.out).name hlt
        have HLT := Lib.hid hlt
        have q1 : (0 : Int) ≤ (i : Int) := by omega
        have q2 : (i : Int) < (n2 : Int) := by omega
        have SN := Lib.hid (namesV_snoc N i p hp)
        obtain ⟨X, hX⟩ : ∃ X, X = nmS p := ⟨_, rfl⟩
        rw [← hX] at c0 SN
        have HI : i < 1048576 := by have := HK.out; omega
        clear hp hr c1 hlt hX
        go_wp2_with ((first
          | (guard_target =~ wpList _ _ _ (Oper.mk (some 24) _ _ _ _ _ :: _) _ _; go_must (refine wpList_boxS _ rfl _ rfl _ rfl ?_))
          | (guard_target =~ wpList _ _ _ (Oper.mk (some 25) _ _ _ _ _ :: _) _ _; go_must (refine wpList_oneS _ rfl _ _ rfl w1.heap.size _ _ _ rfl OW.out _ rfl rfl HI ST.out.size ?_))
          | fail))
        intro v' w4 o4 g4 hv4
        have IN := Lib.hid (show w4.ownsRow w1.heap.size 9 1 v' (i + 1) (namesV (N.take (i + 1))) ∧ Still w1 w4 from ⟨by rw [SN.out]; exact o4, still_push ST.out OW.out (Nat.le_refl _) g4⟩)
        clear o4 g4 hv4
        go_wp2_with fail
        go_roundw
        case rel => exact ⟨i + 1, v', rfl, by go_num, by have := HLT.out; omega, IN⟩
        case measure => simp [intOf]; have := HLT.out; omega
      · obtain rfl : i = n2 := by omega
        have O2 := OW.out
        rw [List.take_of_length_le (show N.length ≤ i by rw [HL.out]; exact Nat.le_refl _)] at O2
        obtain ⟨Av, cv, rfl⟩ := own_formN O2
        have OO := Lib.hid O2
        clear O2
        go_wp2_with fail
        go_ret
        rw [HL.out]
        exact ⟨⟨Av, cv, rfl, OO.out⟩, ST.out⟩
/-- How many bytes there are. -/
def usedD (D : Dk) (N : NT) : Nat := (N.map fun p => (((D.files[p.2]?).map (·.now.length)).getD 0)).sum
theorem usedD_take (D : Dk) (N : NT) (i : Nat) (p : List UInt8 × Nat) (F : DFi) (h : N[i]? = some p) (hF : D.files[p.2]? = some F) : usedD D (N.take (i + 1)) = usedD D (N.take i) + F.now.length := by
  unfold usedD
  rw [List.take_add_one, h, List.map_append, List.sum_append]
  simp [hF]
theorem usedD_le (D : Dk) (N : NT) (B : Nat) (h : ∀ p ∈ N, ∀ F, D.files[p.2]? = some F → F.now.length ≤ B) : usedD D N ≤ N.length * B := by
  unfold usedD
  induction N with
  | nil => simp
  | cons p r ih =>
    rw [List.map_cons, List.sum_cons, List.length_cons, Nat.succ_mul]
    have h1 := ih (fun q hq => h q (List.mem_cons_of_mem _ hq))
    have h2 : ((D.files[p.2]?).map (·.now.length)).getD 0 ≤ B := by
      cases hF : D.files[p.2]? with
      | none => simp
      | some F => simpa [hF] using h p List.mem_cons_self F hF
    omega
set_option maxRecDepth 100000 in
set_option maxHeartbeats 3200000 in
theorem used_D {w : World} {base dk k : Nat} {own : DOwn} {D : Dk} (h : DiskI w base own dk D) (hg : D.good k) (hk : k ≤ 800000) :
    Calls Tryz.prog 67 #[.pointer (some ⟨dk, 0, none⟩)] w fun e w' => e = .returned (.int .i64 (usedD D D.now : Nat)) ∧ ∃ m, w' = w.drewN m := by
  obtain ⟨fv, fcs, A, n, c, A2, n2, c2, wv, h⟩ := h
  obtain ⟨_, k1, _, k3, _, _, _, _⟩ := h.cells
  have NM := Lib.hid (names_D A2 n2 c2 dk w k3)
  have H := Lib.hid h
  have hnc := h.now.fit
  have hcm := h.now.cap
  have HK := Lib.hid (show n2 ≤ 800000 by have := hg.nn; have := h.now.len; omega)
  have HN := Lib.hid h.now
  have K1 := Lib.hid k1
  have UM := Lib.hid (show ∀ i, usedD D (D.now.take i) ≤ 26843545600000 from fun i => by
    refine Nat.le_trans (usedD_le D _ 33554432 (fun p hp F hF => hg.most hF)) ?_
    have h1 : (D.now.take i).length ≤ 800000 := by rw [List.length_take]; have := hg.nn; omega
    have h2 : (D.now.take i).length * 33554432 ≤ 800000 * 33554432 := Nat.mul_le_mul_right _ h1
    omega)
  have G := Lib.hid hg
  have HL := Lib.hid h.now.len
  clear h hg k3 k1
  go_enter Tryz.func67, Tryz.ntmps67
  go_wp2_with fail
  refine NM.out.mono ?_
  rintro e w1 ⟨rfl, rfl⟩
  go_wp2_with fail
  go_loopw [4, 5] (fun sv iv wr => ∃ i : Nat, sv = .int .i64 (usedD D (D.now.take i) : Nat) ∧ iv = .int .i64 i ∧ i ≤ n2 ∧ Hid (∃ m, wr = w1.drewN m)) (fun _ iv _ => n2 - (intOf iv).toNat)
  case atStart => exact ⟨0, rfl, rfl, Nat.zero_le _, Lib.hid ⟨0, rfl⟩⟩
  case round =>
    obtain ⟨i, rfl, rfl, hi, hinm⟩ := hrel
    obtain ⟨mm, hmm⟩ := hinm.out
    have HMM := Lib.hid hmm
    have hin : Hid (Still w1 wr) := Lib.hid (by rw [hmm]; exact still_drewN (Still.refl w1) mm)
    clear hinm hmm
    by_cases hlt : i < n2
    · obtain ⟨b, p, rfl, hp, hr, c0, c1⟩ := (HN.out.still hin.out).name hlt
      obtain ⟨F, hF⟩ : ∃ F, D.files[p.2]? = some F := ⟨_, List.getElem?_eq_getElem (G.out.nowf p (List.mem_of_getElem? hp))⟩
      obtain ⟨g, cap, hfv, g1, g2, g3, cs, hcl, ⟨Af, nf, cf, Ag, ng, cg, Ah, nh, ch, ccs, rfl, _, hnow, _⟩, hrg⟩ := (H.out.still hin.out).file hF
      have d1 := hrg 1 _ rfl
      have k1 : wr.cell? ⟨dk, 1, none⟩ = some (.slice (some ⟨g, 0, none⟩) D.files.length cap) := by
        rw [hin.out.cell (p := ⟨dk, 1, none⟩) H.out.blk.lt, K1.out, hfv]
      have HLT := Lib.hid hlt
      have q1 : (0 : Int) ≤ (i : Int) := by omega
      have q2 : (i : Int) < (n2 : Int) := by omega
      have hpl : p.2 < D.files.length := (List.getElem?_eq_some_iff.1 hF).1
      obtain ⟨fl, hfl⟩ : ∃ fl, fl = D.files.length := ⟨_, rfl⟩
      rw [← hfl] at k1 g1 hpl
      obtain ⟨pf, hpf⟩ : ∃ pf, pf = p.2 := ⟨_, rfl⟩
      rw [← hpf] at c1 d1 hpl
      have hq3 : (0 : Int) ≤ (pf : Int) := by omega
      have hq4 : (pf : Int) < (fl : Int) := by omega
      have US := Lib.hid (usedD_take D D.now i p F hp hF)
      have HNL := Lib.hid hnow.len
      have UM1 := UM.out (i + 1)
      rw [US.out, HNL.out] at UM1
      have HNX := Lib.hid (show usedD D (D.now.take (i + 1)) = usedD D (D.now.take i) + ng by rw [US.out, HNL.out])
      obtain ⟨u, hu⟩ : ∃ u, u = usedD D (D.now.take i) := ⟨_, rfl⟩
      rw [← hu] at UM1 HNX ⊢
      clear hp hr c0 hlt hfv hcl hnow hrg hF hfl hpf US hu
      go_wp2_with fail
      go_quiet (fail)
      go_wp2_with fail
      go_roundw
      case rel => exact ⟨i + 1, by rw [HNX.out]; go_num, by go_num, by have := HLT.out; omega, Lib.hid ⟨mm + nq, by rw [HMM.out, World.drewN_drewN]⟩⟩
      case measure => simp [intOf]; have := HLT.out; omega
    · obtain rfl : i = n2 := by omega
      have E := Lib.hid (List.take_of_length_le (show D.now.length ≤ i by rw [HL.out]; exact Nat.le_refl _))
      go_wp2_with fail
      go_ret
      exact ⟨by rw [E.out]; rfl, mm, HMM.out⟩
theorem within_eq (x lo hi : Int) (w : World) (hh : lo ≤ hi) :
    Calls Tryz.prog 81 #[.int .i64 x, .int .i64 lo, .int .i64 hi] w fun e w' => e = .returned (.int .i64 (min (max x lo) hi)) ∧ w = w' := by
  by_cases h1 : x < lo
  · rw [show min (max x lo) hi = lo by omega]
    exact within_lo x lo hi w h1
  · by_cases h2 : hi < x
    · rw [show min (max x lo) hi = hi by omega]
      exact within_hi x lo hi w (by omega) h2
    · rw [show min (max x lo) hi = x by omega]
      exact within_in x lo hi w (by omega) (by omega)
/-- The i-th of some numbers, within bounds. -/
def numD (zs : List Int) (i : Nat) (hi : Nat) : Nat := natN (zs.drop i) hi
theorem number_D (A : Option Addr) (n c i m : Nat) (zs : List Int) (w : World) {P : Nat → Prop} (h : ReadsI w P A n zs) (hc : n ≤ c) (hcm : c ≤ 9223372036854775807) (hi : i ≤ 100000000) (hm : m ≤ 9223372036854775807) :
    Calls Tryz.prog 70 #[.slice A n c, .int .i64 (i : Int), .int .i64 (m : Int)] w fun e w' => e = .returned (.int .i64 (numD zs i m : Int)) ∧ w' = w := by
  have hz := h.1
  by_cases hlt : n ≤ i
  · have E : numD zs i m = 0 := by
      unfold numD natN tkN
      rw [List.drop_of_length_le (by omega)]
      rfl
    rw [E]
    clear h E hz
    go_enter Tryz.func70, Tryz.ntmps70
    go_wp2_with fail
    go_ret
    exact ⟨rfl, rfl⟩
  · obtain ⟨b, o, rfl, hb, hbl, hcc⟩ := h.2 (by omega)
    have d1 := hcc i (by omega)
    obtain ⟨z, hz1⟩ : ∃ z, z = zs.getD i 0 := ⟨_, rfl⟩
    rw [← hz1] at d1
    have HE := Lib.hid (show numD zs i m = (min (max z 0) (m : Int)).toNat from by
      unfold numD natN tkN
      have : zs.drop i = z :: zs.drop (i + 1) := by
        rw [List.drop_eq_getElem_cons (by omega), hz1]
        congr 1
        simp [List.getD, show i < zs.length by omega]
      rw [this])
    have q1 : (0 : Int) ≤ (i : Int) := by omega
    have q2 : (i : Int) < (n : Int) := by omega
    have HW := Lib.hid (within_eq z 0 (m : Int) w (by omega))
    obtain ⟨y, hy⟩ : ∃ y, y = min (max z 0) (m : Int) := ⟨_, rfl⟩
    rw [← hy] at HW HE
    have HY := Lib.hid (show ((y.toNat : Nat) : Int) = y by omega)
    clear h hz hcc hz1 hy
    go_enter Tryz.func70, Tryz.ntmps70
    go_wp2_with fail
    refine HW.out.mono ?_
    rintro e w1 ⟨rfl, rfl⟩
    go_wp2_with fail
    go_ret
    exact ⟨by rw [HE.out, HY.out]; rfl, rfl⟩
end Go.Proofs.YtljacdbdjacbkaaGreat

/- Contract: one more change of names waits. It proves no statement. -/


namespace Go.Proofs.YtljacdbdjacbkaaGreat
open Go.RowKit Go.Maps Go.WideMaps Go.Sort
set_option linter.unusedVariables false
set_option linter.unusedSimpArgs false

/-- New blocks are frozen, but one row's. -/
def relab (own : DOwn) (lo hi : Nat) (v : Value) (k : Nat) : DOwn := fun b => if v.ownBlock = some b then some k else if lo ≤ b ∧ b < hi then some 0 else own b
theorem relab_old {own : DOwn} {lo hi k : Nat} {v : Value} (hv : ∀ b, v.ownBlock = some b → own b = some k ∨ lo ≤ b) : ∀ b, b < lo → relab own lo hi v k b = own b := fun b hb => by
  unfold relab
  split
  · rename_i e
    rcases hv b e with h | h
    · exact h.symm
    · omega
  · rw [if_neg (by omega)]
theorem relab_frz {own : DOwn} {lo hi k b : Nat} {v : Value} (h : frz own b ∨ (lo ≤ b ∧ v.ownBlock ≠ some b)) (hv : ∀ b, v.ownBlock = some b → own b = some k ∨ lo ≤ b) (hd : ∀ b, own b ≠ none → b < lo) (hk : k ≠ 0) (hb : b < hi) : frz (relab own lo hi v k) b := by
  unfold frz relab
  rcases h with h | ⟨h1, h2⟩
  · have h2 : own b = some 0 := h
    have h3 := hd b (by rw [h2]; simp)
    rw [if_neg (fun e => by
      rcases hv b e with h4 | h4
      · rw [h2] at h4; injection h4 with h4; exact hk h4.symm
      · omega), if_neg (by omega)]
    exact h2
  · rw [if_neg h2, if_pos ⟨h1, hb⟩]
theorem relab_dom {own : DOwn} {lo hi k base : Nat} {v : Value} (hv : ∀ b, v.ownBlock = some b → base ≤ b ∧ b < hi) (hd : ∀ b, own b ≠ none → base ≤ b ∧ b < hi) (hb : base ≤ lo) : ∀ b, relab own lo hi v k b ≠ none → base ≤ b ∧ b < hi := fun b h => by
  unfold relab at h
  split at h
  · rename_i e; exact hv b e
  · split at h
    · omega
    · exact hd b h
theorem DiskC.dlt {w : World} {base dk : Nat} {own : DOwn} {D : Dk} {fv wv : Value} {fcs : List Value} {A A2 : Option Addr} {n c n2 c2 : Nat} (h : DiskC w base own dk D fv fcs A n c A2 n2 c2 wv) : ∀ b, own b ≠ none → b < w.heap.size := fun b hb => (h.dom b hb).2
/-- A change of names was put to those that wait. -/
theorem wait_end {w w7 : World} {base dk : Nat} {own : DOwn} {D : Dk} {fv wv wv' : Value} {fcs : List Value} {A A2 A3 : Option Addr} {n c n2 c2 n3 c3 : Nat} (h : DiskC w base own dk D fv fcs A n c A2 n2 c2 wv) (x : Lk) (g : Chg w w7 (fun b => b = dk ∨ wv.ownBlock = some b))
    (hb : Blk w7 dk 47 (dkC D fv A n c A3 n3 c3 wv')) (o7 : w7.ownsRow base 114 3 wv' (D.waits.length + 1) (lkV D.waits ++ lkC x)) (nr : NRow w7 (fun b => frz own b ∨ (w.heap.size ≤ b ∧ wv'.ownBlock ≠ some b)) A3 n3 c3 (lkD D.now x)) (hv : wv'.ownBlock = wv.ownBlock ∨ ∃ j, wv'.ownBlock = some j ∧ w.heap.size ≤ j) :
    DLeft w w7 base dk own { D with waits := D.waits ++ [x], now := lkD D.now x } := by
  have hv2 : ∀ b, wv'.ownBlock = some b → own b = some 3 ∨ w.heap.size ≤ b := fun b e => by
    rcases hv with hv | ⟨j, hv, hj⟩
    · rw [hv] at e; exact .inl (h.owv b e)
    · rw [hv] at e; injection e with e; exact .inr (by omega)
  have ho := relab_old (hi := w7.heap.size) hv2
  have hS : ∀ k b, (b = dk ∨ wv.ownBlock = some b) → k ≠ 1 → k ≠ 3 → own b ≠ some k := fun k b hb h1 h3 e => by
    rcases hb with rfl | hb
    · rw [h.odk] at e; injection e with e; exact h1 e.symm
    · rw [h.owv b hb] at e; injection e with e; exact h3 e.symm
  refine ⟨g.mono (fun b _ hb => ?_), relab own w.heap.size w7.heap.size wv' 3, ho, fv, fcs, A, n, c, A3, n3, c3, wv', hb, g.own h.fown (fun b e hs => hS 2 b hs (by decide) (by decide) (h.ofv b e)), h.files.move g (fun b hs => hS 0 b hs (by decide) (by decide)) (fun b i hs => hS (4 + i) b hs (by omega) (by omega)) ho, h.fast.move g (fun b hs => hS 0 b hs (by decide) (by decide)) ho, nr.mono (fun b hb hlt => relab_frz hb hv2 h.dlt (by decide) hlt), ?_, ?_, fun b e => ?_, fun b e => ?_, ?_, Nat.le_trans h.low g.size⟩
  · rcases hb with rfl | hb
    · rw [h.odk]; simp
    · rw [h.owv b hb]; simp
  · show w7.ownsRow base _ 3 wv' (D.waits ++ [x]).length (lkV (D.waits ++ [x]))
    rw [List.length_append, lkV_append, lkV_one]
    exact o7
  · rw [ho dk h.blk.lt]; exact h.odk
  · rw [ho b (h.fown.lt b e).2]; exact h.ofv b e
  · unfold relab; rw [if_pos e]
  · exact relab_dom (fun b e => o7.lt b e) (fun b hb => ⟨(h.dom b hb).1, Nat.lt_of_lt_of_le (h.dom b hb).2 g.size⟩) h.low
set_option maxRecDepth 100000 in
set_option maxHeartbeats 3200000 in
theorem wait_D {w : World} {base dk : Nat} {own : DOwn} {D : Dk} (h : DiskI w base own dk D) (hgw : D.waits.length ≤ 800000) (hgn : D.now.length ≤ 800000) (x : Lk) :
    Calls Tryz.prog 66 #[.pointer (some ⟨dk, 0, none⟩), .agg #[.string x.s, .string x.t, .int .i64 (x.f : Int)]] w fun e w' => e = .returned (.tuple #[]) ∧ DLeft w w' base dk own { D with waits := D.waits ++ [x], now := lkD D.now x } := by
  obtain ⟨fv, fcs, A, n, c, A2, n2, c2, wv, h⟩ := h
  obtain ⟨wb, hwb⟩ : ∃ wb, wb = w.alloc (.cells #[.string x.s, .string x.t, .int .i64 (x.f : Int)] 114) := ⟨_, rfl⟩
  have SB := Lib.hid (show Still w wb by rw [hwb]; exact (Still.refl w).alloc (Nat.le_refl _) _)
  have BX := Lib.hid (show Blk wb w.heap.size 114 #[.string x.s, .string x.t, .int .i64 (x.f : Int)] by rw [hwb]; exact Blk.new _ _ _)
  have ZB := Lib.hid (show wb.heap.size = w.heap.size + 1 by rw [hwb]; simp)
  have H := Lib.hid h
  have HBB := Lib.hid (h.still SB.out)
  have k4 := HBB.out.cells.2.2.2.2.1
  have HW1 : D.waits.length ≤ 1048576 := by omega
  have HN2 := Lib.hid (show n2 ≤ 800000 by have := h.now.len; omega)
  have SZL := Lib.hid (show (Tryz.prog.info? 114).map (·.size) = some ([Value.string x.s, .string x.t, .int .i64 (x.f : Int)] : List Value).length from by kernel_rfl)
  have HBX := Lib.hid (show wb.rangeAt w.heap.size 0 [.string x.s, .string x.t, .int .i64 (x.f : Int)] from fun q u hq => by
    rw [Nat.zero_add, BX.out.cell q]
    simpa using hq)
  obtain ⟨Aw, nw, cw, hwv⟩ : ∃ Aw nw cw, wv = .slice Aw nw cw := by
    obtain ⟨Aw, cw, e⟩ := own_formN h.wown
    exact ⟨Aw, _, cw, e⟩
  have HWV := Lib.hid hwv
  have OWB := Lib.hid (show wb.ownsRow base 114 3 (.slice Aw nw cw) D.waits.length (lkV D.waits) from by rw [← hwv]; exact HBB.out.wown)
  rw [hwv] at k4
  have HBS := Lib.hid (show base ≤ (wb.alloc (.cells #[.string x.s, .string x.t, .int .i64 (x.f : Int)] 114)).heap.size by have := h.low; have := SB.out.size; simp; omega)
  have HWB := Lib.hid hwb
  clear h hgw hgn hwb hwv
  go_enter Tryz.func66, Tryz.ntmps66
  go_upto_region 1 with fail
  rw [← HWB.out]
  clear HWB
  go_wp2_with ((first
    | (guard_target =~ wpList _ _ _ (Oper.mk (some 11) _ _ _ _ _ :: _) _ _; go_must (refine wpList_load_mid rfl 114 (.tmp 3) rfl w.heap.size 0 rfl [.string x.s, .string x.t, .int .i64 (x.f : Int)] _ HBX.out Tryz.underlying114 rfl SZL.out ?_))
    | (guard_target =~ wpList _ _ _ (Oper.mk (some 12) _ _ _ _ _ :: _) _ _; go_must (refine wpList_boxDl _ rfl _ rfl _ _ _ rfl ?_))
    | (guard_target =~ wpList _ _ _ (Oper.mk (some 13) _ _ _ _ _ :: _) _ _; go_must (refine wpList_pushDl _ rfl _ _ rfl base _ _ _ rfl (OWB.out.alloc _) wb.heap.size [.string x.s, .string x.t, .int .i64 (x.f : Int)] rfl (fun q u hq => ((Blk.new wb 114 #[.string x.s, .string x.t, .int .i64 (x.f : Int)]).cell q).trans (by simpa using hq)) rfl (by simp [Value.oneCell']) HW1 HBS.out ?_))
    | fail))
  intro v' w4 o4 g4 hv4
  obtain ⟨A4, c4, rfl⟩ := own_formN o4
  have SA := Lib.hid (show Still wb (wb.alloc (.cells #[.string x.s, .string x.t, .int .i64 (x.f : Int)] 114)) from (Still.refl wb).alloc (Nat.le_refl _) _)
  have NDK := Lib.hid (show ∀ b, (Value.slice Aw nw cw).ownBlock = some b → own b = some 3 from fun b e => H.out.owv b (by rw [HWV.out]; exact e))
  have GR4 := Lib.hid (show Chg wb w4 (fun b => (Value.slice Aw nw cw).ownBlock = some b) from (Chg.of_still SA.out _).trans (Chg.of_grown g4 (fun k e _ => e)) (fun b hb hs => hs))
  have NE := Lib.hid (show ¬ (Value.slice Aw nw cw).ownBlock = some dk from fun e => by have := NDK.out dk e; rw [H.out.odk] at this; cases this)
  have B4 := Lib.hid (GR4.out.blk HBB.out.blk NE.out)
  have k44 : w4.cell? ⟨dk, 4, none⟩ = some (.slice Aw nw cw) := by rw [B4.out.cell 4, ← HWV.out]; rfl
  have f44 := B4.out.frozen 4
  have ZW4 := Lib.hid (show wb.heap.size ≤ w4.heap.size from GR4.out.size)
  have O4 := Lib.hid o4
  have HV4 := Lib.hid hv4
  have O4L := Lib.hid (fun b e => (o4.lt b e).2)
  clear o4 g4 hv4 k4
  go_wp2_with fail
  obtain ⟨w5, hw5⟩ : ∃ w5, w5 = w4.setCell ⟨dk, 4, none⟩ (.slice A4 (D.waits.length + 1) c4) := ⟨_, rfl⟩
  have B5 := Lib.hid (show Blk w5 dk 47 (dkC D fv A n c A2 n2 c2 (.slice A4 (D.waits.length + 1) c4)) by rw [hw5]; exact B4.out.setc 4 _)
  have G5 := Lib.hid (show Chg wb w5 (fun b => b = dk ∨ (Value.slice Aw nw cw).ownBlock = some b) from (GR4.out.mono (fun b _ hs => .inr hs)).trans (T := fun b => b = dk) (by rw [hw5]; exact chg_set1 w4 dk 4 _) (fun b _ hs => .inl hs))
  have N4 := Lib.hid (show ∀ b, (Value.slice A4 (D.waits.length + 1) c4).ownBlock = some b → ¬ b = dk from fun b e e2 => by
    rcases HV4.out with h | h
    · rw [h] at e; exact NE.out (by rw [← e2]; exact e)
    · rw [h] at e; injection e with e; have := HBB.out.blk.lt; omega)
  have O5 := Lib.hid (show w5.ownsRow base 114 3 (.slice A4 (D.waits.length + 1) c4) (D.waits.length + 1) (lkV D.waits ++ lkC x) by
    have g : Chg w4 w5 (fun b => b = dk) := by rw [hw5]; exact chg_set1 w4 dk 4 _
    exact g.own O4.out (fun b e hs => N4.out b e hs))
  have Z5 := Lib.hid (show w4.heap.size ≤ w5.heap.size by rw [hw5]; simp [World.setCell])
  have NX := Lib.hid (show ¬ (w.heap.size = dk ∨ (Value.slice Aw nw cw).ownBlock = some w.heap.size) from fun h => by
    rcases h with h | h
    · have := H.out.blk.lt; omega
    · have h1 := H.out.wown; rw [HWV.out] at h1; have := (h1.lt _ h).2; omega)
  have HX5 := Lib.hid (fun W (s : Still w5 W) => (show W.rangeAt w.heap.size 0 [.string x.s, .string x.t, .int .i64 (x.f : Int)] from fun q u hq => (s.cell (p := ⟨w.heap.size, 0 + q, none⟩) (Nat.lt_of_lt_of_le BX.out.lt G5.out.size)).trans ((World.cell?_of_block (w := wb) (G5.out.block _ BX.out.lt NX.out)).trans (HBX.out q u hq))))
  have N5 := Lib.hid (show NRow w5 (frz own) A2 n2 c2 D.now from HBB.out.now.chg G5.out (fun b hb _ hs => by
    have hb : own b = some 0 := hb
    rcases hs with rfl | hs
    · rw [H.out.odk] at hb; cases hb
    · rw [NDK.out b hs] at hb; cases hb))
  rw [← hw5]
  clear hw5 k44 f44 B4 HBB O4 BX HBX OWB HBS SA
  have LK := Lib.hid (fun W (s : Still w5 W) => linked_any A2 n2 c2 D.now x W (N5.out.still s) (by have := HN2.out; omega))
  have c3 := B5.out.cell 3
  simp only [dkC, List.getElem?_toArray, List.getElem?_cons_succ, List.getElem?_cons_zero] at c3
  have C3 := Lib.hid (fun W (s : Still w5 W) => (s.cell (p := ⟨dk, 3, none⟩) B5.out.lt).trans c3)
  refine wp_region_late (S := fun W => W.cell? ⟨dk, 3, none⟩ = some (.slice A2 n2 c2) ∧ W.rangeAt w.heap.size 0 [.string x.s, .string x.t, .int .i64 (x.f : Int)]) [9] (by kernel_rfl) ⟨C3.out _ (Still.refl _).drew, HX5.out _ (Still.refl _).drew⟩ (fun hHeld => ?_)
  clear c3
  try simp only [Act.put, List.setIfInBounds_toArray, List.set_cons_zero, List.set_cons_succ]
  refine wpLate_pure (i := 0) (v := .pointer (some ⟨dk, 0, none⟩)) rfl (by kernel_rfl) (by kernel_rfl) (by kernel_rfl) (by kernel_rfl) (fun _ _ _ h => h) (Or.inl ⟨by kernel_rfl, fun w _ => by go_simp⟩) ?_
  try simp only [Act.put, List.setIfInBounds_toArray, List.set_cons_zero, List.set_cons_succ]
  refine wpLate_pure (i := 1) (v := .pointer (some ⟨dk, 0, none⟩)) rfl (by kernel_rfl) (by kernel_rfl) (by kernel_rfl) (by kernel_rfl) (fun _ _ _ h => h) (Or.inl ⟨by kernel_rfl, fun w _ => by go_simp⟩) ?_
  try simp only [Act.put, List.setIfInBounds_toArray, List.set_cons_zero, List.set_cons_succ]
  refine wpLate_pure (i := 2) (v := .pointer (some ⟨dk, 0, none⟩)) rfl (by kernel_rfl) (by kernel_rfl) (by kernel_rfl) (by kernel_rfl) (fun _ _ _ h => h) (Or.inl ⟨by kernel_rfl, fun w _ => by go_simp⟩) ?_
  try simp only [Act.put, List.setIfInBounds_toArray, List.set_cons_zero, List.set_cons_succ]
  refine wpLate_pure (i := 3) (v := .pointer (some ⟨dk, 3, none⟩)) rfl (by kernel_rfl) (by kernel_rfl) (by kernel_rfl) (by kernel_rfl) (fun _ _ _ h => h) (Or.inl ⟨by kernel_rfl, fun w _ => by go_simp⟩) ?_
  try simp only [Act.put, List.setIfInBounds_toArray, List.set_cons_zero, List.set_cons_succ]
  refine wpLate_take (i := 4) (v := .slice A2 n2 c2) [6, 9] rfl (by kernel_rfl) (by kernel_rfl) (by kernel_rfl) (by kernel_rfl) (by kernel_rfl) (by decide) (fun _ _ _ h => h) (Or.inl ⟨by kernel_rfl, fun w hS => by obtain ⟨hS, _⟩ := hS; go_simp⟩) (by assumption) (fun hHeld => ?_)
  try simp only [Act.put, List.setIfInBounds_toArray, List.set_cons_zero, List.set_cons_succ]
  refine wpLate_take (i := 5) (v := .agg [.string x.s, .string x.t, .int .i64 (x.f : Int)].toArray) [6, 9] rfl (by kernel_rfl) (by kernel_rfl) (by kernel_rfl) (by kernel_rfl) (by kernel_rfl) (by decide) (fun _ _ _ h => h) (yieldsIf_load_mid (by kernel_rfl) 114 (.tmp 3) rfl w.heap.size 0 (by kernel_rfl) [.string x.s, .string x.t, .int .i64 (x.f : Int)] _ (fun W h => h.2) Tryz.underlying114 rfl SZL.out) (by assumption) (fun hHeld => ?_)
  try simp only [Act.put, List.setIfInBounds_toArray, List.set_cons_zero, List.set_cons_succ]
  refine wpLate_one (i := 6) (o := ⟨some 22, .call { callee := .value (.func 80), args := #[.tmp 20, .tmp 21], argTypes := #[44, 114] }, _, _, _, none⟩) (by kernel_rfl) rfl (fun K' hK' => ?_)
  go_simp
  go_wp2_with (go_at_call 80; with_reducible refine (LK.out _ (Still.refl _).drew).mono ?_; rintro e w6 ⟨⟨A3, n3, c3, rfl, r6⟩, s6⟩)
  have S6 := Lib.hid (Still.trans (Still.refl w5).drew s6)
  have R6 := Lib.hid r6
  clear r6 s6
  refine hK'.out _ _ (fun _ _ => ⟨C3.out _ S6.out, HX5.out _ S6.out⟩) ?_
  clear hK' K'
  try simp only [Act.put, List.setIfInBounds_toArray, List.set_cons_zero, List.set_cons_succ]
  refine wpLate_pure (i := 7) (v := .pointer (some ⟨dk, 0, none⟩)) rfl (by kernel_rfl) (by kernel_rfl) (by kernel_rfl) (by kernel_rfl) (fun _ _ _ h => h) (Or.inl ⟨by kernel_rfl, fun w _ => by go_simp⟩) ?_
  try simp only [Act.put, List.setIfInBounds_toArray, List.set_cons_zero, List.set_cons_succ]
  refine wpLate_pure (i := 8) (v := .pointer (some ⟨dk, 3, none⟩)) rfl (by kernel_rfl) (by kernel_rfl) (by kernel_rfl) (by kernel_rfl) (fun _ _ _ h => h) (Or.inl ⟨by kernel_rfl, fun w _ => by go_simp⟩) ?_
  try simp only [Act.put, List.setIfInBounds_toArray, List.set_cons_zero, List.set_cons_succ]
  have B6 := B5.out.still S6.out
  have c63 := B6.cell 3
  simp only [dkC, List.getElem?_toArray, List.getElem?_cons_succ, List.getElem?_cons_zero] at c63
  have f63 := B6.frozen 3
  have HB6 := Lib.hid B6
  clear B6
  refine wpLate_one (i := 9) (o := ⟨none, .store 44 (.tmp 24) (.tmp 22), _, _, _, none⟩) (by kernel_rfl) rfl (fun K' hK' => ?_)
  rw [if_pos (by kernel_rfl)]
  with_reducible refine step_storeC w6 44 (.tmp 24) (.tmp 22) (by kernel_rfl) dk 3 (.slice A3 n3 c3) (.slice A2 n2 c2) (by kernel_rfl) (by kernel_rfl) rfl (by kernel_rfl) c63 f63 ?_
  refine hK'.out _ _ (fun _ h => absurd h (by decide)) ?_
  clear hK' K' hHeld
  try simp only [Act.put, List.setIfInBounds_toArray, List.set_cons_zero, List.set_cons_succ]
  refine wpLate_done (by kernel_rfl) ?_ _
  have FIN := Lib.hid (fun W7 (hW : W7 = w6.setCell ⟨dk, 3, none⟩ (.slice A3 n3 c3)) => (show DLeft w W7 base dk own { D with waits := D.waits ++ [x], now := lkD D.now x } from by
    have g6 : Chg w6 W7 (fun b => b = dk) := by rw [hW]; exact chg_set1 w6 dk 3 _
    have gg : Chg w w6 (fun b => b = dk ∨ wv.ownBlock = some b) := ((Chg.of_still SB.out _).trans G5.out (fun b _ hs => by rw [HWV.out]; exact hs)).trans (Chg.of_still S6.out (fun _ => False)) (fun _ _ h => h.elim)
    refine wait_end H.out x (gg.trans g6 (fun b _ hs => .inl hs)) (by rw [hW]; exact HB6.out.setc 3 _) ((g6.own ((Chg.of_still S6.out (fun _ => False)).own O5.out (fun _ _ h => h)) (fun b e hs => N4.out b e hs))) ((R6.out.chg g6 (fun b hb hlt hs => ?_)).mono (fun b hb hlt => ?_)) ?_
    · have hs : b = dk := hs
      subst hs
      rcases hb with hb | hb
      · have hb : own b = some 0 := hb
        rw [H.out.odk] at hb; cases hb
      · have h1 := H.out.blk.lt
        have h2 := SB.out.size
        have h3 := G5.out.size
        have h5 : w5.drew.heap.size = w5.heap.size := rfl
        omega
    · rcases hb with hb | hb
      · exact .inl hb
      · have h2 := SB.out.size
        have h3 := G5.out.size
        have h5 : w5.drew.heap.size = w5.heap.size := rfl
        refine .inr ⟨by omega, fun e => ?_⟩
        have h4 := (O4L.out b e)
        have := Z5.out
        omega
    · rcases HV4.out with h | h
      · exact .inl (by rw [HWV.out]; exact h)
      · exact .inr ⟨_, h, by have := SB.out.size; omega⟩))
  clear LK C3 HX5 c63 f63
  go_simp
  first | go_end0 | refine bodyPost_ret (results_none rfl _ _ _) rfl ?_
  exact ⟨rfl, FIN.out _ rfl⟩
end Go.Proofs.YtljacdbdjacbkaaGreat
