/- Contract: a change of a file's bytes, by the document. It proves no statement. -/
import Derived.Test.YtljacdbdjacbkaaGreatMpGs
namespace Go.Proofs.YtljacdbdjacbkaaGreat
open Go.RowKit Go.Maps Go.WideMaps Go.Sort
set_option linter.unusedVariables false
set_option linter.unusedSimpArgs false

def byteBad (D : Dk) (F : DFi) (x : DCh) : Int :=
  if x.cut = true then (if x.k < 0 ∨ (F.now.length : Int) < x.k then 2 else 0) else (if D.room - (usedD D D.now : Nat) < (x.b.length : Int) then 11 else 0)
def byteFi (F : DFi) (x : DCh) : DFi := ⟨F.fast, appD F.now x, F.waits ++ [x]⟩
def byteFile (D : Dk) (f : Nat) (x : DCh) : Dk := match D.files[f]? with | some F => { D with files := D.files.set f (byteFi F x) } | none => D
def byteD (D : Dk) (s : ByteArray) (x : DCh) : Int × Dk :=
  if D.off = true then (12, D) else match nFind D.now s.data.toList with
    | none => (9, D)
    | some f => match D.files[f]? with
      | none => (9, D)
      | some F => if byteBad D F x ≠ 0 then (byteBad D F x, D) else if (stepD D).1 = 0 then (0, byteFile (stepD D).2 f x) else stepD D
theorem sizeDc : (Tryz.prog.info? 72).map (·.size) = some 3 := by kernel_rfl
/-- What stands ahead of the step. -/
theorem dcC_cells {w wb : World} {cu : Bool} {ki : Int} {Ab : Option Addr} {nb cb : Nat} (hb : Blk wb w.heap.size 72 #[.bool cu, .int .i64 ki, .slice Ab nb cb]) : wb.cell? ⟨w.heap.size, 0, none⟩ = some (.bool cu) ∧ wb.cell? ⟨w.heap.size, 1, none⟩ = some (.int .i64 ki) ∧ wb.cell? ⟨w.heap.size, 2, none⟩ = some (.slice Ab nb cb) := ⟨hb.cell 0, hb.cell 1, hb.cell 2⟩
theorem HasDc.snoc {w : World} {own : DOwn} {X : List DCh} {ccs : List Value} (h : HasDc w own X ccs) (x : DCh) {A : Option Addr} {n c : Nat} (hr : RowP w (frz own) A n c x.b) : HasDc w own (X ++ [x]) (ccs ++ [.bool x.cut, .int .i64 x.k, .slice A n c]) := by
  refine ⟨by rw [List.length_append, List.length_append, h.1]; simp; omega, fun j y hy => ?_⟩
  by_cases e : j < X.length
  · rw [List.getElem?_append_left e] at hy
    obtain ⟨A', n', c', h1, h2⟩ := h.2 j y hy
    refine ⟨A', n', c', fun q u hq => ?_, h2⟩
    have hq3 : q < 3 := by have := (List.getElem?_eq_some_iff.1 hq).1; simpa using this
    rw [List.getElem?_append_left (by rw [h.1]; omega)]
    exact h1 q u hq
  · have hj := (List.getElem?_eq_some_iff.1 hy).1
    rw [List.length_append, List.length_singleton] at hj
    obtain rfl : j = X.length := by omega
    rw [List.getElem?_append_right (Nat.le_refl _), Nat.sub_self] at hy
    obtain rfl := Option.some.inj hy
    refine ⟨A, n, c, fun q u hq => ?_, hr⟩
    rw [List.getElem?_append_right (by rw [h.1]; omega), h.1, show X.length * 3 + q - X.length * 3 = q by omega]
    exact hq
/-- A file has other bytes now. -/
theorem fnow_end {w w9 W : World} {base dk f g cap nl cb : Nat} {own : DOwn} {D : Dk} {F : DFi} {fv wv : Value} {fcs : List Value} {A A2 Ab : Option Addr} {n c n2 c2 : Nat} {l : List UInt8} (h : DiskC w base own dk D fv fcs A n c A2 n2 c2 wv) (hF : D.files[f]? = some F) (hfv : fv = .slice (some ⟨g, 0, none⟩) D.files.length cap)
    (s9 : Still w w9) (o9 : w9.ownsRow w.heap.size 5 1 (.slice Ab nl cb) nl (bytesV l)) (hW : W = w9.setCell ⟨g, f * 3 + 1, none⟩ (.slice Ab nl cb)) : DLeft w W base dk own { D with files := D.files.set f ⟨F.fast, l, F.waits⟩ } := by
  have hfl := (List.getElem?_eq_some_iff.1 hF).1
  have fo := (h.still s9).fown
  rw [hfv] at fo
  have st := fo.stored (f * 3 + 1) (.slice Ab nl cb)
  rw [← hW] at st
  have g9 : Chg w9 W (fun b => b = g) := Chg.of_grown st.2 (fun k e _ => (Option.some.inj e).symm)
  have gw : Chg w W (fun b => b = g) := (Chg.of_still s9 _).trans g9 (fun _ _ h => h)
  have og : own g = some 2 := h.ofv g (by rw [hfv]; rfl)
  obtain ⟨cs2, hcl2, hcs2, ⟨A1, m1, e1, B2, m2, e2, A3, m3, e3, ccs, rfl, v1, v2, v3, v4, v5, v6⟩⟩ := h.files.2 f F hF
  have hlen : fcs.length = D.files.length * 3 := h.files.1
  have hn0 : ∀ b, b = g → own b ≠ some 0 := fun b hs e => by rw [hs, og] at e; cases e
  refine fset_end h hfl hfv (.slice none 0 0) (fun b => b = g) gw (fun b hs => .inl hs) (cs' := [.slice A1 m1 e1, .slice Ab nl cb, .slice A3 m3 e3]) rfl (fun own' e => ?_) (by rw [hfv]; exact st.1) (fun q u hq => ?_) (fun j hj => by rw [List.getElem?_set_ne (by omega)]) (fun b e => by simp [Value.ownBlock] at e)
  · have hok : ∀ b, b < w.heap.size → own' b = own b := by rw [e]; exact relab_old (fun b e => by simp [Value.ownBlock] at e)
    refine ⟨A1, m1, e1, Ab, nl, cb, A3, m3, e3, ccs, rfl, v1.move gw hn0 hok, ?_, v3, gw.own v4 (fun b e hs => by have h1 := v6 b e; have hs : b = g := hs; rw [hs, og] at h1; injection h1 with h1; omega), v5.move gw hn0 hok, fun b hb => by rw [hok b (v4.lt b hb).2]; exact v6 b hb⟩
    have h5 := (RowP.of_own o9).chg g9 (fun b hb hlt hs => by
      have hs : b = g := hs
      have h6 := hb.1
      have h7 := (h.fown.lt g (by rw [hfv]; rfl)).2
      omega)
    refine h5.mono (fun b hb hlt => ?_)
    show own' b = some 0
    rw [e]
    unfold relab
    rw [if_neg (by simp [Value.ownBlock]), if_pos ⟨hb.1, hlt⟩]
  · rcases q with _ | _ | _ | q
    · rw [List.getElem?_set_ne (by omega)]; exact hcs2 0 u hq
    · rw [List.getElem?_set_self (by omega)]; exact hq
    · rw [List.getElem?_set_ne (by omega)]; exact hcs2 2 u hq
    · simp at hq
set_option maxRecDepth 100000 in
set_option maxHeartbeats 6400000 in
theorem byte_D {w : World} {base dk k : Nat} {own : DOwn} {D : Dk} {P : Nat → Prop} {Ab : Option Addr} {nb cb : Nat} (h : DiskI w base own dk D) (hg : D.good k) (hk : k ≤ 700000) (s : ByteArray) (x : DCh) (hx : RowP w P Ab nb cb x.b) (hP : ∀ b, P b → own b = none) (hnb : nb ≤ 33554432) :
    Calls Tryz.prog 32 #[.pointer (some ⟨dk, 0, none⟩), .string s, .agg #[.bool x.cut, .int .i64 x.k, .slice Ab nb cb]] w fun e w' => e = .returned (.int .i64 (byteD D s x).1) ∧ DLeft w w' base dk own (byteD D s x).2 := by
  obtain ⟨cu, ki, xb⟩ := x
  show Calls Tryz.prog 32 #[.pointer (some ⟨dk, 0, none⟩), .string s, .agg #[.bool cu, .int .i64 ki, .slice Ab nb cb]] w _
  obtain ⟨wb, hwb⟩ : ∃ wb, wb = w.alloc (.cells #[.bool cu, .int .i64 ki, .slice Ab nb cb] 72) := ⟨_, rfl⟩
  have SB := Lib.hid (show Still w wb by rw [hwb]; exact (Still.refl w).alloc (Nat.le_refl _) _)
  have BX := Lib.hid (show Blk wb w.heap.size 72 #[.bool cu, .int .i64 ki, .slice Ab nb cb] by rw [hwb]; exact Blk.new _ _ _)
  have HWB := Lib.hid hwb
  have hB := h.still SB.out
  have L0 := Lib.hid (fun W (t : Still w W) => (DLeft.still h t : DLeft w W base dk own D))
  have FD := Lib.hid (find_D hB s)
  obtain ⟨fv, fcs, A, n, c, A2, n2, c2, wv, hc⟩ := id hB
  obtain ⟨x0, x1, _, _, _, _, _, x7⟩ := hc.cells
  have XB := Lib.hid (hx.still SB.out)
  clear hwb
  by_cases ho : D.off = true
  · have E : byteD D s ⟨cu, ki, xb⟩ = (12, D) := by unfold byteD; rw [if_pos ho]
    rw [E]
    rw [ho] at x7
    clear h hc ho E hg hB x0 x1
    go_enter Tryz.func32, Tryz.ntmps32
    go_upto_region 1 with fail
    rw [← HWB.out]
    go_wp2
    go_ret
    exact ⟨rfl, L0.out _ SB.out⟩
  have hf : D.off = false := by simpa using ho
  rw [hf] at x7
  by_cases hd : dFind D.now s.data.toList < 0
  · obtain ⟨e1, e2⟩ := dFind_none hd
    have E : byteD D s ⟨cu, ki, xb⟩ = (9, D) := by unfold byteD; rw [if_neg ho, e1]
    rw [E]
    rw [e2] at FD
    clear h hc ho E hg hf hd e1 e2 hB x0 x1
    go_enter Tryz.func32, Tryz.ntmps32
    go_upto_region 1 with fail
    rw [← HWB.out]
    go_wp2_with fail
    refine FD.out.mono ?_
    rintro e w1 ⟨rfl, rfl⟩
    go_wp2_with fail
    go_ret
    exact ⟨rfl, L0.out _ SB.out⟩
  obtain ⟨f, e1, e2⟩ := dFind_some hd
  obtain ⟨F, hF⟩ := hg.file e1
  rw [e2] at FD
  have q0 : ¬ ((f : Int) < 0) := by omega
  have hfl := (List.getElem?_eq_some_iff.1 hF).1
  obtain ⟨g, cap, hfv, g1, g2, g3, cs, hcl, ⟨Af, nf, cf, Ag, ng, cg, Ah, nh, ch, ccs, rfl, r1, r2, r3, r4, r5, r6⟩, hrg⟩ := hc.file hF
  have y1 := hrg 1 _ rfl
  have HNG := Lib.hid r2.len
  rw [hfv] at x1
  have E0 : byteD D s ⟨cu, ki, xb⟩ = if byteBad D F ⟨cu, ki, xb⟩ ≠ 0 then (byteBad D F ⟨cu, ki, xb⟩, D) else if (stepD D).1 = 0 then (0, byteFile (stepD D).2 f ⟨cu, ki, xb⟩) else stepD D := by unfold byteD; rw [if_neg ho, e1]; simp only [hF]
  have UD := Lib.hid (fun W (t : Still wb W) => used_D (hB.still t) hg (by omega))
  have UL := Lib.hid (show usedD D D.now ≤ 26843545600000 by
    refine Nat.le_trans (usedD_le D _ 33554432 (fun p hp F hF => hg.most hF)) ?_
    have h1 : D.now.length ≤ 800000 := by have := hg.nn; omega
    have h2 : D.now.length * 33554432 ≤ 800000 * 33554432 := Nat.mul_le_mul_right _ h1
    omega)
  have hroom := hg.room
  have HXL := Lib.hid hx.len
  have X0 := Lib.hid (fun W (t : Still wb W) => (show W.cell? ⟨w.heap.size, 0, none⟩ = some (.bool cu) ∧ W.cell? ⟨w.heap.size, 1, none⟩ = some (.int .i64 ki) ∧ W.cell? ⟨w.heap.size, 2, none⟩ = some (.slice Ab nb cb) from dcC_cells (BX.out.still t)))
  obtain ⟨xc0, xc1, xc2⟩ := X0.out wb (Still.refl _)
  have q1 : (f : Int) < (D.files.length : Int) := by omega
  obtain ⟨fl, hfl2⟩ : ∃ fl, fl = D.files.length := ⟨_, rfl⟩
  rw [← hfl2] at x1 g1 q1
  have HFL := Lib.hid hfl2
  by_cases hcut : cu = true
  · subst hcut
    by_cases hbad : ki < 0 ∨ (ng : Int) < ki
    · have E : byteD D s ⟨true, ki, xb⟩ = (2, D) := by
        rw [E0]
        have : byteBad D F ⟨true, ki, xb⟩ = 2 := by unfold byteBad; rw [if_pos rfl, HNG.out, if_pos hbad]
        rw [this, if_pos (by decide)]
      rw [E]
      clear h hc ho E E0 hg hf hd e1 e2 hB x0 hfl hfv hrg r1 r2 r3 r4 r5 r6 hF hcl hfl2 hx hP
      go_enter Tryz.func32, Tryz.ntmps32
      go_upto_region 1 with fail
      rw [← HWB.out]
      by_cases hneg : ki < 0
      · clear hbad
        go_wp2_with fail
        refine FD.out.mono ?_
        rintro e w1 ⟨rfl, rfl⟩
        go_wp2_with fail
        go_quiet (fail)
        go_wp2_with fail
        go_ret
        exact ⟨rfl, L0.out _ (still_drewN SB.out nq)⟩
      · have hgt : (ng : Int) < ki := by omega
        clear hbad
        go_wp2_with fail
        refine FD.out.mono ?_
        rintro e w1 ⟨rfl, rfl⟩
        go_wp2_with fail
        go_quiet (fail)
        go_wp2_with fail
        go_ret
        exact ⟨rfl, L0.out _ (still_drewN SB.out nq)⟩
    · have hbad' : ¬ (ki < 0 ∨ (ng : Int) < ki) := hbad
      have hk0 : ¬ ki < 0 := fun h => hbad (.inl h)
      have hk1 : ¬ (ng : Int) < ki := fun h => hbad (.inr h)
      have hok0 : byteBad D F ⟨true, ki, xb⟩ = 0 := by unfold byteBad; rw [if_pos rfl, HNG.out, if_neg hbad]
      clear hbad hbad'
      by_cases hz : (stepD D).1 = 0
      · obtain ⟨D1, hD1⟩ : ∃ D1, D1 = (stepD D).2 := ⟨_, rfl⟩
        have SM := stepD_same D
        rw [← hD1] at SM
        have hF1 : D1.files[f]? = some F := by rw [SM.1]; exact hF
        have E : byteD D s ⟨true, ki, xb⟩ = (0, { D1 with files := D1.files.set f (byteFi F ⟨true, ki, xb⟩) }) := by
          rw [E0, hok0, if_neg (by decide), if_pos hz, ← hD1]
          unfold byteFile
          simp only [hF1]
        rw [E]
        have SP := Lib.hid (fun W (t : Still wb W) => step_D (hB.still t) hg.left.1 hg.left.2)
        rw [hz, ← hD1] at SP
        have HF1 := Lib.hid hF1
        have HPN := Lib.hid hP
        have HFG := Lib.hid (hg.fs f F hF)
        have HMO := Lib.hid (hg.most hF)
        have HKC := Lib.hid (show F.waits.length ≤ 700000 by have := (hg.fs f F hF).cnt; omega)
        have HD1L := Lib.hid (show f < D1.files.length from (List.getElem?_eq_some_iff.1 hF1).1)
        have XR := Lib.hid x0
        have XDL := Lib.hid hc.blk.lt
        have NOX := Lib.hid (show ¬ own w.heap.size ≠ none from fun h2 => by
          obtain ⟨_, _, _, _, _, _, _, _, _, hh⟩ := h
          have := (hh.dom _ h2).2
          omega)
        have DOMW := Lib.hid (show ∀ b, own b ≠ none → b < w.heap.size from fun b h2 => by
          obtain ⟨_, _, _, _, _, _, _, _, _, hh⟩ := h
          exact (hh.dom _ h2).2)
        clear h hc ho E E0 hg hf hd e1 e2 hB x0 hfl hfv hrg r1 r2 r3 r4 r5 r6 hF hcl hfl2 hx hP hroom hz hD1 SM hF1 hok0
        go_enter Tryz.func32, Tryz.ntmps32
        go_upto_region 1 with fail
        rw [← HWB.out]
        go_wp2_with fail
        refine FD.out.mono ?_
        rintro e w1 ⟨rfl, rfl⟩
        go_wp2_with fail
        go_quiet (fail)
        have SQ := Lib.hid (still_drewN (Still.refl w1) nq)
        generalize w1.drewN nq = wq at SQ ⊢
        obtain ⟨xq0, xq1, xq2⟩ := X0.out wq SQ.out
        clear xc0 xc1 xc2 x1 x7 y1
        go_wp2_with fail
        go_quiet (fail)
        have SZ := Lib.hid (still_drewN SQ.out nq)
        generalize wq.drewN nq = wz at SZ ⊢
        clear xq0 xq1 xq2 SQ
        go_wp2_with fail
        refine (SP.out wz SZ.out).mono ?_
        rintro e w3 ⟨rfl, cgg, own3, ho3, fv3, fcs3, A3, n3, c3, A4, n4, c4, wv3, d3⟩
        have CG := Lib.hid (And.intro cgg ho3)
        have D3 := Lib.hid d3
        have BX3 := Lib.hid (cgg.blk (BX.out.still SZ.out) (fun h => NOX.out h))
        have NOX3 := Lib.hid (show ¬ own3 w.heap.size ≠ none from fun h => NOX.out (by rw [← ho3 _ (BX.out.still SZ.out).lt]; exact h))
        have XR3 := Lib.hid ((XB.out.still SZ.out).chg cgg (fun b hb _ hs => hs (HPN.out b hb)))
        have HP3 := Lib.hid (show RowP w3 (fun b => own3 b = none) Ab nb cb xb from ((XB.out.still SZ.out).mono (Q := fun b => own b = none ∧ own3 b = none) (fun b hb hlt => ⟨HPN.out b hb, by rw [ho3 b hlt]; exact HPN.out b hb⟩)).chg cgg (fun b hb _ hs => hs hb.1) |>.mono (fun b hb _ => hb.2))
        obtain ⟨g', cap', hfv', u1, u2, u3, cs', hcl', ⟨Af', nf', cf', Ag', ng', cg', Ah', nh', ch', ccs', rfl, v1, v2, v3, v4, v5, v6⟩, hrg'⟩ := d3.file HF1.out
        have V1 := Lib.hid v1
        have V2 := Lib.hid v2
        have V3 := Lib.hid v3
        have V5 := Lib.hid v5
        have RG := Lib.hid hrg'
        have FO := Lib.hid (show w3.ownsRow base 111 3 (.slice (some ⟨g', 0, none⟩) D1.files.length cap') D1.files.length fcs3 by rw [← hfv']; exact d3.fown)
        have k1 := d3.cells.2.1
        rw [hfv'] at k1
        have d2 := hrg' 2 _ rfl
        have HFV := Lib.hid hfv'
        have OW := Lib.hid v4
        have HNW := Lib.hid (show nh' ≤ 1048576 by rw [v3]; have := HKC.out; omega)
        have OL := Lib.hid v6
        have OG2 := Lib.hid (show own3 g' = some 2 from d3.ofv g' (by rw [hfv']; rfl))
        have HLW := Lib.hid d3.low
        obtain ⟨fl', hfl'⟩ : ∃ fl', fl' = D1.files.length := ⟨_, rfl⟩
        have HFL' := Lib.hid hfl'
        rw [← hfl'] at k1 u1
        have q3 : (f : Int) < (fl' : Int) := by have := HD1L.out; omega
        obtain ⟨z0, z1, z2⟩ := dcC_cells BX3.out
        clear cgg ho3 d3 v1 v2 v3 v4 v5 v6 hrg' hcl' hfv' SP hfl' NOX
        have NOX := NOX3
        clear NOX3
        go_upto_region 13 with fail
        have CK := Lib.hid (fun W (t : Still w3 W) => (show W.cell? ⟨dk, 1, none⟩ = some (.slice (some ⟨g', 0, none⟩) fl' cap') ∧ W.cell? ⟨w.heap.size, 0, none⟩ = some (.bool true) ∧ W.cell? ⟨w.heap.size, 1, none⟩ = some (.int .i64 ki) ∧ W.cell? ⟨w.heap.size, 2, none⟩ = some (.slice Ab nb cb) from ⟨(t.cell (p := ⟨dk, 1, none⟩) D3.out.blk.lt).trans k1, dcC_cells (BX3.out.still t)⟩))
        have CPB := Lib.hid (fun W (t : Still w3 W) => copy_any Ab nb cb xb W _ (XR3.out.still t).reads (by omega) XR3.out.nil)
        have ONE := Lib.hid (show ∀ c (A' : Option Addr), ∀ u ∈ ([.bool true, .int .i64 ki, .slice A' nb c] : List Value), u.oneCell' = true from fun c A' u hu => by
          simp only [List.mem_cons, List.not_mem_nil, or_false] at hu
          rcases hu with rfl | rfl | rfl <;> rfl)
        refine wp_region_late (S := fun W => W.cell? ⟨dk, 1, none⟩ = some (.slice (some ⟨g', 0, none⟩) fl' cap') ∧ W.cell? ⟨w.heap.size, 0, none⟩ = some (.bool true) ∧ W.cell? ⟨w.heap.size, 1, none⟩ = some (.int .i64 ki) ∧ W.cell? ⟨w.heap.size, 2, none⟩ = some (.slice Ab nb cb)) [18] (by kernel_rfl) (CK.out _ (Still.refl _).drew) (fun hHeld => ?_)
        try simp only [Act.put, List.setIfInBounds_toArray, List.set_cons_zero, List.set_cons_succ]
        refine wpLate_pure (i := 0) (v := .pointer (some ⟨dk, 0, none⟩)) rfl (by kernel_rfl) (by kernel_rfl) (by kernel_rfl) (by kernel_rfl) (fun _ _ _ h => h) (Or.inl ⟨by kernel_rfl, fun w _ => by go_simp⟩) ?_
        try simp only [Act.put, List.setIfInBounds_toArray, List.set_cons_zero, List.set_cons_succ]
        refine wpLate_pure (i := 1) (v := .pointer (some ⟨dk, 0, none⟩)) rfl (by kernel_rfl) (by kernel_rfl) (by kernel_rfl) (by kernel_rfl) (fun _ _ _ h => h) (Or.inl ⟨by kernel_rfl, fun w _ => by go_simp⟩) ?_
        try simp only [Act.put, List.setIfInBounds_toArray, List.set_cons_zero, List.set_cons_succ]
        refine wpLate_pure (i := 2) (v := .pointer (some ⟨dk, 1, none⟩)) rfl (by kernel_rfl) (by kernel_rfl) (by kernel_rfl) (by kernel_rfl) (fun _ _ _ h => h) (Or.inl ⟨by kernel_rfl, fun w _ => by go_simp⟩) ?_
        try simp only [Act.put, List.setIfInBounds_toArray, List.set_cons_zero, List.set_cons_succ]
        refine wpLate_take (i := 3) (v := .slice (some ⟨g', 0, none⟩) fl' cap') [16, 17, 18] rfl (by kernel_rfl) (by kernel_rfl) (by kernel_rfl) (by kernel_rfl) (by kernel_rfl) (by decide) (fun _ _ _ h => h) (Or.inl ⟨by kernel_rfl, fun w hS => by obtain ⟨hs0, hs1, hs2, hs3⟩ := hS; go_simp⟩) (by assumption) (fun hHeld => ?_)
        try simp only [Act.put, List.setIfInBounds_toArray, List.set_cons_zero, List.set_cons_succ]
        refine wpLate_pure (i := 4) (v := .int .i64 (f : Int)) rfl (by kernel_rfl) (by kernel_rfl) (by kernel_rfl) (by kernel_rfl) (fun _ _ _ h => h) (Or.inl ⟨by kernel_rfl, fun w _ => by go_simp⟩) ?_
        try simp only [Act.put, List.setIfInBounds_toArray, List.set_cons_zero, List.set_cons_succ]
        refine wpLate_pure (i := 5) (v := .slice Ah' nh' ch') rfl (by kernel_rfl) (by kernel_rfl) (by kernel_rfl) (by kernel_rfl) (fun _ _ _ h => h) (Or.inl ⟨by kernel_rfl, fun w _ => by go_simp⟩) ?_
        try simp only [Act.put, List.setIfInBounds_toArray, List.set_cons_zero, List.set_cons_succ]
        refine wpLate_pure (i := 6) (v := .pointer (some ⟨w.heap.size, 0, none⟩)) rfl (by kernel_rfl) (by kernel_rfl) (by kernel_rfl) (by kernel_rfl) (fun _ _ _ h => h) (Or.inl ⟨by kernel_rfl, fun w _ => by go_simp⟩) ?_
        try simp only [Act.put, List.setIfInBounds_toArray, List.set_cons_zero, List.set_cons_succ]
        refine wpLate_take (i := 7) (v := .bool true) [13, 14, 15, 18] rfl (by kernel_rfl) (by kernel_rfl) (by kernel_rfl) (by kernel_rfl) (by kernel_rfl) (by decide) (fun _ _ _ h => h) (Or.inl ⟨by kernel_rfl, fun w hS => by obtain ⟨hs0, hs1, hs2, hs3⟩ := hS; go_simp⟩) (by assumption) (fun hHeld => ?_)
        try simp only [Act.put, List.setIfInBounds_toArray, List.set_cons_zero, List.set_cons_succ]
        refine wpLate_pure (i := 8) (v := .pointer (some ⟨w.heap.size, 1, none⟩)) rfl (by kernel_rfl) (by kernel_rfl) (by kernel_rfl) (by kernel_rfl) (fun _ _ _ h => h) (Or.inl ⟨by kernel_rfl, fun w _ => by go_simp⟩) ?_
        try simp only [Act.put, List.setIfInBounds_toArray, List.set_cons_zero, List.set_cons_succ]
        refine wpLate_take (i := 9) (v := .int .i64 ki) [13, 14, 15, 18] rfl (by kernel_rfl) (by kernel_rfl) (by kernel_rfl) (by kernel_rfl) (by kernel_rfl) (by decide) (fun _ _ _ h => h) (Or.inl ⟨by kernel_rfl, fun w hS => by obtain ⟨hs0, hs1, hs2, hs3⟩ := hS; go_simp⟩) (by assumption) (fun hHeld => ?_)
        try simp only [Act.put, List.setIfInBounds_toArray, List.set_cons_zero, List.set_cons_succ]
        refine wpLate_pure (i := 10) (v := .pointer (some ⟨w.heap.size, 2, none⟩)) rfl (by kernel_rfl) (by kernel_rfl) (by kernel_rfl) (by kernel_rfl) (fun _ _ _ h => h) (Or.inl ⟨by kernel_rfl, fun w _ => by go_simp⟩) ?_
        try simp only [Act.put, List.setIfInBounds_toArray, List.set_cons_zero, List.set_cons_succ]
        refine wpLate_take (i := 11) (v := .slice Ab nb cb) [12, 13, 14, 15, 18] rfl (by kernel_rfl) (by kernel_rfl) (by kernel_rfl) (by kernel_rfl) (by kernel_rfl) (by decide) (fun _ _ _ h => h) (Or.inl ⟨by kernel_rfl, fun w hS => by obtain ⟨hs0, hs1, hs2, hs3⟩ := hS; go_simp⟩) (by assumption) (fun hHeld => ?_)
        try simp only [Act.put, List.setIfInBounds_toArray, List.set_cons_zero, List.set_cons_succ]
        refine wpLate_one (i := 12) (o := ⟨some 81, .call { callee := .value (.func 15), args := #[.tmp 80], argTypes := #[31] }, _, _, _, none⟩) (by kernel_rfl) rfl (fun K' hK' => ?_)
        go_simp
        go_wp2_with (go_at_call 15; with_reducible refine (CPB.out _ (Still.refl _).drew).mono ?_; rintro e w4 ⟨⟨v4, rfl, o4⟩, s4⟩)
        have S4 := Lib.hid (Still.trans (Still.refl w3).drew s4)
        have O4 := Lib.hid o4
        obtain ⟨A4', c4', rfl⟩ := own_formN o4
        clear o4 s4
        refine hK'.out _ _ (fun _ _ => CK.out _ S4.out) ?_
        clear hK' K'
        try simp only [Act.put, List.setIfInBounds_toArray, List.set_cons_zero, List.set_cons_succ]
        refine wpLate_pure (i := 13) (v := .agg #[.bool true, .int .i64 ki, .slice A4' nb c4']) rfl (by kernel_rfl) (by kernel_rfl) (by kernel_rfl) (by kernel_rfl) (fun _ _ _ h => h) (Or.inl ⟨by kernel_rfl, fun w _ => by go_simp⟩) ?_
        try simp only [Act.put, List.setIfInBounds_toArray, List.set_cons_zero, List.set_cons_succ]
        refine wpLate_one (i := 14) (o := ⟨some 83, .buildSlice 109 1 #[(0, .tmp 82)], _, _, _, none⟩) (by kernel_rfl) rfl (fun K' hK' => ?_)
        rw [if_pos (by kernel_rfl)]
        with_reducible refine step_boxDc w4 (.tmp 82) (by kernel_rfl) true ki A4' nb c4' (by kernel_rfl) ?_
        have SA := Lib.hid (show Still w3 (w4.alloc (.cells #[.bool true, .int .i64 ki, .slice A4' nb c4'] 72)) from S4.out.alloc S4.out.size _)
        refine hK'.out _ _ (fun _ _ => CK.out _ SA.out) ?_
        clear hK' K'
        try simp only [Act.put, List.setIfInBounds_toArray, List.set_cons_zero, List.set_cons_succ]
        refine wpLate_one (i := 15) (o := ⟨some 84, .call { callee := .builtin .append, args := #[.tmp 74, .tmp 83], argTypes := #[109, 109] }, _, _, _, none⟩) (by kernel_rfl) rfl (fun K' hK' => ?_)
        rw [if_pos (by kernel_rfl)]
        with_reducible refine step_pushDc _ (.tmp 74) (.tmp 83) (by kernel_rfl) base (.slice Ah' nh' ch') nh' ccs' (by kernel_rfl) ((still_own OW.out S4.out).alloc _) w4.heap.size [.bool true, .int .i64 ki, .slice A4' nb c4'] (by kernel_rfl) (fun q u hq => ((Blk.new w4 72 #[.bool true, .int .i64 ki, .slice A4' nb c4']).cell q).trans (by simpa using hq)) rfl (ONE.out _ _) HNW.out (by have := HLW.out; have := SA.out.size; omega) ?_
        intro v6 w6 o6 g6 hv6
        obtain ⟨A6, c6, rfl⟩ := own_formN o6
        have G6 := Lib.hid ((Chg.of_still SA.out (fun b => (Value.slice Ah' nh' ch').ownBlock = some b)).trans (Chg.of_grown g6 (fun k e _ => e)) (fun b hb hs => hs))
        have G46 := Lib.hid (show Chg w4 w6 (fun b => (Value.slice Ah' nh' ch').ownBlock = some b) from (Chg.of_still ((Still.refl w4).alloc (Nat.le_refl _) _) (fun b => (Value.slice Ah' nh' ch').ownBlock = some b)).trans (Chg.of_grown g6 (fun k e _ => e)) (fun b hb hs => hs))
        have O6 := Lib.hid o6
        have HV6 := Lib.hid hv6
        have NOG := Lib.hid (show ∀ b, (Value.slice Ah' nh' ch').ownBlock = some b → b ≠ dk ∧ b ≠ g' ∧ b < w3.heap.size ∧ b ≠ w.heap.size from fun b e => ⟨fun e2 => (by have h1 := OL.out b e; rw [e2, D3.out.odk] at h1; injection h1 with h1; omega), fun e2 => (by have h1 := OL.out b e; rw [e2, OG2.out] at h1; injection h1 with h1; omega), (OW.out.lt b e).2, fun e2 => (by have h1 := OL.out b e; rw [e2] at h1; exact NOX.out (by rw [h1]; simp))⟩)
        have FO6 := Lib.hid (G6.out.own FO.out (fun b e hs => (NOG.out b hs).2.1 (by injection e with e; exact e.symm)))
        have d26 : w6.cell? ⟨g', f * 3 + 2, none⟩ = some (.slice Ah' nh' ch') := (World.cell?_of_block (w := w3) (G6.out.block g' u3 (fun hs => (NOG.out g' hs).2.1 rfl))).trans d2
        have z26 := FO6.out.frozenAt (f * 3 + 2)
        have C6 := Lib.hid (show w6.cell? ⟨dk, 1, none⟩ = some (.slice (some ⟨g', 0, none⟩) fl' cap') ∧ w6.cell? ⟨w.heap.size, 0, none⟩ = some (.bool true) ∧ w6.cell? ⟨w.heap.size, 1, none⟩ = some (.int .i64 ki) ∧ w6.cell? ⟨w.heap.size, 2, none⟩ = some (.slice Ab nb cb) from ⟨(World.cell?_of_block (w := w3) (G6.out.block dk D3.out.blk.lt (fun hs => (NOG.out dk hs).1 rfl))).trans k1, dcC_cells (G6.out.blk BX3.out (fun hs => (NOG.out _ hs).2.2.2 rfl))⟩)
        clear o6 g6 hv6
        refine hK'.out _ _ (fun _ _ => C6.out) ?_
        clear hK' K'
        try simp only [Act.put, List.setIfInBounds_toArray, List.set_cons_zero, List.set_cons_succ]
        refine wpLate_pure (i := 16) (v := .pointer (some ⟨g', f * 3, none⟩)) rfl (by kernel_rfl) (by kernel_rfl) (by kernel_rfl) (by kernel_rfl) (fun _ _ _ h => h) (Or.inl ⟨by kernel_rfl, fun w _ => by go_simp⟩) ?_
        try simp only [Act.put, List.setIfInBounds_toArray, List.set_cons_zero, List.set_cons_succ]
        refine wpLate_pure (i := 17) (v := .pointer (some ⟨g', f * 3 + 2, none⟩)) rfl (by kernel_rfl) (by kernel_rfl) (by kernel_rfl) (by kernel_rfl) (fun _ _ _ h => h) (Or.inl ⟨by kernel_rfl, fun w _ => by go_simp⟩) ?_
        try simp only [Act.put, List.setIfInBounds_toArray, List.set_cons_zero, List.set_cons_succ]
        refine wpLate_one (i := 18) (o := ⟨none, .store 109 (.tmp 86) (.tmp 84), _, _, _, none⟩) (by kernel_rfl) rfl (fun K' hK' => ?_)
        rw [if_pos (by kernel_rfl)]
        with_reducible refine step_storeC w6 109 (.tmp 86) (.tmp 84) (by kernel_rfl) g' (f * 3 + 2) (.slice A6 (nh' + 1) c6) (.slice Ah' nh' ch') (by kernel_rfl) (by kernel_rfl) rfl (by kernel_rfl) d26 z26 ?_
        refine hK'.out _ _ (fun _ h => absurd h (by decide)) ?_
        clear hK' K' hHeld
        try simp only [Act.put, List.setIfInBounds_toArray, List.set_cons_zero, List.set_cons_succ]
        refine wpLate_done (by kernel_rfl) ?_ _
        obtain ⟨w7, hw7⟩ : ∃ w7, w7 = w6.setCell ⟨g', f * 3 + 2, none⟩ (.slice A6 (nh' + 1) c6) := ⟨_, rfl⟩
        rw [← hw7]
        have ST7 := FO6.out.stored (f * 3 + 2) (.slice A6 (nh' + 1) c6)
        rw [← hw7] at ST7
        have G7 := Lib.hid (show Chg w6 w7 (fun b => b = g') from Chg.of_grown ST7.2 (fun k e _ => (Option.some.inj e).symm))
        have G37 := Lib.hid (show Chg w3 w7 (fun b => b = g' ∨ own3 b = some (4 + f)) from (G6.out.mono (fun b _ hs => .inr (OL.out b hs))).trans G7.out (fun b _ hs => .inl hs))
        have N6 := Lib.hid (show ∀ b, (Value.slice A6 (nh' + 1) c6).ownBlock = some b → (own3 b = some (4 + f) ∨ w3.heap.size ≤ b) ∧ base ≤ b ∧ b < w7.heap.size ∧ b ≠ g' from fun b e => by
          have h1 := O6.out.lt b e
          have h2 := G7.out.size
          have h3 := S4.out.size
          rcases HV6.out with h | h
          · rw [h] at e
            exact ⟨.inl (OL.out b e), h1.1, by omega, (NOG.out b e).2.1⟩
          · rw [h] at e
            injection e with e
            exact ⟨.inr (by simp at e; omega), h1.1, by omega, by simp at e; omega⟩)
        have DL7 := Lib.hid (show DLeft w3 w7 base dk own3 { D1 with files := D1.files.set f (⟨F.fast, F.now, F.waits ++ [⟨true, ki, xb⟩]⟩ : DFi) } from by
          have hlen : fcs3.length = D1.files.length * 3 := D3.out.files.1
          have hfl2 := HD1L.out
          have hcl2 : ∀ q u, ([.slice Af' nf' cf', .slice Ag' ng' cg', .slice Ah' nh' ch'] : List Value)[q]? = some u → fcs3[f * 3 + q]? = some u := fun q u hq => by
            have hq3 : q < 3 := by have := (List.getElem?_eq_some_iff.1 hq).1; simpa using this
            have h2 := RG.out q u hq
            rw [FO.out.cellAt (f * 3 + q) (by omega)] at h2
            exact h2
          refine fset_end D3.out HD1L.out HFV.out (.slice A6 (nh' + 1) c6) _ G37.out (fun b hs => hs) (cs' := [.slice Af' nf' cf', .slice Ag' ng' cg', .slice A6 (nh' + 1) c6]) rfl (fun own' e => ?_) (by rw [HFV.out]; exact ST7.1) (fun q u hq => ?_) (fun j hj => by rw [List.getElem?_set_ne (by omega)]) (fun b e => ⟨(N6.out b e).1, (N6.out b e).2.1, (N6.out b e).2.2.1⟩)
          · have _z : True := trivial
            have hv2 : ∀ b, (Value.slice A6 (nh' + 1) c6).ownBlock = some b → own3 b = some (4 + f) ∨ w3.heap.size ≤ b := fun b e => (N6.out b e).1
            have hok : ∀ b, b < w3.heap.size → own' b = own3 b := by rw [e]; exact relab_old hv2
            have hnf : ∀ b, (b = g' ∨ own3 b = some (4 + f)) → own3 b ≠ some 0 := fun b hs e2 => by
              rcases hs with rfl | hs
              · rw [OG2.out] at e2; cases e2
              · rw [hs] at e2; injection e2 with e2; omega
            refine ⟨Af', nf', cf', Ag', ng', cg', A6, nh' + 1, c6, _, rfl, V1.out.move G37.out hnf hok, V2.out.move G37.out hnf hok, by simp [V3.out], (G7.out.own O6.out (fun b e hs => (N6.out b e).2.2.2 hs)), (V5.out.move G37.out hnf hok).snoc ⟨true, ki, xb⟩ ?_, fun b hb => by rw [e]; unfold relab; rw [if_pos hb]⟩
            have h4 := RowP.of_own O4.out
            have g46 : Chg w4 w6 (fun b => (Value.slice Ah' nh' ch').ownBlock = some b) := G46.out
            have h6 := (h4.mono (Q := fun b => w3.heap.size ≤ b ∧ b < w4.heap.size) (fun b hb hlt => ⟨hb.1, hlt⟩)).chg g46 (fun b hb hlt hs => by have := (NOG.out b hs).2.2.1; omega)
            have h7 := h6.chg G7.out (fun b hb hlt hs => by have hs : b = g' := hs; omega)
            refine h7.mono (fun b hb hlt => ?_)
            show own' b = some 0
            rw [e]
            unfold relab
            rw [if_neg (fun e2 => ?_), if_pos ⟨hb.1, hlt⟩]
            have h8 := hb.1
            have h9 := hb.2
            rcases HV6.out with h | h
            · rw [h] at e2; have := (NOG.out b e2).2.2.1; omega
            · rw [h] at e2; injection e2 with e2; simp at e2; omega
          · rcases q with _ | _ | _ | q
            · rw [List.getElem?_set_ne (by omega)]; exact hcl2 0 u hq
            · rw [List.getElem?_set_ne (by omega)]; exact hcl2 1 u hq
            · rw [List.getElem?_set_self (by omega)]; exact hq
            · simp at hq)
        have BX7 := Lib.hid (G37.out.blk BX3.out (fun hs => by
          rcases hs with hs | hs
          · have h1 := (FO.out.lt g' rfl).1
            exact NOX.out (by rw [hs, OG2.out]; simp)
          · exact NOX.out (by rw [hs]; simp)))
        have HP7 := Lib.hid (HP3.out.chg G37.out (fun b hb hlt hs => by
          have hb : own3 b = none := hb
          rcases hs with hs | hs
          · rw [hs, OG2.out] at hb; cases hb
          · rw [hs] at hb; cases hb))
        obtain ⟨c7', own7, ho7, fv7, fcs7, A7, n7, cc7, B7, m7, e7, wv7, d7⟩ := id DL7.out
        have CG7 := Lib.hid (And.intro c7' ho7)
        obtain ⟨D2, hD2⟩ : ∃ D2 : Dk, D2 = { D1 with files := D1.files.set f (⟨F.fast, F.now, F.waits ++ [⟨true, ki, xb⟩]⟩ : DFi) } := ⟨_, rfl⟩
        have HD2 := Lib.hid hD2
        rw [← hD2] at d7
        have hF2 : D2.files[f]? = some ⟨F.fast, F.now, F.waits ++ [⟨true, ki, xb⟩]⟩ := by rw [hD2]; exact List.getElem?_set_self HD1L.out
        have HF2 := Lib.hid hF2
        obtain ⟨g7, cap7, hfv7, t1, t2, t3, cs7, _, _, hrg7⟩ := d7.file hF2
        have HFV7 := Lib.hid hfv7
        have DD7 := Lib.hid d7
        have HR := Lib.hid (here_D d7.I hF2 (by show F.now.length ≤ _; have := HMO.out; omega))
        simp only at HR
        have e71 := hrg7
        obtain ⟨b0, b1, b2⟩ := dcC_cells BX7.out
        clear hD2 hF2 hfv7 c7' ho7 ST7 hw7 DL7 d26 z26 CK k1 d2 z0 z1 z2 hrg7 d7
        go_wp2_with fail
        refine HR.out.mono ?_
        rintro e w8 ⟨⟨A8, c8, rfl, o8⟩, s8⟩
        have S8 := Lib.hid s8
        have O8 := Lib.hid o8
        obtain ⟨f1, f2, f3⟩ := dcC_cells (BX7.out.still s8)
        obtain ⟨_, y1, y2, y3⟩ := own_form o8
        have k8 := (DD7.out.still s8).cells.2.1
        rw [HFV7.out] at k8
        obtain ⟨fl8, hfl8⟩ : ∃ fl8, fl8 = D2.files.length := ⟨_, rfl⟩
        have q8 : (f : Int) < (fl8 : Int) := by have := (List.getElem?_eq_some_iff.1 HF2.out).1; omega
        rw [← hfl8] at k8 t1
        have HFL8 := Lib.hid hfl8
        obtain ⟨nl, hnl⟩ : ∃ nl, nl = F.now.length := ⟨_, rfl⟩
        rw [← hnl] at O8
        have HNL := Lib.hid hnl
        clear o8 s8 b0 b1 b2 hfl8
        have o8 := O8.out
        obtain ⟨A8', c8', ev, y1, y2, y3⟩ := own_form o8
        injection ev with ev1 _ ev2
        subst ev1 ev2
        rw [← hnl]
        clear hnl
        obtain ⟨kk, rfl⟩ := Int.eq_ofNat_of_zero_le (show (0 : Int) ≤ ki by omega)
        have hkk : kk ≤ nl := by have := HNG.out; have := HNL.out; omega
        have OF := Lib.hid (own_front o8 hkk)
        have HKT := Lib.hid (show (F.now.take kk).length = kk by rw [List.length_take]; have := HNL.out; omega)
        clear o8
        have FIN := Lib.hid (fun W (hW : W = w8.setCell ⟨g7, f * 3 + 1, none⟩ (.slice A8 kk c8)) => (show DLeft w7 W base dk own7 { D1 with files := D1.files.set f (byteFi F ⟨true, kk, xb⟩) } from by
          have h := fnow_end DD7.out HF2.out HFV7.out S8.out OF.out hW
          have e2 : ({ D2 with files := D2.files.set f (⟨F.fast, F.now.take kk, F.waits ++ [⟨true, kk, xb⟩]⟩ : DFi) } : Dk) = { D1 with files := D1.files.set f (byteFi F ⟨true, kk, xb⟩) } := by
            rw [HD2.out]
            simp only [List.set_set]
            rfl
          rw [← e2]
          exact h))
        have d81 : ∃ old, w8.cell? ⟨g7, f * 3 + 1, none⟩ = some old := by
          obtain ⟨g9, cap9, hfv9, _, _, _, cs9, hl9, _, hr9⟩ := (DD7.out.still S8.out).file HF2.out
          have e9 : g9 = g7 := by
            have := HFV7.out.symm.trans hfv9
            injection this with this
            injection this with this
            injection this with this
            exact this.symm
          rw [e9] at hr9
          exact ⟨_, hr9 1 _ (List.getElem?_eq_getElem (by omega))⟩
        obtain ⟨old, d81⟩ := d81
        have z81 : w8.frozen? ⟨g7, f * 3 + 1, none⟩ = false := by
          have := (DD7.out.still S8.out).fown
          rw [HFV7.out] at this
          exact this.frozenAt _
        have q9 : (kk : Int) ≤ (nl : Int) := by omega
        rcases A8 with _ | ⟨ga, oa, sa⟩
        · obtain ⟨y4, y5⟩ := y3 rfl
          subst y4 y5
          obtain rfl : kk = 0 := by omega
          go_wp2_with fail
          go_ret
          exact ⟨rfl, DLeft.chain (Chg.of_still (Still.trans SB.out SZ.out) _) (fun _ _ => rfl) (DLeft.chain CG.out.1 CG.out.2 (DLeft.chain CG7.out.1 CG7.out.2 (FIN.out _ rfl)))⟩
        · clear y3
          go_wp2_with fail
          go_ret
          exact ⟨rfl, DLeft.chain (Chg.of_still (Still.trans SB.out SZ.out) _) (fun _ _ => rfl) (DLeft.chain CG.out.1 CG.out.2 (DLeft.chain CG7.out.1 CG7.out.2 (FIN.out _ rfl)))⟩
      · have E : byteD D s ⟨true, ki, xb⟩ = stepD D := by
          rw [E0, hok0, if_neg (by decide), if_neg hz]
        rw [E]
        have e12 := stepD_12 D hz
        rw [e12]
        have SP := Lib.hid (fun W (t : Still wb W) => step_D (hB.still t) hg.left.1 hg.left.2)
        rw [e12] at SP
        obtain ⟨D1, hD1⟩ : ∃ D1, D1 = (stepD D).2 := ⟨_, rfl⟩
        rw [← hD1] at SP ⊢
        have XR := Lib.hid x0
        have XDL := Lib.hid hc.blk.lt
        clear h hc ho E E0 hg hf hd e1 e2 hB x0 hfl hfv hrg r1 r2 r3 r4 r5 r6 hF hcl hfl2 hx hP hroom hz hD1 e12 hok0
        go_enter Tryz.func32, Tryz.ntmps32
        go_upto_region 1 with fail
        rw [← HWB.out]
        go_wp2_with fail
        refine FD.out.mono ?_
        rintro e w1 ⟨rfl, rfl⟩
        go_wp2_with fail
        go_quiet (fail)
        have SQ := Lib.hid (still_drewN (Still.refl w1) nq)
        generalize w1.drewN nq = wq at SQ ⊢
        obtain ⟨xq0, xq1, xq2⟩ := X0.out wq SQ.out
        clear xc0 xc1 xc2 x1 x7 y1
        go_wp2_with fail
        go_quiet (fail)
        have SZ := Lib.hid (still_drewN SQ.out nq)
        generalize wq.drewN nq = wz at SZ ⊢
        clear xq0 xq1 xq2 SQ
        go_wp2_with fail
        refine (SP.out wz SZ.out).mono ?_
        rintro e w3 ⟨rfl, hl⟩
        have HL := Lib.hid (show DLeft w w3 base dk own D1 from DLeft.chain (Chg.of_still (Still.trans SB.out SZ.out) _) (fun _ _ => rfl) hl)
        clear hl
        go_wp2_with fail
        go_ret
        exact ⟨rfl, HL.out⟩
  · have hcf : cu = false := by simpa using hcut
    subst hcf
    by_cases hbad : D.room - (usedD D D.now : Nat) < (nb : Int)
    · have E : byteD D s ⟨false, ki, xb⟩ = (11, D) := by
        rw [E0]
        have : byteBad D F ⟨false, ki, xb⟩ = 11 := by unfold byteBad; rw [if_neg (show ¬ (false = true) by decide), if_pos (by show D.room - _ < (xb.length : Int); have h9 : xb.length = nb := HXL.out; omega)]
        rw [this, if_pos (by decide)]
      rw [E]
      have XR := Lib.hid x0
      have XDL := Lib.hid hc.blk.lt
      obtain ⟨rm, hrm⟩ : ∃ rm, rm = D.room := ⟨_, rfl⟩
      obtain ⟨us, hus⟩ : ∃ us, us = usedD D D.now := ⟨_, rfl⟩
      rw [← hrm] at hbad hroom XR
      rw [← hus] at hbad UD UL
      obtain ⟨hr1, hr2⟩ := hroom
      have hul := UL.out
      clear h hc ho E E0 hg hf hd e1 e2 hB x0 hfl hfv hrg r1 r2 r3 r4 r5 r6 hF hcl hfl2 hx hP hcut hrm hus
      go_enter Tryz.func32, Tryz.ntmps32
      go_upto_region 1 with fail
      rw [← HWB.out]
      go_wp2_with fail
      refine FD.out.mono ?_
      rintro e w1 ⟨rfl, rfl⟩
      go_wp2_with fail
      go_quiet (fail)
      have SQ := Lib.hid (still_drewN (Still.refl w1) nq)
      generalize w1.drewN nq = wq at SQ ⊢
      obtain ⟨xq0, xq1, xq2⟩ := X0.out wq SQ.out
      have xr := (SQ.out.cell (p := ⟨dk, 0, none⟩) XDL.out).trans XR.out
      have HU := Lib.hid (fun i => UD.out (wq.drewN i) (still_drewN SQ.out i))
      clear xc0 xc1 xc2 x1 x7 y1
      go_wp2_with fail
      go_quiet ((go_at_call 67; exact Calls.quiet_of (HU.out _)))
      have SZ := Lib.hid (still_drewN SQ.out nq)
      generalize wq.drewN nq = wz at SZ ⊢
      clear xq0 xq1 xq2 xr HU SQ
      go_wp2_with fail
      go_ret
      exact ⟨rfl, L0.out _ (Still.trans SB.out SZ.out)⟩
    · have hok0 : byteBad D F ⟨false, ki, xb⟩ = 0 := by unfold byteBad; rw [if_neg (show ¬ (false = true) by decide), if_neg (by show ¬ D.room - _ < (xb.length : Int); have h9 : xb.length = nb := HXL.out; omega)]
      obtain ⟨hr1, hr2⟩ := id hroom
      have hul := UL.out
      by_cases hz : (stepD D).1 = 0
      · obtain ⟨D1, hD1⟩ : ∃ D1, D1 = (stepD D).2 := ⟨_, rfl⟩
        have SM := stepD_same D
        rw [← hD1] at SM
        have hF1 : D1.files[f]? = some F := by rw [SM.1]; exact hF
        have E : byteD D s ⟨false, ki, xb⟩ = (0, { D1 with files := D1.files.set f (byteFi F ⟨false, ki, xb⟩) }) := by
          rw [E0, hok0, if_neg (by decide), if_pos hz, ← hD1]
          unfold byteFile
          simp only [hF1]
        rw [E]
        have SP := Lib.hid (fun W (t : Still wb W) => step_D (hB.still t) hg.left.1 hg.left.2)
        rw [hz, ← hD1] at SP
        have HF1 := Lib.hid hF1
        have HPN := Lib.hid hP
        have HFG := Lib.hid (hg.fs f F hF)
        have HMO := Lib.hid (hg.most hF)
        have HKC := Lib.hid (show F.waits.length ≤ 700000 by have := (hg.fs f F hF).cnt; omega)
        have HD1L := Lib.hid (show f < D1.files.length from (List.getElem?_eq_some_iff.1 hF1).1)
        have XR := Lib.hid x0
        have XDL := Lib.hid hc.blk.lt
        have NOX := Lib.hid (show ¬ own w.heap.size ≠ none from fun h2 => by
          obtain ⟨_, _, _, _, _, _, _, _, _, hh⟩ := h
          have := (hh.dom _ h2).2
          omega)
        have DOMW := Lib.hid (show ∀ b, own b ≠ none → b < w.heap.size from fun b h2 => by
          obtain ⟨_, _, _, _, _, _, _, _, _, hh⟩ := h
          exact (hh.dom _ h2).2)
        clear h hc ho E E0 hg hf hd e1 e2 hB x0 hfl hfv hrg r1 r2 r3 r4 r5 r6 hF hcl hfl2 hx hP hroom hz hD1 SM hF1 hok0
        go_enter Tryz.func32, Tryz.ntmps32
        go_upto_region 1 with fail
        rw [← HWB.out]
        go_wp2_with fail
        refine FD.out.mono ?_
        rintro e w1 ⟨rfl, rfl⟩
        go_wp2_with fail
        go_quiet (fail)
        have SQ := Lib.hid (still_drewN (Still.refl w1) nq)
        generalize w1.drewN nq = wq at SQ ⊢
        obtain ⟨xq0, xq1, xq2⟩ := X0.out wq SQ.out
        have xr := (SQ.out.cell (p := ⟨dk, 0, none⟩) XDL.out).trans XR.out
        have HU := Lib.hid (fun i => UD.out (wq.drewN i) (still_drewN SQ.out i))
        clear xc0 xc1 xc2 x1 x7 y1
        go_wp2_with fail
        go_quiet ((go_at_call 67; exact Calls.quiet_of (HU.out _)))
        have SZ := Lib.hid (still_drewN SQ.out nq)
        generalize wq.drewN nq = wz at SZ ⊢
        clear xq0 xq1 xq2 xr HU SQ
        go_wp2_with fail
        refine (SP.out wz SZ.out).mono ?_
        rintro e w3 ⟨rfl, cgg, own3, ho3, fv3, fcs3, A3, n3, c3, A4, n4, c4, wv3, d3⟩
        have CG := Lib.hid (And.intro cgg ho3)
        have D3 := Lib.hid d3
        have BX3 := Lib.hid (cgg.blk (BX.out.still SZ.out) (fun h => NOX.out h))
        have NOX3 := Lib.hid (show ¬ own3 w.heap.size ≠ none from fun h => NOX.out (by rw [← ho3 _ (BX.out.still SZ.out).lt]; exact h))
        have XR3 := Lib.hid ((XB.out.still SZ.out).chg cgg (fun b hb _ hs => hs (HPN.out b hb)))
        have HP3 := Lib.hid (show RowP w3 (fun b => own3 b = none) Ab nb cb xb from ((XB.out.still SZ.out).mono (Q := fun b => own b = none ∧ own3 b = none) (fun b hb hlt => ⟨HPN.out b hb, by rw [ho3 b hlt]; exact HPN.out b hb⟩)).chg cgg (fun b hb _ hs => hs hb.1) |>.mono (fun b hb _ => hb.2))
        obtain ⟨g', cap', hfv', u1, u2, u3, cs', hcl', ⟨Af', nf', cf', Ag', ng', cg', Ah', nh', ch', ccs', rfl, v1, v2, v3, v4, v5, v6⟩, hrg'⟩ := d3.file HF1.out
        have V1 := Lib.hid v1
        have V2 := Lib.hid v2
        have V3 := Lib.hid v3
        have V5 := Lib.hid v5
        have RG := Lib.hid hrg'
        have FO := Lib.hid (show w3.ownsRow base 111 3 (.slice (some ⟨g', 0, none⟩) D1.files.length cap') D1.files.length fcs3 by rw [← hfv']; exact d3.fown)
        have k1 := d3.cells.2.1
        rw [hfv'] at k1
        have d2 := hrg' 2 _ rfl
        have HFV := Lib.hid hfv'
        have OW := Lib.hid v4
        have HNW := Lib.hid (show nh' ≤ 1048576 by rw [v3]; have := HKC.out; omega)
        have OL := Lib.hid v6
        have OG2 := Lib.hid (show own3 g' = some 2 from d3.ofv g' (by rw [hfv']; rfl))
        have HLW := Lib.hid d3.low
        obtain ⟨fl', hfl'⟩ : ∃ fl', fl' = D1.files.length := ⟨_, rfl⟩
        have HFL' := Lib.hid hfl'
        rw [← hfl'] at k1 u1
        have q3 : (f : Int) < (fl' : Int) := by have := HD1L.out; omega
        obtain ⟨z0, z1, z2⟩ := dcC_cells BX3.out
        clear cgg ho3 d3 v1 v2 v3 v4 v5 v6 hrg' hcl' hfv' SP hfl' NOX
        have NOX := NOX3
        clear NOX3
        go_upto_region 13 with fail
        have CK := Lib.hid (fun W (t : Still w3 W) => (show W.cell? ⟨dk, 1, none⟩ = some (.slice (some ⟨g', 0, none⟩) fl' cap') ∧ W.cell? ⟨w.heap.size, 0, none⟩ = some (.bool false) ∧ W.cell? ⟨w.heap.size, 1, none⟩ = some (.int .i64 ki) ∧ W.cell? ⟨w.heap.size, 2, none⟩ = some (.slice Ab nb cb) from ⟨(t.cell (p := ⟨dk, 1, none⟩) D3.out.blk.lt).trans k1, dcC_cells (BX3.out.still t)⟩))
        have CPB := Lib.hid (fun W (t : Still w3 W) => copy_any Ab nb cb xb W _ (XR3.out.still t).reads (by omega) XR3.out.nil)
        have ONE := Lib.hid (show ∀ c (A' : Option Addr), ∀ u ∈ ([.bool false, .int .i64 ki, .slice A' nb c] : List Value), u.oneCell' = true from fun c A' u hu => by
          simp only [List.mem_cons, List.not_mem_nil, or_false] at hu
          rcases hu with rfl | rfl | rfl <;> rfl)
        refine wp_region_late (S := fun W => W.cell? ⟨dk, 1, none⟩ = some (.slice (some ⟨g', 0, none⟩) fl' cap') ∧ W.cell? ⟨w.heap.size, 0, none⟩ = some (.bool false) ∧ W.cell? ⟨w.heap.size, 1, none⟩ = some (.int .i64 ki) ∧ W.cell? ⟨w.heap.size, 2, none⟩ = some (.slice Ab nb cb)) [18] (by kernel_rfl) (CK.out _ (Still.refl _).drew) (fun hHeld => ?_)
        try simp only [Act.put, List.setIfInBounds_toArray, List.set_cons_zero, List.set_cons_succ]
        refine wpLate_pure (i := 0) (v := .pointer (some ⟨dk, 0, none⟩)) rfl (by kernel_rfl) (by kernel_rfl) (by kernel_rfl) (by kernel_rfl) (fun _ _ _ h => h) (Or.inl ⟨by kernel_rfl, fun w _ => by go_simp⟩) ?_
        try simp only [Act.put, List.setIfInBounds_toArray, List.set_cons_zero, List.set_cons_succ]
        refine wpLate_pure (i := 1) (v := .pointer (some ⟨dk, 0, none⟩)) rfl (by kernel_rfl) (by kernel_rfl) (by kernel_rfl) (by kernel_rfl) (fun _ _ _ h => h) (Or.inl ⟨by kernel_rfl, fun w _ => by go_simp⟩) ?_
        try simp only [Act.put, List.setIfInBounds_toArray, List.set_cons_zero, List.set_cons_succ]
        refine wpLate_pure (i := 2) (v := .pointer (some ⟨dk, 1, none⟩)) rfl (by kernel_rfl) (by kernel_rfl) (by kernel_rfl) (by kernel_rfl) (fun _ _ _ h => h) (Or.inl ⟨by kernel_rfl, fun w _ => by go_simp⟩) ?_
        try simp only [Act.put, List.setIfInBounds_toArray, List.set_cons_zero, List.set_cons_succ]
        refine wpLate_take (i := 3) (v := .slice (some ⟨g', 0, none⟩) fl' cap') [16, 17, 18] rfl (by kernel_rfl) (by kernel_rfl) (by kernel_rfl) (by kernel_rfl) (by kernel_rfl) (by decide) (fun _ _ _ h => h) (Or.inl ⟨by kernel_rfl, fun w hS => by obtain ⟨hs0, hs1, hs2, hs3⟩ := hS; go_simp⟩) (by assumption) (fun hHeld => ?_)
        try simp only [Act.put, List.setIfInBounds_toArray, List.set_cons_zero, List.set_cons_succ]
        refine wpLate_pure (i := 4) (v := .int .i64 (f : Int)) rfl (by kernel_rfl) (by kernel_rfl) (by kernel_rfl) (by kernel_rfl) (fun _ _ _ h => h) (Or.inl ⟨by kernel_rfl, fun w _ => by go_simp⟩) ?_
        try simp only [Act.put, List.setIfInBounds_toArray, List.set_cons_zero, List.set_cons_succ]
        refine wpLate_pure (i := 5) (v := .slice Ah' nh' ch') rfl (by kernel_rfl) (by kernel_rfl) (by kernel_rfl) (by kernel_rfl) (fun _ _ _ h => h) (Or.inl ⟨by kernel_rfl, fun w _ => by go_simp⟩) ?_
        try simp only [Act.put, List.setIfInBounds_toArray, List.set_cons_zero, List.set_cons_succ]
        refine wpLate_pure (i := 6) (v := .pointer (some ⟨w.heap.size, 0, none⟩)) rfl (by kernel_rfl) (by kernel_rfl) (by kernel_rfl) (by kernel_rfl) (fun _ _ _ h => h) (Or.inl ⟨by kernel_rfl, fun w _ => by go_simp⟩) ?_
        try simp only [Act.put, List.setIfInBounds_toArray, List.set_cons_zero, List.set_cons_succ]
        refine wpLate_take (i := 7) (v := .bool false) [13, 14, 15, 18] rfl (by kernel_rfl) (by kernel_rfl) (by kernel_rfl) (by kernel_rfl) (by kernel_rfl) (by decide) (fun _ _ _ h => h) (Or.inl ⟨by kernel_rfl, fun w hS => by obtain ⟨hs0, hs1, hs2, hs3⟩ := hS; go_simp⟩) (by assumption) (fun hHeld => ?_)
        try simp only [Act.put, List.setIfInBounds_toArray, List.set_cons_zero, List.set_cons_succ]
        refine wpLate_pure (i := 8) (v := .pointer (some ⟨w.heap.size, 1, none⟩)) rfl (by kernel_rfl) (by kernel_rfl) (by kernel_rfl) (by kernel_rfl) (fun _ _ _ h => h) (Or.inl ⟨by kernel_rfl, fun w _ => by go_simp⟩) ?_
        try simp only [Act.put, List.setIfInBounds_toArray, List.set_cons_zero, List.set_cons_succ]
        refine wpLate_take (i := 9) (v := .int .i64 ki) [13, 14, 15, 18] rfl (by kernel_rfl) (by kernel_rfl) (by kernel_rfl) (by kernel_rfl) (by kernel_rfl) (by decide) (fun _ _ _ h => h) (Or.inl ⟨by kernel_rfl, fun w hS => by obtain ⟨hs0, hs1, hs2, hs3⟩ := hS; go_simp⟩) (by assumption) (fun hHeld => ?_)
        try simp only [Act.put, List.setIfInBounds_toArray, List.set_cons_zero, List.set_cons_succ]
        refine wpLate_pure (i := 10) (v := .pointer (some ⟨w.heap.size, 2, none⟩)) rfl (by kernel_rfl) (by kernel_rfl) (by kernel_rfl) (by kernel_rfl) (fun _ _ _ h => h) (Or.inl ⟨by kernel_rfl, fun w _ => by go_simp⟩) ?_
        try simp only [Act.put, List.setIfInBounds_toArray, List.set_cons_zero, List.set_cons_succ]
        refine wpLate_take (i := 11) (v := .slice Ab nb cb) [12, 13, 14, 15, 18] rfl (by kernel_rfl) (by kernel_rfl) (by kernel_rfl) (by kernel_rfl) (by kernel_rfl) (by decide) (fun _ _ _ h => h) (Or.inl ⟨by kernel_rfl, fun w hS => by obtain ⟨hs0, hs1, hs2, hs3⟩ := hS; go_simp⟩) (by assumption) (fun hHeld => ?_)
        try simp only [Act.put, List.setIfInBounds_toArray, List.set_cons_zero, List.set_cons_succ]
        refine wpLate_one (i := 12) (o := ⟨some 81, .call { callee := .value (.func 15), args := #[.tmp 80], argTypes := #[31] }, _, _, _, none⟩) (by kernel_rfl) rfl (fun K' hK' => ?_)
        go_simp
        go_wp2_with (go_at_call 15; with_reducible refine (CPB.out _ (Still.refl _).drew).mono ?_; rintro e w4 ⟨⟨v4, rfl, o4⟩, s4⟩)
        have S4 := Lib.hid (Still.trans (Still.refl w3).drew s4)
        have O4 := Lib.hid o4
        obtain ⟨A4', c4', rfl⟩ := own_formN o4
        clear o4 s4
        refine hK'.out _ _ (fun _ _ => CK.out _ S4.out) ?_
        clear hK' K'
        try simp only [Act.put, List.setIfInBounds_toArray, List.set_cons_zero, List.set_cons_succ]
        refine wpLate_pure (i := 13) (v := .agg #[.bool false, .int .i64 ki, .slice A4' nb c4']) rfl (by kernel_rfl) (by kernel_rfl) (by kernel_rfl) (by kernel_rfl) (fun _ _ _ h => h) (Or.inl ⟨by kernel_rfl, fun w _ => by go_simp⟩) ?_
        try simp only [Act.put, List.setIfInBounds_toArray, List.set_cons_zero, List.set_cons_succ]
        refine wpLate_one (i := 14) (o := ⟨some 83, .buildSlice 109 1 #[(0, .tmp 82)], _, _, _, none⟩) (by kernel_rfl) rfl (fun K' hK' => ?_)
        rw [if_pos (by kernel_rfl)]
        with_reducible refine step_boxDc w4 (.tmp 82) (by kernel_rfl) false ki A4' nb c4' (by kernel_rfl) ?_
        have SA := Lib.hid (show Still w3 (w4.alloc (.cells #[.bool false, .int .i64 ki, .slice A4' nb c4'] 72)) from S4.out.alloc S4.out.size _)
        refine hK'.out _ _ (fun _ _ => CK.out _ SA.out) ?_
        clear hK' K'
        try simp only [Act.put, List.setIfInBounds_toArray, List.set_cons_zero, List.set_cons_succ]
        refine wpLate_one (i := 15) (o := ⟨some 84, .call { callee := .builtin .append, args := #[.tmp 74, .tmp 83], argTypes := #[109, 109] }, _, _, _, none⟩) (by kernel_rfl) rfl (fun K' hK' => ?_)
        rw [if_pos (by kernel_rfl)]
        with_reducible refine step_pushDc _ (.tmp 74) (.tmp 83) (by kernel_rfl) base (.slice Ah' nh' ch') nh' ccs' (by kernel_rfl) ((still_own OW.out S4.out).alloc _) w4.heap.size [.bool false, .int .i64 ki, .slice A4' nb c4'] (by kernel_rfl) (fun q u hq => ((Blk.new w4 72 #[.bool false, .int .i64 ki, .slice A4' nb c4']).cell q).trans (by simpa using hq)) rfl (ONE.out _ _) HNW.out (by have := HLW.out; have := SA.out.size; omega) ?_
        intro v6 w6 o6 g6 hv6
        obtain ⟨A6, c6, rfl⟩ := own_formN o6
        have G6 := Lib.hid ((Chg.of_still SA.out (fun b => (Value.slice Ah' nh' ch').ownBlock = some b)).trans (Chg.of_grown g6 (fun k e _ => e)) (fun b hb hs => hs))
        have G46 := Lib.hid (show Chg w4 w6 (fun b => (Value.slice Ah' nh' ch').ownBlock = some b) from (Chg.of_still ((Still.refl w4).alloc (Nat.le_refl _) _) (fun b => (Value.slice Ah' nh' ch').ownBlock = some b)).trans (Chg.of_grown g6 (fun k e _ => e)) (fun b hb hs => hs))
        have O6 := Lib.hid o6
        have HV6 := Lib.hid hv6
        have NOG := Lib.hid (show ∀ b, (Value.slice Ah' nh' ch').ownBlock = some b → b ≠ dk ∧ b ≠ g' ∧ b < w3.heap.size ∧ b ≠ w.heap.size from fun b e => ⟨fun e2 => (by have h1 := OL.out b e; rw [e2, D3.out.odk] at h1; injection h1 with h1; omega), fun e2 => (by have h1 := OL.out b e; rw [e2, OG2.out] at h1; injection h1 with h1; omega), (OW.out.lt b e).2, fun e2 => (by have h1 := OL.out b e; rw [e2] at h1; exact NOX.out (by rw [h1]; simp))⟩)
        have FO6 := Lib.hid (G6.out.own FO.out (fun b e hs => (NOG.out b hs).2.1 (by injection e with e; exact e.symm)))
        have d26 : w6.cell? ⟨g', f * 3 + 2, none⟩ = some (.slice Ah' nh' ch') := (World.cell?_of_block (w := w3) (G6.out.block g' u3 (fun hs => (NOG.out g' hs).2.1 rfl))).trans d2
        have z26 := FO6.out.frozenAt (f * 3 + 2)
        have C6 := Lib.hid (show w6.cell? ⟨dk, 1, none⟩ = some (.slice (some ⟨g', 0, none⟩) fl' cap') ∧ w6.cell? ⟨w.heap.size, 0, none⟩ = some (.bool false) ∧ w6.cell? ⟨w.heap.size, 1, none⟩ = some (.int .i64 ki) ∧ w6.cell? ⟨w.heap.size, 2, none⟩ = some (.slice Ab nb cb) from ⟨(World.cell?_of_block (w := w3) (G6.out.block dk D3.out.blk.lt (fun hs => (NOG.out dk hs).1 rfl))).trans k1, dcC_cells (G6.out.blk BX3.out (fun hs => (NOG.out _ hs).2.2.2 rfl))⟩)
        clear o6 g6 hv6
        refine hK'.out _ _ (fun _ _ => C6.out) ?_
        clear hK' K'
        try simp only [Act.put, List.setIfInBounds_toArray, List.set_cons_zero, List.set_cons_succ]
        refine wpLate_pure (i := 16) (v := .pointer (some ⟨g', f * 3, none⟩)) rfl (by kernel_rfl) (by kernel_rfl) (by kernel_rfl) (by kernel_rfl) (fun _ _ _ h => h) (Or.inl ⟨by kernel_rfl, fun w _ => by go_simp⟩) ?_
        try simp only [Act.put, List.setIfInBounds_toArray, List.set_cons_zero, List.set_cons_succ]
        refine wpLate_pure (i := 17) (v := .pointer (some ⟨g', f * 3 + 2, none⟩)) rfl (by kernel_rfl) (by kernel_rfl) (by kernel_rfl) (by kernel_rfl) (fun _ _ _ h => h) (Or.inl ⟨by kernel_rfl, fun w _ => by go_simp⟩) ?_
        try simp only [Act.put, List.setIfInBounds_toArray, List.set_cons_zero, List.set_cons_succ]
        refine wpLate_one (i := 18) (o := ⟨none, .store 109 (.tmp 86) (.tmp 84), _, _, _, none⟩) (by kernel_rfl) rfl (fun K' hK' => ?_)
        rw [if_pos (by kernel_rfl)]
        with_reducible refine step_storeC w6 109 (.tmp 86) (.tmp 84) (by kernel_rfl) g' (f * 3 + 2) (.slice A6 (nh' + 1) c6) (.slice Ah' nh' ch') (by kernel_rfl) (by kernel_rfl) rfl (by kernel_rfl) d26 z26 ?_
        refine hK'.out _ _ (fun _ h => absurd h (by decide)) ?_
        clear hK' K' hHeld
        try simp only [Act.put, List.setIfInBounds_toArray, List.set_cons_zero, List.set_cons_succ]
        refine wpLate_done (by kernel_rfl) ?_ _
        obtain ⟨w7, hw7⟩ : ∃ w7, w7 = w6.setCell ⟨g', f * 3 + 2, none⟩ (.slice A6 (nh' + 1) c6) := ⟨_, rfl⟩
        rw [← hw7]
        have ST7 := FO6.out.stored (f * 3 + 2) (.slice A6 (nh' + 1) c6)
        rw [← hw7] at ST7
        have G7 := Lib.hid (show Chg w6 w7 (fun b => b = g') from Chg.of_grown ST7.2 (fun k e _ => (Option.some.inj e).symm))
        have G37 := Lib.hid (show Chg w3 w7 (fun b => b = g' ∨ own3 b = some (4 + f)) from (G6.out.mono (fun b _ hs => .inr (OL.out b hs))).trans G7.out (fun b _ hs => .inl hs))
        have N6 := Lib.hid (show ∀ b, (Value.slice A6 (nh' + 1) c6).ownBlock = some b → (own3 b = some (4 + f) ∨ w3.heap.size ≤ b) ∧ base ≤ b ∧ b < w7.heap.size ∧ b ≠ g' from fun b e => by
          have h1 := O6.out.lt b e
          have h2 := G7.out.size
          have h3 := S4.out.size
          rcases HV6.out with h | h
          · rw [h] at e
            exact ⟨.inl (OL.out b e), h1.1, by omega, (NOG.out b e).2.1⟩
          · rw [h] at e
            injection e with e
            exact ⟨.inr (by simp at e; omega), h1.1, by omega, by simp at e; omega⟩)
        have DL7 := Lib.hid (show DLeft w3 w7 base dk own3 { D1 with files := D1.files.set f (⟨F.fast, F.now, F.waits ++ [⟨false, ki, xb⟩]⟩ : DFi) } from by
          have hlen : fcs3.length = D1.files.length * 3 := D3.out.files.1
          have hfl2 := HD1L.out
          have hcl2 : ∀ q u, ([.slice Af' nf' cf', .slice Ag' ng' cg', .slice Ah' nh' ch'] : List Value)[q]? = some u → fcs3[f * 3 + q]? = some u := fun q u hq => by
            have hq3 : q < 3 := by have := (List.getElem?_eq_some_iff.1 hq).1; simpa using this
            have h2 := RG.out q u hq
            rw [FO.out.cellAt (f * 3 + q) (by omega)] at h2
            exact h2
          refine fset_end D3.out HD1L.out HFV.out (.slice A6 (nh' + 1) c6) _ G37.out (fun b hs => hs) (cs' := [.slice Af' nf' cf', .slice Ag' ng' cg', .slice A6 (nh' + 1) c6]) rfl (fun own' e => ?_) (by rw [HFV.out]; exact ST7.1) (fun q u hq => ?_) (fun j hj => by rw [List.getElem?_set_ne (by omega)]) (fun b e => ⟨(N6.out b e).1, (N6.out b e).2.1, (N6.out b e).2.2.1⟩)
          · have _z : True := trivial
            have hv2 : ∀ b, (Value.slice A6 (nh' + 1) c6).ownBlock = some b → own3 b = some (4 + f) ∨ w3.heap.size ≤ b := fun b e => (N6.out b e).1
            have hok : ∀ b, b < w3.heap.size → own' b = own3 b := by rw [e]; exact relab_old hv2
            have hnf : ∀ b, (b = g' ∨ own3 b = some (4 + f)) → own3 b ≠ some 0 := fun b hs e2 => by
              rcases hs with rfl | hs
              · rw [OG2.out] at e2; cases e2
              · rw [hs] at e2; injection e2 with e2; omega
            refine ⟨Af', nf', cf', Ag', ng', cg', A6, nh' + 1, c6, _, rfl, V1.out.move G37.out hnf hok, V2.out.move G37.out hnf hok, by simp [V3.out], (G7.out.own O6.out (fun b e hs => (N6.out b e).2.2.2 hs)), (V5.out.move G37.out hnf hok).snoc ⟨false, ki, xb⟩ ?_, fun b hb => by rw [e]; unfold relab; rw [if_pos hb]⟩
            have h4 := RowP.of_own O4.out
            have g46 : Chg w4 w6 (fun b => (Value.slice Ah' nh' ch').ownBlock = some b) := G46.out
            have h6 := (h4.mono (Q := fun b => w3.heap.size ≤ b ∧ b < w4.heap.size) (fun b hb hlt => ⟨hb.1, hlt⟩)).chg g46 (fun b hb hlt hs => by have := (NOG.out b hs).2.2.1; omega)
            have h7 := h6.chg G7.out (fun b hb hlt hs => by have hs : b = g' := hs; omega)
            refine h7.mono (fun b hb hlt => ?_)
            show own' b = some 0
            rw [e]
            unfold relab
            rw [if_neg (fun e2 => ?_), if_pos ⟨hb.1, hlt⟩]
            have h8 := hb.1
            have h9 := hb.2
            rcases HV6.out with h | h
            · rw [h] at e2; have := (NOG.out b e2).2.2.1; omega
            · rw [h] at e2; injection e2 with e2; simp at e2; omega
          · rcases q with _ | _ | _ | q
            · rw [List.getElem?_set_ne (by omega)]; exact hcl2 0 u hq
            · rw [List.getElem?_set_ne (by omega)]; exact hcl2 1 u hq
            · rw [List.getElem?_set_self (by omega)]; exact hq
            · simp at hq)
        have BX7 := Lib.hid (G37.out.blk BX3.out (fun hs => by
          rcases hs with hs | hs
          · have h1 := (FO.out.lt g' rfl).1
            exact NOX.out (by rw [hs, OG2.out]; simp)
          · exact NOX.out (by rw [hs]; simp)))
        have HP7 := Lib.hid (HP3.out.chg G37.out (fun b hb hlt hs => by
          have hb : own3 b = none := hb
          rcases hs with hs | hs
          · rw [hs, OG2.out] at hb; cases hb
          · rw [hs] at hb; cases hb))
        obtain ⟨c7', own7, ho7, fv7, fcs7, A7, n7, cc7, B7, m7, e7, wv7, d7⟩ := id DL7.out
        have CG7 := Lib.hid (And.intro c7' ho7)
        obtain ⟨D2, hD2⟩ : ∃ D2 : Dk, D2 = { D1 with files := D1.files.set f (⟨F.fast, F.now, F.waits ++ [⟨false, ki, xb⟩]⟩ : DFi) } := ⟨_, rfl⟩
        have HD2 := Lib.hid hD2
        rw [← hD2] at d7
        have hF2 : D2.files[f]? = some ⟨F.fast, F.now, F.waits ++ [⟨false, ki, xb⟩]⟩ := by rw [hD2]; exact List.getElem?_set_self HD1L.out
        have HF2 := Lib.hid hF2
        obtain ⟨g7, cap7, hfv7, t1, t2, t3, cs7, _, _, hrg7⟩ := d7.file hF2
        have HFV7 := Lib.hid hfv7
        have DD7 := Lib.hid d7
        have HR := Lib.hid (here_D d7.I hF2 (by show F.now.length ≤ _; have := HMO.out; omega))
        simp only at HR
        have e71 := hrg7
        obtain ⟨b0, b1, b2⟩ := dcC_cells BX7.out
        clear hD2 hF2 hfv7 c7' ho7 ST7 hw7 DL7 d26 z26 CK k1 d2 z0 z1 z2 hrg7 d7
        go_wp2_with fail
        refine HR.out.mono ?_
        rintro e w8 ⟨⟨A8, c8, rfl, o8⟩, s8⟩
        have S8 := Lib.hid s8
        have O8 := Lib.hid o8
        obtain ⟨f1, f2, f3⟩ := dcC_cells (BX7.out.still s8)
        obtain ⟨_, y1, y2, y3⟩ := own_form o8
        have k8 := (DD7.out.still s8).cells.2.1
        rw [HFV7.out] at k8
        obtain ⟨fl8, hfl8⟩ : ∃ fl8, fl8 = D2.files.length := ⟨_, rfl⟩
        have q8 : (f : Int) < (fl8 : Int) := by have := (List.getElem?_eq_some_iff.1 HF2.out).1; omega
        rw [← hfl8] at k8 t1
        have HFL8 := Lib.hid hfl8
        obtain ⟨nl, hnl⟩ : ∃ nl, nl = F.now.length := ⟨_, rfl⟩
        rw [← hnl] at O8
        have HNL := Lib.hid hnl
        clear o8 s8 b0 b1 b2 hfl8
        rw [← hnl]
        clear hnl
        have HB8 := Lib.hid (HP7.out.still S8.out)
        have HNB := Lib.hid (show nl + nb ≤ 140737488355328 by have := HNL.out; have := HMO.out; omega)
        have q9 : True := trivial
        go_wp2_with ((first
          | (guard_target =~ wpList _ _ _ (Oper.mk (some 99) _ _ _ _ _ :: _) _ _; go_must (refine wpList_adds _ rfl _ _ rfl w7.heap.size _ nl F.now rfl O8.out Ab nb cb _ xb rfl HB8.out.reads (fun e => (HB8.out.nil e).2) HNB.out S8.out.size ?_))
          | fail))
        intro v9 w9 o9 g9 _
        obtain ⟨A9, c9, rfl⟩ := own_formN o9
        have S9 := Lib.hid (still_push S8.out O8.out (Nat.le_refl _) g9)
        have O9 := Lib.hid o9
        have FIN := Lib.hid (fun W (hW : W = w9.setCell ⟨g7, f * 3 + 1, none⟩ (.slice A9 (nl + nb) c9)) => (show DLeft w7 W base dk own7 { D1 with files := D1.files.set f (byteFi F ⟨false, ki, xb⟩) } from by
          have h := fnow_end DD7.out HF2.out HFV7.out S9.out O9.out hW
          have e2 : ({ D2 with files := D2.files.set f (⟨F.fast, F.now ++ xb, F.waits ++ [⟨false, ki, xb⟩]⟩ : DFi) } : Dk) = { D1 with files := D1.files.set f (byteFi F ⟨false, ki, xb⟩) } := by
            rw [HD2.out]
            simp only [List.set_set]
            rfl
          rw [← e2]
          exact h))
        have d91 : ∃ old, w9.cell? ⟨g7, f * 3 + 1, none⟩ = some old := by
          obtain ⟨g9, cap9, hfv9, _, _, _, cs9, hl9, _, hr9⟩ := (DD7.out.still S9.out).file HF2.out
          have e9 : g9 = g7 := by
            have := HFV7.out.symm.trans hfv9
            injection this with this
            injection this with this
            injection this with this
            exact this.symm
          rw [e9] at hr9
          exact ⟨_, hr9 1 _ (List.getElem?_eq_getElem (by omega))⟩
        obtain ⟨old, d91⟩ := d91
        have z91 : w9.frozen? ⟨g7, f * 3 + 1, none⟩ = false := by
          have := (DD7.out.still S9.out).fown
          rw [HFV7.out] at this
          exact this.frozenAt _
        have k9 := (DD7.out.still S9.out).cells.2.1
        rw [HFV7.out, ← HFL8.out] at k9
        clear o9 g9 f1 f2 f3 k8
        go_wp2_with fail
        go_ret
        exact ⟨rfl, DLeft.chain (Chg.of_still (Still.trans SB.out SZ.out) _) (fun _ _ => rfl) (DLeft.chain CG.out.1 CG.out.2 (DLeft.chain CG7.out.1 CG7.out.2 (FIN.out _ rfl)))⟩
      · have E : byteD D s ⟨false, ki, xb⟩ = stepD D := by
          rw [E0, hok0, if_neg (by decide), if_neg hz]
        rw [E]
        have e12 := stepD_12 D hz
        rw [e12]
        have SP := Lib.hid (fun W (t : Still wb W) => step_D (hB.still t) hg.left.1 hg.left.2)
        rw [e12] at SP
        obtain ⟨D1, hD1⟩ : ∃ D1, D1 = (stepD D).2 := ⟨_, rfl⟩
        rw [← hD1] at SP ⊢
        have XR := Lib.hid x0
        have XDL := Lib.hid hc.blk.lt
        clear h hc ho E E0 hg hf hd e1 e2 hB x0 hfl hfv hrg r1 r2 r3 r4 r5 r6 hF hcl hfl2 hx hP hroom hz hD1 e12 hok0
        go_enter Tryz.func32, Tryz.ntmps32
        go_upto_region 1 with fail
        rw [← HWB.out]
        go_wp2_with fail
        refine FD.out.mono ?_
        rintro e w1 ⟨rfl, rfl⟩
        go_wp2_with fail
        go_quiet (fail)
        have SQ := Lib.hid (still_drewN (Still.refl w1) nq)
        generalize w1.drewN nq = wq at SQ ⊢
        obtain ⟨xq0, xq1, xq2⟩ := X0.out wq SQ.out
        have xr := (SQ.out.cell (p := ⟨dk, 0, none⟩) XDL.out).trans XR.out
        have HU := Lib.hid (fun i => UD.out (wq.drewN i) (still_drewN SQ.out i))
        clear xc0 xc1 xc2 x1 x7 y1
        go_wp2_with fail
        go_quiet ((go_at_call 67; exact Calls.quiet_of (HU.out _)))
        have SZ := Lib.hid (still_drewN SQ.out nq)
        generalize wq.drewN nq = wz at SZ ⊢
        clear xq0 xq1 xq2 xr HU SQ
        go_wp2_with fail
        refine (SP.out wz SZ.out).mono ?_
        rintro e w3 ⟨rfl, hl⟩
        have HL := Lib.hid (show DLeft w w3 base dk own D1 from DLeft.chain (Chg.of_still (Still.trans SB.out SZ.out) _) (fun _ _ => rfl) hl)
        clear hl
        go_wp2_with fail
        go_ret
        exact ⟨rfl, HL.out⟩
end Go.Proofs.YtljacdbdjacbkaaGreat
