/- Contract: a table made anew. It proves no statement. -/
import Derived.Test.YtlebancjgjcfjaaTbLay
import Derived.Test.YtlebancjgjcfjaaTbRenM
import Derived.Test.YtlebancjgjcfjaaAllocArr
import Derived.Laws.CopyOwn
namespace Go.Proofs.Ytlebancjgjcfjaa
open Go.RowKit
set_option linter.unusedVariables false
set_option linter.unusedSimpArgs false

theorem wpList_made {ops : Array Oper} {rest : List Oper} {o : Oper} {a : Act} {w : World} {Q : Exit → Act → World → Prop} (hg : o.guard = none) (x : Operand) (ho : o.op = .makeSlice 62 x x) (dst : Option Tmp) (hdst : o.dst = dst) (n : Nat) (hx : a.eval x = .int .i64 (n : Int)) (hn : n ≤ 1099511627776)
    (h : wpList Try.prog ops Q rest (a.put dst (.slice (some ⟨w.heap.size, 0, none⟩) n n)) (w.alloc (.cells (madeCells (slL 1 .empty).toArray (n * 34)) 82))) : wpList Try.prog ops Q (o :: rest) a w := by
  refine Go.Great.wpList_runTo hg dst hdst _ _ ?_ h
  unfold execOp
  simp only [ho, hx, Sem.run_bind, run_made n hn w, Result.andThen_ok]
  rfl
/-- What holds in the loop over the elder slots. -/
structure RenW (w wr : World) (g b b2 n : Nat) (S : List Sl) (i : Nat) (Si : List Sl) : Prop where
  tb : TB TT 1 wr g b2 n Si
  ren : Ren 1 n S i Si
  row : SlB wr b 1 S
  chg : Chg w wr (fun q => q = g)
  ne : b2 ≠ b
  new : w.heap.size ≤ b2
section
variable {w wr wC W : World} {g b b2 n i : Nat} {S Si : List Sl}
theorem RenW.skip (h : RenW w wr g b b2 n S i Si) (s : Still wr wC) {x : Sl} (hx : S[i]? = some x) (hf : x.isFull = false) : RenW w wC g b b2 n S (i + 1) Si :=
  ⟨h.tb.still s, h.ren.skip hx hf, h.row.still s, h.chg.trans (Chg.of_still s _) (fun _ _ h => h), h.ne, h.new⟩
theorem RenW.next (h : RenW w wr g b b2 n S i Si) (s : Still wr wC) (hI : Inv 1 S) (hc : NewCap (keysN S) n) {k : List UInt8} {v : List Int} {j : Nat} (hs : S[i]? = some (.full k v)) (hj : Stop Si k j) (he : Si[pos k Si.length j]? = some Sl.empty)
    (hb : b ≠ g) (T : TB TT 1 W g b2 n (Si.set (pos k Si.length j) (.full k v))) (C : Chg wC W (fun q => q = g ∨ q = b2)) : RenW w W g b b2 n S (i + 1) (Si.set (pos k Si.length j) (.full k v)) :=
  ⟨T, h.ren.step hI hc hs hj he, (h.row.still s).chg C (fun e => by
    rcases e with e | e
    · exact hb e
    · exact h.ne e.symm), (h.chg.trans (Chg.of_still s _) (fun _ _ h => h)).trans C (fun x hx e => by
    rcases e with e | e
    · exact e
    · exact absurd hx (by have := h.new; omega)), h.ne, h.new⟩
end
theorem setRow_slot {w : World} {z : Array Value} {s : Sl} (hs : SlOK 1 s) (E : TypeId) : Blk ((w.alloc (.cells z E)).setRow w.heap.size (slL 1 s).toArray) w.heap.size E (slL 1 s).toArray := setRow_heap _ _ _ _ _ _ (heap_alloc_new w _)
theorem slot_aggRow : ∃ fs, Try.prog.underlying 82 = some (.struct fs) := ⟨_, Try.underlying82⟩
set_option maxRecDepth 100000 in
set_option maxHeartbeats 6400000 in
theorem renew_any {w : World} {g b c : Nat} {S : List Sl} (h : TB TT 1 w g b c S) (hS : S.length ≤ 17179869184) :
    Calls Try.prog 34 #[.pointer (some ⟨g, 0, none⟩)] w fun e w' => e = .returned (.tuple #[]) ∧ ∃ b2 n S2, TB TT 1 w' g b2 n S2 ∧ Ren 1 n S S.length S2 ∧ NewCap (keysN S) n ∧ Chg w w' (fun q => q = g) ∧ w.heap.size ≤ b2 := by
  have k0 := h.c0
  have k1 := h.c1
  have KB : keysN S ≤ S.length := by have := h.inv.load; omega
  have hI := Lib.hid h.inv
  have HR := Lib.hid h.row
  have HB := Lib.hid h.box
  have HNE := Lib.hid h.ne
  have GLT := Lib.hid h.box.lt
  obtain ⟨kn, hkn⟩ : ∃ kn, kn = keysN S := ⟨_, rfl⟩
  rw [← hkn] at k1 KB HB ⊢
  have KN := Lib.hid hkn
  obtain ⟨N, hN⟩ : ∃ N, N = S.length := ⟨_, rfl⟩
  rw [← hN] at k0 KB HB hS ⊢
  have HN := Lib.hid hN
  obtain ⟨dn, hdn⟩ : ∃ dn, dn = deadN S := ⟨_, rfl⟩
  rw [← hdn] at HB
  have d3 : (kn : Int) ≤ 17179869184 := by omega
  have d4 : (N : Int) ≤ 17179869184 := by omega
  clear h hkn hN hdn
  go_enter Try.func34, Try.ntmps34
  go_wp2_with fail
  go_loop [2] (fun nv => ∃ n : Nat, nv = .int .i64 n ∧ n < 68719476738 ∧ Hid (∃ e, n = 8 * 2 ^ e ∧ (e = 0 ∨ n < 4 * kn + 2))) (fun nv => 2 * kn + 1 - (intOf nv).toNat)
  case atStart => exact ⟨8, rfl, by omega, Lib.hid ⟨0, rfl, .inl rfl⟩⟩
  case round =>
    obtain ⟨n, rfl, hn, he⟩ := hrel
    have hn0 : 0 < n := by
      obtain ⟨e, he, _⟩ := he.out
      have := Nat.two_pow_pos e
      omega
    have d5 : (n : Int) < 68719476738 := by omega
    by_cases hlt : n < 2 * kn + 1
    · have d6 : (n : Int) < 2 * (kn : Int) + 1 := by omega
      go_wp2_with fail
      go_round
      case rel =>
        refine ⟨n * 2, by go_num, by omega, ?_⟩
        obtain ⟨e, he, _⟩ := he.out
        exact Lib.hid ⟨e + 1, by rw [he, Nat.pow_succ]; omega, .inr (by omega)⟩
      case measure => simp [intOf]; omega
    · have d6 : ¬ (n : Int) < 2 * (kn : Int) + 1 := by omega
      have NC := Lib.hid (show NewCap kn n from by obtain ⟨e, he, h2⟩ := he.out; exact ⟨e, he, by omega, h2⟩)
      clear he hlt
      obtain ⟨b2, hb2⟩ : ∃ b2, b2 = w.heap.size := ⟨_, rfl⟩
      obtain ⟨wA, hwA⟩ : ∃ wA, wA = w.alloc (.cells (madeCells (slL 1 .empty).toArray (n * 34)) 82) := ⟨_, rfl⟩
      have hm := run_made n (by omega) w
      rw [← hwA, ← hb2] at hm
      have RA := SlB.made w 82 1 n
      rw [show n * (33 + 1) = n * 34 from rfl, ← hwA, ← hb2] at RA
      have SA : Still w wA := by rw [hwA]; exact (Still.refl w).alloc (Nat.le_refl _) _
      have BA := HB.out.still SA
      have B3 := ((BA.setc 0 (.slice (some ⟨b2, 0, none⟩) n n)).setc 1 (.int .i64 0)).setc 2 (.int .i64 0)
      obtain ⟨wB, hwB⟩ : ∃ wB, wB = ((wA.setCell ⟨g, 0, none⟩ (.slice (some ⟨b2, 0, none⟩) n n)).setCell ⟨g, 1, none⟩ (.int .i64 0)).setCell ⟨g, 2, none⟩ (.int .i64 0) := ⟨_, rfl⟩
      rw [← hwB] at B3
      have gr := ((grownBy_set wA g 0 (.slice (some ⟨b2, 0, none⟩) n n)).trans (grownBy_set _ g 1 (.int .i64 0))).trans (grownBy_set _ g 2 (.int .i64 0))
      rw [← hwB] at gr
      have CH : Chg w wB (fun q => q = g) := (Chg.of_still SA _).trans (Chg.of_grown gr (S := fun q => q = g) (fun k hk _ => (Option.some.inj hk).symm)) (fun _ _ h => h)
      have gne : b2 ≠ g := by have := GLT.out; omega
      have bne : b2 ≠ b := by have := HR.out.lt; omega
      have R0 := Ren.start (m := 1) S NC.out
      have START := Lib.hid (show RenW w wB g b b2 n S 0 (List.replicate n .empty) from ⟨⟨by
        have e1 : keysN (List.replicate n Sl.empty) = 0 := keysN_rep n
        have e2 : deadN (List.replicate n Sl.empty) = 0 := deadN_rep n
        rw [e1, e2, R0.len]
        exact B3, RA.keep (gr.block b2 RA.lt (fun e => gne (Option.some.inj e))), R0.inv, gne, by rw [R0.len]; omega⟩, R0, (HR.out.still SA).keep (gr.block b (HR.out.still SA).lt (fun e => HNE.out (Option.some.inj e))), CH, bne, by omega⟩)
      have q0 := BA.cell 0
      have q1 := BA.cell 1
      have q2 := BA.cell 2
      have f0 := BA.frozen 0
      have f1 := BA.frozen 1
      have f2 := BA.frozen 2
      simp only [List.getElem?_toArray, List.getElem?_cons_succ, List.getElem?_cons_zero] at q0 q1 q2
      have HM := Lib.hid hm
      have HWB := Lib.hid hwB
      have HB2 := Lib.hid (show b2 = w.heap.size ∧ w.heap.size ≤ b2 from ⟨hb2, by omega⟩)
      have HWA := Lib.hid hwA
      clear hm RA SA BA B3 hwB gr CH gne R0 hwA hb2
      go_upto_region 5 with (guard_target =~ wpList _ _ _ (Oper.mk (some 24) _ _ _ _ _ :: _) _ _; go_must (refine wpList_made rfl (.tmp 23) rfl (some 24) rfl n rfl (by have := NC.out.bd; omega) ?_; rw [← HWA.out, ← HB2.out.1]))
      rw [← HWB.out]
      clear q0 q1 q2 f0 f1 f2 k0 k1
      go_wp2_with fail
      go_loopw [33] (fun iv wr => ∃ i : Nat, i ≤ N ∧ iv = .int .i64 i ∧ Hid (∃ Si, RenW w wr g b b2 n S i Si)) (fun iv _ => N - (intOf iv).toNat)
      case atStart => exact ⟨0, by omega, rfl, Lib.hid ⟨_, START.out⟩⟩
      case round =>
        obtain ⟨i, hi, rfl, RR⟩ := hrel
        have d7 : (i : Int) ≤ (N : Int) := by omega
        by_cases hlt : i < N
        · have d8 : (i : Int) < (N : Int) := by omega
          obtain ⟨Si, R⟩ := RR.out
          have hs : S[i]? = some (slot S i) := slot_eq (by have := HN.out; omega)
          obtain ⟨s, hss⟩ : ∃ s, s = slot S i := ⟨_, rfl⟩
          rw [← hss] at hs
          have ok : SlOK 1 s := hI.out.slOK hs
          have RNG := Lib.hid (show wr.rangeAt b (i * 34) (slL 1 s) from R.row.at_ i s hs)
          have HR1 := Lib.hid R
          have HS := Lib.hid hs
          have SL := Lib.hid (slL_len ok)
          have ONE := Lib.hid (show (slL 1 s).toArray.all (·.oneCell') = true from all_oneCell_toArray (fun v hv => slL_one _ _ v hv))
          obtain ⟨sl, hsl⟩ : ∃ sl, sl = (slL 1 s).toArray := ⟨_, rfl⟩
          have SLE := Lib.hid hsl
          obtain ⟨fs, hu⟩ := slot_aggRow
          have HU := Lib.hid hu
          obtain ⟨gs, hgs⟩ : ∃ gs, gs = wr.heap.size := ⟨_, rfl⟩
          have GS := Lib.hid hgs
          obtain ⟨wC, hwC⟩ : ∃ wC, wC = (wr.alloc (.cells (slL 1 .empty).toArray 82)).setRow gs sl := ⟨_, rfl⟩
          have HWC := Lib.hid hwC
          have SC : Still wr wC := by rw [hwC, hgs]; exact below_setRow ((Still.refl wr).alloc (Nat.le_refl _) _) (Nat.le_refl _) _
          have BC : Blk wC gs 82 sl := by rw [hwC, hgs]; exact setRow_heap _ _ _ _ _ _ (heap_alloc_new wr _)
          have st0 : wC.cell? ⟨gs, 0, none⟩ = some (.int .i64 (s.st : Nat)) := by rw [BC.cell, hsl]; rfl
          have HSC := Lib.hid SC
          have HBC := Lib.hid BC
          clear RR R hs hss ok hsl hu hgs hwC SC BC
          go_upto_region 8 with (first
            | (guard_target =~ wpList _ _ _ (Oper.mk (some 36) _ _ _ _ _ :: _) _ _; go_must (refine wpList_load_mid rfl 82 (.tmp 35) rfl b (i * 34) rfl (slL 1 s) _ RNG.out HU.out rfl (by rw [sizeSlot, SL.out]) ?_); rw [← SLE.out])
            | (guard_target =~ wpList _ _ _ (Oper.mk (some 5) _ _ _ _ _ :: _) _ _; go_must (refine wpList_alloc_arr rfl 82 rfl (some 5) rfl (slL 1 .empty).toArray 34 (by kernel_rfl) ?_); rw [← GS.out])
            | (guard_target =~ wpList _ _ _ (Oper.mk none (Op.store _ _ _) _ _ _ _ :: _) _ _; go_must (refine wpList_store_rowTo rfl 82 (.tmp 5) (.tmp 36) rfl rfl gs sl rfl rfl 82 (slL 1 .empty).toArray (by rw [GS.out]; exact heap_alloc_new wr _) (by rw [sizeSlot, SLE.out, List.size_toArray, SL.out]) (by rw [SLE.out, List.size_toArray, List.size_toArray, SL.out]; exact slL_len (SlOK.empty 1)) (by rw [SLE.out]; exact ONE.out) ?_)))
          rw [← HWC.out]
          cases s with
          | empty =>
            simp only [Sl.st] at st0
            clear hn d5 d3 hn0
            go_wp2_with fail
            go_roundw
            case rel => exact ⟨i + 1, by omega, by go_num, Lib.hid ⟨Si, HR1.out.skip HSC.out HS.out rfl⟩⟩
            case measure => simp [intOf]; omega
          | dead =>
            simp only [Sl.st] at st0
            clear hn d5 d3 hn0
            go_wp2_with fail
            go_roundw
            case rel => exact ⟨i + 1, by omega, by go_num, Lib.hid ⟨Si, HR1.out.skip HSC.out HS.out rfl⟩⟩
            case measure => simp [intOf]; omega
          | full k v =>
            obtain ⟨hk, hv, _⟩ := hI.out.probe i k v HS.out
            obtain ⟨x, rfl⟩ : ∃ x, v = [x] := by
              match v, hv with
              | [x], _ => exact ⟨x, rfl⟩
            obtain ⟨j, hj, he⟩ := HR1.out.ren.stop hI.out HS.out
            have room := HR1.out.ren.room (by rw [← KN.out]; exact NC.out) HS.out
            have LAY := Lib.hid (lay_any (HR1.out.tb.still HSC.out) k x hk (by rw [HR1.out.ren.len]; omega) j hj he room)
            have NEXT := Lib.hid (fun W T C => HR1.out.next HSC.out hI.out (by rw [← KN.out]; exact NC.out) HS.out hj he HNE.out (W := W) T C)
            have v33 : wC.cell? ⟨gs, 33, none⟩ = some (.int .i64 x) := by
              rw [HBC.out.cell, SLE.out, List.getElem?_toArray]
              exact slL_val (m := 1) (s := .full k [x]) (j := 0) ⟨hk, rfl⟩ rfl
            have RK := Lib.hid (show wC.rangeAt gs 1 (bytesV k) from fun q u hq => by
              rw [HBC.out.cell, SLE.out, List.getElem?_toArray]
              exact slL_key (m := 1) (s := .full k [x]) hq)
            have H32 := Lib.hid (show (Try.prog.info? 43).map (·.size) = some (bytesV k).length from by rw [size32, bytesV_length, hk])
            simp only [Sl.st] at st0
            clear hk hv hj he room hn d5 d3 hn0
            go_wp2_with (first
              | (guard_target =~ wpList _ _ _ (Oper.mk (some 42) _ _ _ _ _ :: _) _ _; go_must (refine wpList_load_mid rfl 43 (.tmp 41) rfl gs 1 rfl (bytesV k) _ RK.out under32 rfl H32.out ?_))
              | (go_at_call 35; refine LAY.out.mono ?_; rintro e w3 ⟨rfl, t3, c3⟩; have N3 := Lib.hid (NEXT.out _ t3 c3); clear t3 c3))
            go_roundw
            case rel => exact ⟨i + 1, by omega, by go_num, Lib.hid ⟨_, N3.out⟩⟩
            case measure => simp [intOf]; omega
        · have d8 : ¬ (i : Int) < (N : Int) := by omega
          obtain ⟨Si, R⟩ := RR.out
          have iN : i = N := by omega
          subst iN
          have FIN := Lib.hid (show ∃ b2 n S2, TB TT 1 wr g b2 n S2 ∧ Ren 1 n S i S2 ∧ NewCap kn n ∧ Chg w wr (fun q => q = g) ∧ w.heap.size ≤ b2 from ⟨b2, n, Si, R.tb, R.ren, NC.out, R.chg, R.new⟩)
          clear R RR
          go_wp2_with fail
          go_end0
          exact ⟨rfl, FIN.out⟩
end Go.Proofs.Ytlebancjgjcfjaa
