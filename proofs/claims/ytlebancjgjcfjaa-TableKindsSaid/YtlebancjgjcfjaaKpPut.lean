/- Contracts: Get and Put of a table of places. It proves no statement. -/
import Derived.Test.YtlebancjgjcfjaaKpGet
namespace Go.Proofs.Ytlebancjgjcfjaa.Pl
open Go.RowKit
set_option linter.unusedVariables false
set_option linter.unusedSimpArgs false

theorem results_cellT {fn : Func} {p u : Tmp} {P : Program} {ty : TypeId} (h : fn.results = #[.cell p ty, .tmp u]) (tmps : Array Value) (w : World) (g : Nat) (t : TypeId) (cs : Array Value) (fr : Nat × Nat) (d : TypeDesc)
    (hp : tmps.getD p undef = .pointer (some ⟨g, 0, none⟩)) (hg : w.heap[g]? = some (.cells cs t fr))
    (hu : P.underlying ty = some d) (hd : (match d with | .struct _ | .array _ _ => true | _ => false) = true) (hi : (P.info? ty).map (·.size) = some cs.size) :
    (results fn tmps).run P w = .ok (.tuple #[.agg cs, tmps.getD u undef]) w := by
  rw [results_cell_tmp h, hp]
  simp [asAddr, run_loadVar_row w g t ty cs fr d hg hu hd hi, Result.andThen]
theorem zeroVal : (Try.prog.info? 36).map (fun i => (i.zero, i.size)) = some (some (.agg (intsV (List.replicate 3 0))), 3) := by kernel_rfl
theorem ints_one' (v : List Int) : (intsV v).all (·.oneCell') = true := all_oneCell_toArray (ints_one v)
theorem intsV_size (v : List Int) : (intsV v).size = v.length := by simp [intsV]
set_option maxRecDepth 100000 in
set_option maxHeartbeats 1600000 in
theorem get_yes {w : World} {g b cp dd : Nat} {L : List KV} (h : Tb w g b L cp dd) (k : List UInt8) (v : List Int) (hv : v.length = 3) (hk : k.length = 32) (hl : L.length ≤ 1073741824) (hx : (k, v) ∈ L) :
    Calls Try.prog 13 #[.pointer (some ⟨g, 0, none⟩), .agg (bytesV k).toArray] w fun e w' => e = .returned (.tuple #[.agg (intsV v), .bool true]) ∧ Still w w' := by
  have hcp := h.cpb hl
  obtain ⟨⟨c, S, t, a, rfl, rfl⟩, gd⟩ := h
  obtain ⟨j, hj⟩ := t.inv.stop_ex k
  obtain ⟨wA, gk, kv, KB⟩ := keyBox w k hk
  rcases a.find t.inv hj with ⟨_, v', hp, hv'⟩ | ⟨hn, _⟩
  case inr => exact absurd hx (hasL_no.1 hn _)
  have e := a.rise.uniq hv' hx
  subst e
  obtain ⟨z0, hz0⟩ : ∃ z, z = intsV (List.replicate 3 0) := ⟨_, rfl⟩
  obtain ⟨wB, hwB⟩ : ∃ wB, wB = wA.alloc (.cells z0 36) := ⟨_, rfl⟩
  obtain ⟨g4, hg4⟩ : ∃ g4, g4 = wA.heap.size := ⟨_, rfl⟩
  have sB : Still wA wB := by rw [hwB]; exact (Still.refl wA).alloc (Nat.le_refl _) _
  have bB : Blk wB g4 36 z0 := by rw [hwB, hg4]; exact Blk.new wA _ _
  have ZV := Lib.hid (show (Try.prog.info? 36).map (fun i => (i.zero, i.size)) = some (some (.agg z0), 3) by rw [hz0]; exact zeroVal)
  have ZS := Lib.hid (show z0.size = 3 by rw [hz0, intsV_size]; rfl)
  have FI := Lib.hid (find_at (t.still (Still.trans KB.still sB)) k hk (by omega) j hj true _ hp rfl)
  have VAL := Lib.hid (fun W (s : Still wB W) => show W.rangeAt b (pos k S.length j * 36 + 33) (v'.map (Value.int .i64)) from ((t.still (Still.trans KB.still sB)).still s).row.val hp (t.inv.slOK hp))
  have B4 := Lib.hid (fun W (s : Still wB W) => bB.still s)
  have VS := Lib.hid (show (intsV v').size = 3 by rw [intsV_size, hv])
  have G4 := Lib.hid (show w.heap.size ≤ g4 by have := KB.still.size; omega)
  obtain ⟨fs, hu⟩ := underVal
  have UV := Lib.hid hu
  have SV := Lib.hid (show (Try.prog.info? 36).map (·.size) = some (v'.map (Value.int .i64)).length from by rw [sizeVal, List.length_map, hv])
  have HB := Lib.hid KB
  have SB := Lib.hid sB
  have HWB := Lib.hid hwB
  have HG4 := Lib.hid hg4
  rw [← KB.hkv] at FI ⊢
  obtain ⟨vv, hvv⟩ : ∃ vv, vv = intsV v' := ⟨_, rfl⟩
  have O1 := Lib.hid (show vv.all (·.oneCell') = true by rw [hvv]; exact ints_one' v')
  rw [← hvv] at VS ⊢
  have HVV := Lib.hid hvv
  generalize pos k S.length j = y at FI VAL
  clear KB t a gd hj hp hv' hx hcp hl hk sB bB hwB hg4 hz0 hu hvv hv
  go_enter Try.func13, Try.ntmps13
  go_upto_region 1 with (first
    | (guard_target =~ wpList _ _ _ (Oper.mk (some 3) _ _ _ _ _ :: _) _ _; go_must (refine wpList_box_val rfl 43 (.tmp 1) rfl (some 3) rfl kv rfl ?_); rw [← HB.out.hwA, ← HB.out.hgk])
    | (guard_target =~ wpList _ _ _ (Oper.mk (some 4) _ _ _ _ _ :: _) _ _; go_must (refine wpList_alloc_arr rfl 36 rfl (some 4) rfl z0 3 ZV.out ?_); rw [← HWB.out, ← HG4.out]))
  go_wp2_with (first
    | (guard_target =~ wpList _ _ _ (Oper.mk (some 9) _ _ _ _ _ :: _) _ _; go_must (refine wpList_load_mid rfl 43 (.tmp 3) rfl gk 0 rfl (bytesV k) _ (HB.out.reads _ SB.out) under32 rfl HB.out.size ?_); rw [← HB.out.hkv])
    | (guard_target =~ wpList _ _ _ (Oper.mk (some 17) _ _ _ _ _ :: _) _ _; go_must (refine wpList_load_mid rfl 36 (.tmp 16) rfl b (y * 36 + 33) rfl (v'.map (Value.int .i64)) _ (VAL.out _ S1.out) UV.out rfl SV.out ?_); change wpList _ _ _ _ (Act.put _ _ (.agg (intsV v'))) _; rw [← HVV.out])
    | (guard_target =~ wpList _ _ _ (Oper.mk none (Op.store _ _ _) _ _ _ _ :: _) _ _; go_must (refine wpList_store_rowTo rfl 36 (.tmp 4) (.tmp 17) rfl rfl g4 vv rfl rfl 36 _ (B4.out _ S1.out) (by rw [sizeVal, VS.out]) (by rw [ZS.out, VS.out]) O1.out ?_))
    | (go_at_call 26; refine FI.out.mono ?_; rintro e w1 ⟨rfl, s1⟩; have S1 := Lib.hid s1; clear s1))
  refine bodyPost_ret (results_cellT rfl _ _ g4 _ _ _ _ rfl (setRow_heap w1 _ _ _ _ _ (B4.out _ S1.out)) UV.out rfl (by rw [sizeVal, VS.out])) rfl ?_
  exact ⟨rfl, below_setRow (Still.trans HB.out.still (Still.trans SB.out S1.out)) G4.out _⟩
set_option maxRecDepth 100000 in
set_option maxHeartbeats 1600000 in
theorem get_no {w : World} {g b cp dd : Nat} {L : List KV} (h : Tb w g b L cp dd) (k : List UInt8) (hk : k.length = 32) (hl : L.length ≤ 1073741824) (hx : hasL k L = false) :
    Calls Try.prog 13 #[.pointer (some ⟨g, 0, none⟩), .agg (bytesV k).toArray] w fun e w' => e = .returned (.tuple #[.agg (intsV (List.replicate 3 0)), .bool false]) ∧ Still w w' := by
  have hcp := h.cpb hl
  obtain ⟨⟨c, S, t, a, rfl, rfl⟩, gd⟩ := h
  obtain ⟨j, hj⟩ := t.inv.stop_ex k
  obtain ⟨wA, gk, kv, KB⟩ := keyBox w k hk
  rcases a.find t.inv hj with ⟨hy, _⟩ | ⟨_, hp⟩
  case inl => rw [hx] at hy; cases hy
  obtain ⟨z0, hz0⟩ : ∃ z, z = intsV (List.replicate 3 0) := ⟨_, rfl⟩
  obtain ⟨wB, hwB⟩ : ∃ wB, wB = wA.alloc (.cells z0 36) := ⟨_, rfl⟩
  obtain ⟨g4, hg4⟩ : ∃ g4, g4 = wA.heap.size := ⟨_, rfl⟩
  have sB : Still wA wB := by rw [hwB]; exact (Still.refl wA).alloc (Nat.le_refl _) _
  have bB : Blk wB g4 36 z0 := by rw [hwB, hg4]; exact Blk.new wA _ _
  have ZV := Lib.hid (show (Try.prog.info? 36).map (fun i => (i.zero, i.size)) = some (some (.agg z0), 3) by rw [hz0]; exact zeroVal)
  have ZS := Lib.hid (show z0.size = 3 by rw [hz0, intsV_size]; rfl)
  have O1 := Lib.hid (show z0.all (·.oneCell') = true by rw [hz0]; exact ints_one' _)
  have FI := Lib.hid (find_at (t.still (Still.trans KB.still sB)) k hk (by omega) j hj false _ hp rfl)
  have B4 := Lib.hid (fun W (s : Still wB W) => bB.still s)
  have G4 := Lib.hid (show w.heap.size ≤ g4 by have := KB.still.size; omega)
  obtain ⟨fs, hu⟩ := underVal
  have UV := Lib.hid hu
  have HB := Lib.hid KB
  have SB := Lib.hid sB
  have HWB := Lib.hid hwB
  have HG4 := Lib.hid hg4
  rw [← hz0]
  rw [← KB.hkv] at FI ⊢
  generalize pos k S.length j = y at FI
  clear KB t a gd hj hp hx hcp hl hk sB bB hwB hg4 hz0 hu
  go_enter Try.func13, Try.ntmps13
  go_upto_region 1 with (first
    | (guard_target =~ wpList _ _ _ (Oper.mk (some 3) _ _ _ _ _ :: _) _ _; go_must (refine wpList_box_val rfl 43 (.tmp 1) rfl (some 3) rfl kv rfl ?_); rw [← HB.out.hwA, ← HB.out.hgk])
    | (guard_target =~ wpList _ _ _ (Oper.mk (some 4) _ _ _ _ _ :: _) _ _; go_must (refine wpList_alloc_arr rfl 36 rfl (some 4) rfl z0 3 ZV.out ?_); rw [← HWB.out, ← HG4.out]))
  go_upto_region 3 with (first
    | (guard_target =~ wpList _ _ _ (Oper.mk (some 9) _ _ _ _ _ :: _) _ _; go_must (refine wpList_load_mid rfl 43 (.tmp 3) rfl gk 0 rfl (bytesV k) _ (HB.out.reads _ SB.out) under32 rfl HB.out.size ?_); rw [← HB.out.hkv])
    | (go_at_call 26; refine FI.out.mono ?_; rintro e w1 ⟨rfl, s1⟩; have S1 := Lib.hid s1; clear s1))
  obtain ⟨wC, hwC⟩ : ∃ wC, wC = w1.alloc (.cells z0 36) := ⟨_, rfl⟩
  obtain ⟨g7, hg7⟩ : ∃ g7, g7 = w1.heap.size := ⟨_, rfl⟩
  have S2 := Lib.hid (show Still wB wC by rw [hwC]; exact S1.out.alloc S1.out.size _)
  have B7 := Lib.hid (show Blk wC g7 36 z0 by rw [hwC, hg7]; exact Blk.new w1 _ _)
  have HWC := Lib.hid hwC
  have HG7 := Lib.hid hg7
  clear hwC hg7
  go_upto_region 4 with (guard_target =~ wpList _ _ _ (Oper.mk (some 7) _ _ _ _ _ :: _) _ _; go_must (refine wpList_alloc_arr rfl 36 rfl (some 7) rfl z0 3 ZV.out ?_); rw [← HWC.out, ← HG7.out])
  go_wp2_with (first
    | (guard_target =~ wpList _ _ _ (Oper.mk (some 13) _ _ _ _ _ :: _) _ _; go_must (refine wpList_load_row rfl 36 (.tmp 7) rfl g7 rfl _ z0 _ _ B7.out UV.out rfl (by rw [sizeVal, ZS.out]) ?_))
    | (guard_target =~ wpList _ _ _ (Oper.mk none (Op.store _ _ _) _ _ _ _ :: _) _ _; go_must (refine wpList_store_rowTo rfl 36 (.tmp 4) (.tmp 13) rfl rfl g4 z0 rfl rfl 36 _ (B4.out _ S2.out) (by rw [sizeVal, ZS.out]) rfl O1.out ?_)))
  refine bodyPost_ret (results_cellT rfl _ _ g4 _ _ _ _ rfl (setRow_heap wC _ _ _ _ _ (B4.out _ S2.out)) UV.out rfl (by rw [sizeVal, ZS.out])) rfl ?_
  exact ⟨rfl, below_setRow (Still.trans HB.out.still (Still.trans SB.out S2.out)) G4.out _⟩
/-- What Put leaves. -/
def PutP (w w' : World) (g b : Nat) (L : List KV) (cp dd : Nat) (k : List UInt8) (v : List Int) : Prop :=
  ∃ b' cp' dd', Tb w' g b' (insL k v L) cp' dd' ∧ PutR k L cp dd cp' dd' ∧ (b' = b ∨ w.heap.size ≤ b') ∧ Chg w w' (fun q => q = g ∨ q = b)
set_option maxRecDepth 100000 in
set_option maxHeartbeats 3200000 in
theorem put_any {w : World} {g b cp dd : Nat} {L : List KV} (h : Tb w g b L cp dd) (k : List UInt8) (u : List Int) (hu32 : u.length = 3) (hk : k.length = 32) (hl : L.length ≤ 1073741824) :
    Calls Try.prog 11 #[.pointer (some ⟨g, 0, none⟩), .agg (bytesV k).toArray, .agg (intsV u)] w fun e w' => e = .returned (.tuple #[]) ∧ PutP w w' g b L cp dd k u := by
  have hcp := h.cpb hl
  have HR := Lib.hid h.rise
  obtain ⟨⟨c, S, t, a, hcpe, hdde⟩, gd⟩ := h
  obtain ⟨j, hj⟩ := t.inv.stop_ex k
  obtain ⟨wA, gk, gv, kv, vv, KB⟩ := kvBox w k u 36 hk
  have tA := t.still KB.still
  obtain ⟨fs, hu⟩ := underVal
  have UV := Lib.hid hu
  have SV := Lib.hid (show (Try.prog.info? 36).map (·.size) = some (u.map (Value.int .i64)).length from by rw [sizeVal, List.length_map, hu32])
  have VS := Lib.hid (show (intsV u).size = 3 by rw [intsV_size, hu32])
  have O1 := Lib.hid (ints_one' u)
  have U3 := Lib.hid hu32
  rcases a.find t.inv hj with ⟨hy, v, hp, hv⟩ | ⟨hn, hp⟩
  · have ov := t.inv.over hp (v' := u) hu32
    have FI := Lib.hid (find_at tA k hk (by omega) j hj true _ hp rfl)
    have WY := Lib.hid (works_yes tA)
    have TH := Lib.hid (fun W (s : Still wA W) => show W.there b (pos k S.length j * 36 + 33) 3 from fun q hq => by
      have := (tA.still s).row.there hp (t.inv.slOK hp) (33 + q) (by omega)
      rwa [← Nat.add_assoc] at this)
    have FIN := Lib.hid (fun W (s : Still wA W) => show PutP w (W.setCells b (pos k S.length j * 36 + 33) (u.map (Value.int .i64))) g b L cp dd k u from by
      have tW := tA.still s
      have c1 := Chg.of_grown (grown_setC (g := b) (u.map (Value.int .i64)) (pos k S.length j * 36 + 33) W) (S := fun q => q = b) (fun k hk _ => (Option.some.inj hk).symm)
      have r := tW.row.setVal (fun i s hi => t.inv.slOK hi) hp (v' := u) hu32
      refine ⟨b, cp, dd, ⟨⟨c, S.set (pos k S.length j) (.full k u), ⟨?_, r, ov.1, t.ne, by rw [List.length_set]; exact t.cap⟩, a.over t.inv hp hu32, by rw [List.length_set]; exact hcpe, by rw [ov.2.2.1]; exact hdde⟩, PutR.gd (cp := cp) (dd := dd) (dd' := dd) (by unfold PutR; rw [hy]; simp) HR.out gd⟩, by unfold PutR; rw [hy]; simp, .inl rfl, (Chg.of_still (Still.trans KB.still s) _).trans c1 (fun _ _ h => .inr h)⟩
      rw [List.length_set, ov.2.1, ov.2.2.1]
      exact c1.blk tW.box (fun e => t.ne e.symm))
    have HB := Lib.hid KB
    rw [← KB.hkv] at FI ⊢
    rw [← KB.hvv] at VS O1 ⊢
    generalize pos k S.length j = y at FI TH FIN
    clear KB t tA a gd hj hp hv hcp hl hk ov hy HR hcpe hdde hu hu32
    go_enter Try.func11, Try.ntmps11
    go_upto_region 1 with (first
      | (guard_target =~ wpList _ _ _ (Oper.mk (some 4) _ _ _ _ _ :: _) _ _; go_must (refine wpList_box_val rfl 43 (.tmp 1) rfl (some 4) rfl kv rfl ?_))
      | (guard_target =~ wpList _ _ _ (Oper.mk (some 5) _ _ _ _ _ :: _) _ _; go_must (refine wpList_box_val rfl 36 (.tmp 2) rfl (some 5) rfl vv rfl ?_)))
    rw [← HB.out.eq, ← HB.out.hgv, ← HB.out.hgk]
    go_wp2_with (first
      | (guard_target =~ wpList _ _ _ (Oper.mk (some 11) _ _ _ _ _ :: _) _ _; go_must (refine wpList_load_mid rfl 43 (.tmp 4) rfl gk 0 rfl (bytesV k) _ (HB.out.reads _ (Still.refl _)) under32 rfl HB.out.size ?_); rw [← HB.out.hkv])
      | (go_at_call 25; refine WY.out.mono ?_; rintro e w1 ⟨rfl, rfl⟩)
      | (go_at_call 26; refine FI.out.mono ?_; rintro e w1 ⟨rfl, s1⟩; have S1 := Lib.hid s1; clear s1)
      | (guard_target =~ wpList _ _ _ (Oper.mk (some 16) _ _ _ _ _ :: _) _ _; go_must (refine wpList_load_mid rfl 36 (.tmp 5) rfl gv 0 rfl (u.map (Value.int .i64)) _ (HB.out.vals _ S1.out) UV.out rfl SV.out ?_); change wpList _ _ _ _ (Act.put _ _ (.agg (intsV u))) _; rw [← HB.out.hvv])
      | (guard_target =~ wpList _ _ _ (Oper.mk none (Op.store _ _ _) _ _ _ _ :: _) _ _; go_must (refine wpList_store_mid rfl 36 (.tmp 18) (.tmp 16) rfl b (y * 36 + 33) vv rfl rfl (by rw [VS.out]; exact TH.out _ S1.out) (by rw [sizeVal, VS.out]) O1.out ?_); rw [show vv.toList = u.map (Value.int .i64) by rw [HB.out.hvv]; rfl]))
    (try simp only [Exit.inBlock, Exit.then]); refine bodyPost_ret (results_none rfl _ _ _) rfl ?_
    exact ⟨rfl, FIN.out _ S1.out⟩
  · have FI := Lib.hid (find_at tA k hk (by omega) j hj false _ hp rfl)
    have WY := Lib.hid (works_yes tA)
    have HI := Lib.hid t.inv
    have C0 := Lib.hid (fun W (s : Still wA W) => (tA.still s).c0)
    have C1 := Lib.hid (fun W (s : Still wA W) => (tA.still s).c1)
    have C2 := Lib.hid (fun W (s : Still wA W) => (tA.still s).c2)
    have hK : keysN S ≤ S.length := by have := t.inv.load; omega
    have hD : deadN S ≤ S.length := by have := t.inv.load; omega
    have REN := Lib.hid (fun W (s : Still wA W) => renew_any (tA.still s) (by omega))
    have HB := Lib.hid KB
    have AB := Lib.hid a
    have GD := Lib.hid gd
    have HN := Lib.hid hn
    have HK := Lib.hid hk
    have HGK := Lib.hid (show gk < wA.heap.size ∧ gk ≠ g from ⟨KB.lt.1, by have := t.box.lt; have := KB.hgk; omega⟩)
    have HGV := Lib.hid (show gv < wA.heap.size ∧ gv ≠ g from ⟨KB.lt.2, by have h1 := t.box.lt; have h2 := KB.hgv; have h3 : (w.alloc (.cells kv 43)).heap.size = w.heap.size + 1 := (by simp); omega⟩)
    by_cases hroom : 3 * S.length < 4 * (keysN S + deadN S + 1)
    · have NEXT := Lib.hid (fun (W : World) (s : Still wA W) (W1 : World) b2 n S2 (T : TB TT 3 W1 g b2 n S2) (R : Ren 3 n S S.length S2) (N : NewCap (keysN S) n) (C : Chg W W1 (fun q => q = g)) (hb2 : W.heap.size ≤ b2) =>
        show Calls Try.prog 28 #[.pointer (some ⟨g, 0, none⟩), .agg (bytesV k).toArray, .agg (intsV u)] W1 fun e w' => e = .returned (.tuple #[]) ∧ PutP w w' g b L cp dd k u from by
          obtain ⟨j2, hj2⟩ := T.inv.stop_ex k
          have hp2 : S2[pos k S2.length j2]? = some Sl.empty := by
            rcases (AB.out.ren R).find T.inv hj2 with ⟨hy, _⟩ | ⟨_, e⟩
            · rw [HN.out] at hy; cases hy
            · exact e
          have hb := N.bd
          have rm : 4 * (keysN S2 + 1 + deadN S2) ≤ 3 * S2.length := by
            rw [R.all.1, R.dead, R.len]
            omega
          refine (lay_any T k u U3.out HK.out (by rw [R.len]; omega) j2 hj2 hp2 rm).mono ?_
          rintro e w' ⟨he, T', C'⟩
          obtain ⟨_, _, D', _⟩ := T.inv.more hj2 hp2 HK.out (v := u) U3.out rm
          have PR : PutR k L cp dd n 0 := by
            unfold PutR
            rw [HN.out, ← AB.out.len, ← hcpe, ← hdde]
            simp only [Bool.false_eq_true, if_false]
            rw [if_pos hroom]
            first | exact ⟨N, rfl⟩ | exact ⟨N, trivial⟩
          have hbw : w.heap.size ≤ b2 := Nat.le_trans (Still.trans HB.out.still s).size hb2
          refine ⟨he, b2, n, 0, ⟨⟨n, _, T', (AB.out.ren R).more T.inv hj2 hp2 HK.out U3.out rm, by rw [List.length_set]; exact R.len, by rw [D']; exact R.dead⟩, PR.gd HR.out GD.out⟩, PR, .inr hbw, ?_⟩
          have c1 := (Chg.of_still (Still.trans HB.out.still s) (fun q => q = g ∨ q = b)).trans C (fun _ _ h => .inl h)
          exact c1.trans C' (fun q hq h => by
            rcases h with h | h
            · exact .inl h
            · exact absurd hq (by omega)))
      rw [← KB.hkv] at FI NEXT ⊢
      rw [← KB.hvv] at NEXT ⊢
      obtain ⟨kn, hkn⟩ : ∃ kn, kn = keysN S := ⟨_, rfl⟩
      obtain ⟨n, hnn⟩ : ∃ n, n = S.length := ⟨_, rfl⟩
      obtain ⟨dn, hdn⟩ : ∃ dn, dn = deadN S := ⟨_, rfl⟩
      rw [← hkn, ← hnn, ← hdn] at hroom
      rw [← hkn] at C1 hK
      rw [← hnn] at C0 hK hD
      rw [← hdn] at C2 hD
      have hnb : n ≤ 8589934592 := by omega
      have d1 : 3 * (n : Int) < 4 * ((kn : Int) + (dn : Int) + 1) := by omega
      have d2 : (n : Int) ≤ 8589934592 := by omega
      have d3 : (kn : Int) ≤ 8589934592 := by omega
      have d4 : (dn : Int) ≤ 8589934592 := by omega
      clear KB t tA a gd hj hp hcp hl hk hn HR hcpe hdde hkn hnn hdn hroom hK hD hnb hu hu32
      go_enter Try.func11, Try.ntmps11
      go_upto_region 1 with (first
        | (guard_target =~ wpList _ _ _ (Oper.mk (some 4) _ _ _ _ _ :: _) _ _; go_must (refine wpList_box_val rfl 43 (.tmp 1) rfl (some 4) rfl kv rfl ?_))
        | (guard_target =~ wpList _ _ _ (Oper.mk (some 5) _ _ _ _ _ :: _) _ _; go_must (refine wpList_box_val rfl 36 (.tmp 2) rfl (some 5) rfl vv rfl ?_)))
      rw [← HB.out.eq, ← HB.out.hgv, ← HB.out.hgk]
      go_upto_region 5 with (first
        | (guard_target =~ wpList _ _ _ (Oper.mk (some 11) _ _ _ _ _ :: _) _ _; go_must (refine wpList_load_mid rfl 43 (.tmp 4) rfl gk 0 rfl (bytesV k) _ (HB.out.reads _ (Still.refl _)) under32 rfl HB.out.size ?_); rw [← HB.out.hkv])
        | (go_at_call 25; refine WY.out.mono ?_; rintro e w1 ⟨rfl, rfl⟩)
        | (go_at_call 26; refine FI.out.mono ?_; rintro e w1 ⟨rfl, s1⟩; have S1 := Lib.hid s1; have k0 := C0.out _ s1; have k1 := C1.out _ s1; have k2 := C2.out _ s1; clear s1))
      go_quiet (fail)
      have S2 := Lib.hid (show Still wA (w1.drewN nq) from still_drewN S1.out nq)
      clear k0 k1 k2
      go_wp2_with (first
        | (guard_target =~ wpList _ _ _ (Oper.mk (some 40) _ _ _ _ _ :: _) _ _; go_must (refine wpList_load_mid rfl 43 (.tmp 4) rfl gk 0 rfl (bytesV k) _ (RD3.out) under32 rfl HB.out.size ?_); rw [← HB.out.hkv])
        | (guard_target =~ wpList _ _ _ (Oper.mk (some 41) _ _ _ _ _ :: _) _ _; go_must (refine wpList_load_mid rfl 36 (.tmp 5) rfl gv 0 rfl (u.map (Value.int .i64)) _ (RV3.out) UV.out rfl SV.out ?_); change wpList _ _ _ _ (Act.put _ _ (.agg (intsV u))) _; rw [← HB.out.hvv])
        | (go_at_call 27; refine (REN.out _ S2.out).mono ?_; rintro e w3 ⟨rfl, b2, n2, S3, T3, R3, N3, C3, hb3⟩; have NX := Lib.hid (NEXT.out _ S2.out _ _ _ _ T3 R3 N3 C3 hb3); have RD3 := Lib.hid (show w3.rangeAt gk 0 (bytesV k) from fun q x hq => (World.cell?_of_block (w := w1.drewN nq) (C3.block gk (Nat.lt_of_lt_of_le HGK.out.1 S2.out.size) HGK.out.2)).trans (HB.out.reads _ S2.out q x hq)); have RV3 := Lib.hid (show w3.rangeAt gv 0 (u.map (Value.int .i64)) from fun q x hq => (World.cell?_of_block (w := w1.drewN nq) (C3.block gv (Nat.lt_of_lt_of_le HGV.out.1 S2.out.size) HGV.out.2)).trans (HB.out.vals _ S2.out q x hq)); clear T3 R3 N3 C3 hb3)
        | (go_at_call 28; refine NX.out.mono ?_; rintro e w4 ⟨rfl, p4⟩; have P4 := Lib.hid p4; clear p4))
      go_end0
      exact ⟨rfl, P4.out⟩
    · have NEXT := Lib.hid (fun (W : World) (s : Still wA W) =>
        show Calls Try.prog 28 #[.pointer (some ⟨g, 0, none⟩), .agg (bytesV k).toArray, .agg (intsV u)] W fun e w' => e = .returned (.tuple #[]) ∧ PutP w w' g b L cp dd k u from by
          have rm : 4 * (keysN S + 1 + deadN S) ≤ 3 * S.length := by omega
          refine (lay_any (tA.still s) k u U3.out HK.out (by omega) j hj hp rm).mono ?_
          rintro e w' ⟨he, T', C'⟩
          obtain ⟨_, _, D', _⟩ := HI.out.more hj hp HK.out (v := u) U3.out rm
          have PR : PutR k L cp dd cp dd := by
            unfold PutR
            rw [HN.out, ← AB.out.len, ← hcpe, ← hdde]
            simp only [Bool.false_eq_true, if_false]
            rw [if_neg hroom]
            first | exact ⟨rfl, rfl⟩ | exact ⟨trivial, trivial⟩ | trivial
          refine ⟨he, b, cp, dd, ⟨⟨c, _, T', AB.out.more HI.out hj hp HK.out U3.out rm, by rw [List.length_set]; exact hcpe, by rw [D']; exact hdde⟩, PR.gd HR.out GD.out⟩, PR, .inl rfl, ?_⟩
          exact (Chg.of_still (Still.trans HB.out.still s) (fun q => q = g ∨ q = b)).trans C' (fun _ _ h => h))
      rw [← KB.hkv] at FI NEXT ⊢
      rw [← KB.hvv] at NEXT ⊢
      obtain ⟨kn, hkn⟩ : ∃ kn, kn = keysN S := ⟨_, rfl⟩
      obtain ⟨n, hnn⟩ : ∃ n, n = S.length := ⟨_, rfl⟩
      obtain ⟨dn, hdn⟩ : ∃ dn, dn = deadN S := ⟨_, rfl⟩
      rw [← hkn, ← hnn, ← hdn] at hroom
      rw [← hkn] at C1 hK
      rw [← hnn] at C0 hK hD
      rw [← hdn] at C2 hD
      have hnb : n ≤ 8589934592 := by omega
      have d1 : ¬ 3 * (n : Int) < 4 * ((kn : Int) + (dn : Int) + 1) := by omega
      have d2 : (n : Int) ≤ 8589934592 := by omega
      have d3 : (kn : Int) ≤ 8589934592 := by omega
      have d4 : (dn : Int) ≤ 8589934592 := by omega
      clear KB t tA a gd hj hp hcp hl hk hn HR hcpe hdde hkn hnn hdn hroom hK hD hnb hu hu32
      go_enter Try.func11, Try.ntmps11
      go_upto_region 1 with (first
        | (guard_target =~ wpList _ _ _ (Oper.mk (some 4) _ _ _ _ _ :: _) _ _; go_must (refine wpList_box_val rfl 43 (.tmp 1) rfl (some 4) rfl kv rfl ?_))
        | (guard_target =~ wpList _ _ _ (Oper.mk (some 5) _ _ _ _ _ :: _) _ _; go_must (refine wpList_box_val rfl 36 (.tmp 2) rfl (some 5) rfl vv rfl ?_)))
      rw [← HB.out.eq, ← HB.out.hgv, ← HB.out.hgk]
      go_upto_region 5 with (first
        | (guard_target =~ wpList _ _ _ (Oper.mk (some 11) _ _ _ _ _ :: _) _ _; go_must (refine wpList_load_mid rfl 43 (.tmp 4) rfl gk 0 rfl (bytesV k) _ (HB.out.reads _ (Still.refl _)) under32 rfl HB.out.size ?_); rw [← HB.out.hkv])
        | (go_at_call 25; refine WY.out.mono ?_; rintro e w1 ⟨rfl, rfl⟩)
        | (go_at_call 26; refine FI.out.mono ?_; rintro e w1 ⟨rfl, s1⟩; have S1 := Lib.hid s1; have k0 := C0.out _ s1; have k1 := C1.out _ s1; have k2 := C2.out _ s1; clear s1))
      go_quiet (fail)
      have S2 := Lib.hid (show Still wA (w1.drewN nq) from still_drewN S1.out nq)
      clear k0 k1 k2
      go_wp2_with (first
        | (guard_target =~ wpList _ _ _ (Oper.mk (some 40) _ _ _ _ _ :: _) _ _; go_must (refine wpList_load_mid rfl 43 (.tmp 4) rfl gk 0 rfl (bytesV k) _ (HB.out.reads _ S2.out) under32 rfl HB.out.size ?_); rw [← HB.out.hkv])
        | (guard_target =~ wpList _ _ _ (Oper.mk (some 41) _ _ _ _ _ :: _) _ _; go_must (refine wpList_load_mid rfl 36 (.tmp 5) rfl gv 0 rfl (u.map (Value.int .i64)) _ (HB.out.vals _ S2.out) UV.out rfl SV.out ?_); change wpList _ _ _ _ (Act.put _ _ (.agg (intsV u))) _; rw [← HB.out.hvv])
        | (go_at_call 28; refine (NEXT.out _ S2.out).mono ?_; rintro e w4 ⟨rfl, p4⟩; have P4 := Lib.hid p4; clear p4))
      go_end0
      exact ⟨rfl, P4.out⟩
end Go.Proofs.Ytlebancjgjcfjaa.Pl
