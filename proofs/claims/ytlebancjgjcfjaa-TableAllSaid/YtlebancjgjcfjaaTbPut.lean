/- Contracts: Get, Put and Delete of a table. It proves no statement. -/
import Derived.Test.YtlebancjgjcfjaaTbGet
import Derived.Test.YtlebancjgjcfjaaKeyBox
namespace Go.Proofs.Ytlebancjgjcfjaa
open Go.RowKit
set_option linter.unusedVariables false
set_option linter.unusedSimpArgs false

set_option maxRecDepth 100000 in
set_option maxHeartbeats 1600000 in
theorem get_yes {w : World} {g b cp dd : Nat} {L : List KV} (h : Tb w g b L cp dd) (k : List UInt8) (x : Int) (hk : k.length = 32) (hl : L.length ≤ 1073741824) (hx : (k, [x]) ∈ L) :
    Calls Try.prog 22 #[.pointer (some ⟨g, 0, none⟩), .agg (bytesV k).toArray] w fun e w' => e = .returned (.tuple #[.int .i64 x, .bool true]) ∧ Still w w' := by
  have hcp := h.cpb hl
  obtain ⟨⟨c, S, t, a, rfl, rfl⟩, gd⟩ := h
  obtain ⟨j, hj⟩ := t.inv.stop_ex k
  obtain ⟨wA, gk, kv, KB⟩ := keyBox w k hk
  rcases a.find t.inv hj with ⟨_, v, hp, hv⟩ | ⟨hn, _⟩
  case inr => exact absurd hx (hasL_no.1 hn _)
  have e := a.rise.uniq hv hx
  subst e
  have FI := Lib.hid (find_at (t.still KB.still) k hk (by omega) j hj true _ hp rfl)
  have VAL := Lib.hid (fun W (s : Still wA W) => show W.cell? ⟨b, pos k S.length j * 34 + 33, none⟩ = some (.int .i64 x) from ((t.still KB.still).still s).row.val hp (t.inv.slOK hp) 0 _ rfl)
  have HB := Lib.hid KB
  rw [← KB.hkv] at FI ⊢
  generalize pos k S.length j = y at FI VAL
  clear KB t a gd hj hp hv hx hcp hl hk
  go_enter Try.func22, Try.ntmps22
  go_upto_region 1 with (guard_target =~ wpList _ _ _ (Oper.mk (some 3) _ _ _ _ _ :: _) _ _; go_must (refine wpList_box_val rfl 43 (.tmp 1) rfl (some 3) rfl kv rfl ?_))
  rw [← HB.out.hwA, ← HB.out.hgk]
  go_wp2_with (first
    | (guard_target =~ wpList _ _ _ (Oper.mk (some 9) _ _ _ _ _ :: _) _ _; go_must (refine wpList_load_mid rfl 43 (.tmp 3) rfl gk 0 rfl (bytesV k) _ (HB.out.reads _ (Still.refl _)) under32 rfl HB.out.size ?_); rw [← HB.out.hkv])
    | (go_at_call 33; refine FI.out.mono ?_; rintro e w1 ⟨rfl, s1⟩; have S1 := Lib.hid s1; have k2 := VAL.out _ s1; clear s1))
  go_ret2
  exact ⟨rfl, Still.trans HB.out.still S1.out⟩
set_option maxRecDepth 100000 in
set_option maxHeartbeats 1600000 in
theorem get_no {w : World} {g b cp dd : Nat} {L : List KV} (h : Tb w g b L cp dd) (k : List UInt8) (hk : k.length = 32) (hl : L.length ≤ 1073741824) (hx : hasL k L = false) :
    Calls Try.prog 22 #[.pointer (some ⟨g, 0, none⟩), .agg (bytesV k).toArray] w fun e w' => e = .returned (.tuple #[.int .i64 0, .bool false]) ∧ Still w w' := by
  have hcp := h.cpb hl
  obtain ⟨⟨c, S, t, a, rfl, rfl⟩, gd⟩ := h
  obtain ⟨j, hj⟩ := t.inv.stop_ex k
  obtain ⟨wA, gk, kv, KB⟩ := keyBox w k hk
  rcases a.find t.inv hj with ⟨hy, _⟩ | ⟨_, hp⟩
  case inl => rw [hx] at hy; cases hy
  have FI := Lib.hid (find_at (t.still KB.still) k hk (by omega) j hj false _ hp rfl)
  have HB := Lib.hid KB
  rw [← KB.hkv] at FI ⊢
  generalize pos k S.length j = y at FI
  clear KB t a gd hj hp hx hcp hl hk
  go_enter Try.func22, Try.ntmps22
  go_upto_region 1 with (guard_target =~ wpList _ _ _ (Oper.mk (some 3) _ _ _ _ _ :: _) _ _; go_must (refine wpList_box_val rfl 43 (.tmp 1) rfl (some 3) rfl kv rfl ?_))
  rw [← HB.out.hwA, ← HB.out.hgk]
  go_wp2_with (first
    | (guard_target =~ wpList _ _ _ (Oper.mk (some 9) _ _ _ _ _ :: _) _ _; go_must (refine wpList_load_mid rfl 43 (.tmp 3) rfl gk 0 rfl (bytesV k) _ (HB.out.reads _ (Still.refl _)) under32 rfl HB.out.size ?_); rw [← HB.out.hkv])
    | (go_at_call 33; refine FI.out.mono ?_; rintro e w1 ⟨rfl, s1⟩; have S1 := Lib.hid s1; clear s1))
  go_ret2
  exact ⟨rfl, Still.trans HB.out.still S1.out⟩
/-- What Put leaves. -/
def PutP (w w' : World) (g b : Nat) (L : List KV) (cp dd : Nat) (k : List UInt8) (v : List Int) : Prop :=
  ∃ b' cp' dd', Tb w' g b' (insL k v L) cp' dd' ∧ PutR k L cp dd cp' dd' ∧ (b' = b ∨ w.heap.size ≤ b') ∧ Chg w w' (fun q => q = g ∨ q = b)
theorem setCells_one (w : World) (b o : Nat) (v : Value) : w.setCells b o [v] = w.setCell ⟨b, o, none⟩ v := rfl
set_option maxRecDepth 100000 in
set_option maxHeartbeats 3200000 in
theorem put_any {w : World} {g b cp dd : Nat} {L : List KV} (h : Tb w g b L cp dd) (k : List UInt8) (x : Int) (hk : k.length = 32) (hl : L.length ≤ 1073741824) :
    Calls Try.prog 20 #[.pointer (some ⟨g, 0, none⟩), .agg (bytesV k).toArray, .int .i64 x] w fun e w' => e = .returned (.tuple #[]) ∧ PutP w w' g b L cp dd k [x] := by
  have hcp := h.cpb hl
  have HR := Lib.hid h.rise
  obtain ⟨⟨c, S, t, a, hcpe, hdde⟩, gd⟩ := h
  obtain ⟨j, hj⟩ := t.inv.stop_ex k
  obtain ⟨wA, gk, kv, KB⟩ := keyBox w k hk
  have tA := t.still KB.still
  rcases a.find t.inv hj with ⟨hy, v, hp, hv⟩ | ⟨hn, hp⟩
  · have ov := t.inv.over hp (v' := [x]) rfl
    have FI := Lib.hid (find_at tA k hk (by omega) j hj true _ hp rfl)
    have WY := Lib.hid (works_yes tA)
    have FR := Lib.hid (fun W (s : Still wA W) => show W.frozen? ⟨b, pos k S.length j * 34 + 33, none⟩ = false from (tA.still s).row.fr _)
    have VL := Lib.hid (fun W (s : Still wA W) => show ∃ v0, W.cell? ⟨b, pos k S.length j * 34 + 33, none⟩ = some v0 from by
      have hok := t.inv.slOK hp
      obtain ⟨v0, e0⟩ : ∃ v0, v = [v0] := by
        match v, hok.2 with
        | [v0], _ => exact ⟨v0, rfl⟩
      subst e0
      exact ⟨_, (tA.still s).row.val hp hok 0 _ rfl⟩)
    have FIN := Lib.hid (fun W (s : Still wA W) => show PutP w (W.setCell ⟨b, pos k S.length j * 34 + 33, none⟩ (.int .i64 x)) g b L cp dd k [x] from by
      have tW := tA.still s
      have c1 := Chg.of_grown (grownBy_set W b (pos k S.length j * 34 + 33) (.int .i64 x)) (S := fun q => q = b) (fun k hk _ => (Option.some.inj hk).symm)
      have r := tW.row.setVal (fun i s hi => t.inv.slOK hi) hp (v' := [x]) rfl
      refine ⟨b, cp, dd, ⟨⟨c, S.set (pos k S.length j) (.full k [x]), ⟨?_, r, ov.1, t.ne, by rw [List.length_set]; exact t.cap⟩, a.over t.inv hp rfl, by rw [List.length_set]; exact hcpe, by rw [ov.2.2.1]; exact hdde⟩, PutR.gd (cp := cp) (dd := dd) (dd' := dd) (by unfold PutR; rw [hy]; simp) HR.out gd⟩, by unfold PutR; rw [hy]; simp, .inl rfl, (Chg.of_still (Still.trans KB.still s) _).trans c1 (fun _ _ h => .inr h)⟩
      rw [List.length_set, ov.2.1, ov.2.2.1]
      exact c1.blk tW.box (fun e => t.ne e.symm))
    have HB := Lib.hid KB
    rw [← KB.hkv] at FI ⊢
    generalize pos k S.length j = y at FI FR VL FIN
    clear KB t tA a gd hj hp hv hcp hl hk ov hy HR hcpe hdde
    go_enter Try.func20, Try.ntmps20
    go_upto_region 1 with (guard_target =~ wpList _ _ _ (Oper.mk (some 4) _ _ _ _ _ :: _) _ _; go_must (refine wpList_box_val rfl 43 (.tmp 1) rfl (some 4) rfl kv rfl ?_))
    rw [← HB.out.hwA, ← HB.out.hgk]
    go_wp2_with (first
      | (guard_target =~ wpList _ _ _ (Oper.mk (some 11) _ _ _ _ _ :: _) _ _; go_must (refine wpList_load_mid rfl 43 (.tmp 4) rfl gk 0 rfl (bytesV k) _ (HB.out.reads _ (Still.refl _)) under32 rfl HB.out.size ?_); rw [← HB.out.hkv])
      | (go_at_call 24; refine WY.out.mono ?_; rintro e w1 ⟨rfl, rfl⟩)
      | (go_at_call 33; refine FI.out.mono ?_; rintro e w1 ⟨rfl, s1⟩; have S1 := Lib.hid s1; obtain ⟨v0, k2⟩ := VL.out _ s1; have k3 := FR.out _ s1; clear s1))
    (try simp only [Exit.inBlock, Exit.then]); refine bodyPost_ret (results_none rfl _ _ _) rfl ?_
    exact ⟨rfl, FIN.out _ S1.out⟩
  · have FI := Lib.hid (find_at tA k hk (by omega) j hj false _ hp rfl)
    have WY := Lib.hid (works_yes tA)
    have HI := Lib.hid t.inv
    have C0 := Lib.hid (fun W (s : Still wA W) => (tA.still s).c0)
    have C1 := Lib.hid (fun W (s : Still wA W) => (tA.still s).c1)
    have C2 := Lib.hid (fun W (s : Still wA W) => (tA.still s).c2)
    have hK : keysN S ≤ S.length := by have := t.inv.load; omega
    have hD : deadN S ≤ S.length := by have := t.inv.load; omega
    have REN := Lib.hid (fun W (s : Still wA W) => renew_any (tA.still s) (by omega))
    have HB := Lib.hid KB
    have AB := Lib.hid a
    have GD := Lib.hid gd
    have HN := Lib.hid hn
    have HK := Lib.hid hk
    have HGK := Lib.hid (show gk < wA.heap.size ∧ gk ≠ g from ⟨by rw [KB.hwA, KB.hgk]; simp, by have := t.box.lt; have := KB.hgk; omega⟩)
    by_cases hroom : 3 * S.length < 4 * (keysN S + deadN S + 1)
    · have NEXT := Lib.hid (fun (W : World) (s : Still wA W) (W1 : World) b2 n S2 (T : TB TT 1 W1 g b2 n S2) (R : Ren 1 n S S.length S2) (N : NewCap (keysN S) n) (C : Chg W W1 (fun q => q = g)) (hb2 : W.heap.size ≤ b2) =>
        show Calls Try.prog 35 #[.pointer (some ⟨g, 0, none⟩), .agg (bytesV k).toArray, .int .i64 x] W1 fun e w' => e = .returned (.tuple #[]) ∧ PutP w w' g b L cp dd k [x] from by
          obtain ⟨j2, hj2⟩ := T.inv.stop_ex k
          have hp2 : S2[pos k S2.length j2]? = some Sl.empty := by
            rcases (AB.out.ren R).find T.inv hj2 with ⟨hy, _⟩ | ⟨_, e⟩
            · rw [HN.out] at hy; cases hy
            · exact e
          have hb := N.bd
          have rm : 4 * (keysN S2 + 1 + deadN S2) ≤ 3 * S2.length := by
            rw [R.all.1, R.dead, R.len]
            omega
          refine (lay_any T k x HK.out (by rw [R.len]; omega) j2 hj2 hp2 rm).mono ?_
          rintro e w' ⟨he, T', C'⟩
          obtain ⟨_, _, D', _⟩ := T.inv.more hj2 hp2 HK.out (v := [x]) rfl rm
          have PR : PutR k L cp dd n 0 := by
            unfold PutR
            rw [HN.out, ← AB.out.len, ← hcpe, ← hdde]
            simp only [Bool.false_eq_true, if_false]
            rw [if_pos hroom]
            first | exact ⟨N, rfl⟩ | exact ⟨N, trivial⟩
          have hbw : w.heap.size ≤ b2 := Nat.le_trans (Still.trans HB.out.still s).size hb2
          refine ⟨he, b2, n, 0, ⟨⟨n, _, T', (AB.out.ren R).more T.inv hj2 hp2 HK.out rfl rm, by rw [List.length_set]; exact R.len, by rw [D']; exact R.dead⟩, PR.gd HR.out GD.out⟩, PR, .inr hbw, ?_⟩
          have c1 := (Chg.of_still (Still.trans HB.out.still s) (fun q => q = g ∨ q = b)).trans C (fun _ _ h => .inl h)
          exact c1.trans C' (fun q hq h => by
            rcases h with h | h
            · exact .inl h
            · exact absurd hq (by omega)))
      rw [← KB.hkv] at FI NEXT ⊢
      obtain ⟨kn, hkn⟩ : ∃ kn, kn = keysN S := ⟨_, rfl⟩
      obtain ⟨n, hnn⟩ : ∃ n, n = S.length := ⟨_, rfl⟩
      obtain ⟨dn, hdn⟩ : ∃ dn, dn = deadN S := ⟨_, rfl⟩
      rw [← hkn, ← hnn, ← hdn] at hroom
      rw [← hkn] at C1 hK
      rw [← hnn] at C0 hK hD
      rw [← hdn] at C2 hD
      have hnb : n ≤ 8589934592 := by omega
      have d1 : 3 * (n : Int) < 4 * ((kn : Int) + (dn : Int) + 1) := by omega
      have d2 : (n : Int) ≤ 8589934592 := by omega
      have d3 : (kn : Int) ≤ 8589934592 := by omega
      have d4 : (dn : Int) ≤ 8589934592 := by omega
      clear KB t tA a gd hj hp hcp hl hk hn HR hcpe hdde hkn hnn hdn hroom hK hD hnb
      go_enter Try.func20, Try.ntmps20
      go_upto_region 1 with (guard_target =~ wpList _ _ _ (Oper.mk (some 4) _ _ _ _ _ :: _) _ _; go_must (refine wpList_box_val rfl 43 (.tmp 1) rfl (some 4) rfl kv rfl ?_))
      rw [← HB.out.hwA, ← HB.out.hgk]
      go_upto_region 5 with (first
        | (guard_target =~ wpList _ _ _ (Oper.mk (some 11) _ _ _ _ _ :: _) _ _; go_must (refine wpList_load_mid rfl 43 (.tmp 4) rfl gk 0 rfl (bytesV k) _ (HB.out.reads _ (Still.refl _)) under32 rfl HB.out.size ?_); rw [← HB.out.hkv])
        | (go_at_call 24; refine WY.out.mono ?_; rintro e w1 ⟨rfl, rfl⟩)
        | (go_at_call 33; refine FI.out.mono ?_; rintro e w1 ⟨rfl, s1⟩; have S1 := Lib.hid s1; have k0 := C0.out _ s1; have k1 := C1.out _ s1; have k2 := C2.out _ s1; clear s1))
      go_quiet (fail)
      have S2 := Lib.hid (show Still wA (w1.drewN nq) from still_drewN S1.out nq)
      clear k0 k1 k2
      go_wp2_with (first
        | (guard_target =~ wpList _ _ _ (Oper.mk (some 40) _ _ _ _ _ :: _) _ _; go_must (refine wpList_load_mid rfl 43 (.tmp 4) rfl gk 0 rfl (bytesV k) _ (RD3.out) under32 rfl HB.out.size ?_); rw [← HB.out.hkv])
        | (go_at_call 34; refine (REN.out _ S2.out).mono ?_; rintro e w3 ⟨rfl, b2, n2, S3, T3, R3, N3, C3, hb3⟩; have NX := Lib.hid (NEXT.out _ S2.out _ _ _ _ T3 R3 N3 C3 hb3); have RD3 := Lib.hid (show w3.rangeAt gk 0 (bytesV k) from fun q u hq => (World.cell?_of_block (w := w1.drewN nq) (C3.block gk (Nat.lt_of_lt_of_le HGK.out.1 S2.out.size) HGK.out.2)).trans (HB.out.reads _ S2.out q u hq)); clear T3 R3 N3 C3 hb3)
        | (go_at_call 35; refine NX.out.mono ?_; rintro e w4 ⟨rfl, p4⟩; have P4 := Lib.hid p4; clear p4))
      go_end0
      exact ⟨rfl, P4.out⟩
    · have NEXT := Lib.hid (fun (W : World) (s : Still wA W) =>
        show Calls Try.prog 35 #[.pointer (some ⟨g, 0, none⟩), .agg (bytesV k).toArray, .int .i64 x] W fun e w' => e = .returned (.tuple #[]) ∧ PutP w w' g b L cp dd k [x] from by
          have rm : 4 * (keysN S + 1 + deadN S) ≤ 3 * S.length := by omega
          refine (lay_any (tA.still s) k x HK.out (by omega) j hj hp rm).mono ?_
          rintro e w' ⟨he, T', C'⟩
          obtain ⟨_, _, D', _⟩ := HI.out.more hj hp HK.out (v := [x]) rfl rm
          have PR : PutR k L cp dd cp dd := by
            unfold PutR
            rw [HN.out, ← AB.out.len, ← hcpe, ← hdde]
            simp only [Bool.false_eq_true, if_false]
            rw [if_neg hroom]
            first | exact ⟨rfl, rfl⟩ | exact ⟨trivial, trivial⟩ | trivial
          refine ⟨he, b, cp, dd, ⟨⟨c, _, T', AB.out.more HI.out hj hp HK.out rfl rm, by rw [List.length_set]; exact hcpe, by rw [D']; exact hdde⟩, PR.gd HR.out GD.out⟩, PR, .inl rfl, ?_⟩
          exact (Chg.of_still (Still.trans HB.out.still s) (fun q => q = g ∨ q = b)).trans C' (fun _ _ h => h))
      rw [← KB.hkv] at FI NEXT ⊢
      obtain ⟨kn, hkn⟩ : ∃ kn, kn = keysN S := ⟨_, rfl⟩
      obtain ⟨n, hnn⟩ : ∃ n, n = S.length := ⟨_, rfl⟩
      obtain ⟨dn, hdn⟩ : ∃ dn, dn = deadN S := ⟨_, rfl⟩
      rw [← hkn, ← hnn, ← hdn] at hroom
      rw [← hkn] at C1 hK
      rw [← hnn] at C0 hK hD
      rw [← hdn] at C2 hD
      have hnb : n ≤ 8589934592 := by omega
      have d1 : ¬ 3 * (n : Int) < 4 * ((kn : Int) + (dn : Int) + 1) := by omega
      have d2 : (n : Int) ≤ 8589934592 := by omega
      have d3 : (kn : Int) ≤ 8589934592 := by omega
      have d4 : (dn : Int) ≤ 8589934592 := by omega
      clear KB t tA a gd hj hp hcp hl hk hn HR hcpe hdde hkn hnn hdn hroom hK hD hnb
      go_enter Try.func20, Try.ntmps20
      go_upto_region 1 with (guard_target =~ wpList _ _ _ (Oper.mk (some 4) _ _ _ _ _ :: _) _ _; go_must (refine wpList_box_val rfl 43 (.tmp 1) rfl (some 4) rfl kv rfl ?_))
      rw [← HB.out.hwA, ← HB.out.hgk]
      go_upto_region 5 with (first
        | (guard_target =~ wpList _ _ _ (Oper.mk (some 11) _ _ _ _ _ :: _) _ _; go_must (refine wpList_load_mid rfl 43 (.tmp 4) rfl gk 0 rfl (bytesV k) _ (HB.out.reads _ (Still.refl _)) under32 rfl HB.out.size ?_); rw [← HB.out.hkv])
        | (go_at_call 24; refine WY.out.mono ?_; rintro e w1 ⟨rfl, rfl⟩)
        | (go_at_call 33; refine FI.out.mono ?_; rintro e w1 ⟨rfl, s1⟩; have S1 := Lib.hid s1; have k0 := C0.out _ s1; have k1 := C1.out _ s1; have k2 := C2.out _ s1; clear s1))
      go_quiet (fail)
      have S2 := Lib.hid (show Still wA (w1.drewN nq) from still_drewN S1.out nq)
      clear k0 k1 k2
      go_wp2_with (first
        | (guard_target =~ wpList _ _ _ (Oper.mk (some 40) _ _ _ _ _ :: _) _ _; go_must (refine wpList_load_mid rfl 43 (.tmp 4) rfl gk 0 rfl (bytesV k) _ (HB.out.reads _ S2.out) under32 rfl HB.out.size ?_); rw [← HB.out.hkv])
        | (go_at_call 35; refine (NEXT.out _ S2.out).mono ?_; rintro e w4 ⟨rfl, p4⟩; have P4 := Lib.hid p4; clear p4))
      go_end0
      exact ⟨rfl, P4.out⟩
end Go.Proofs.Ytlebancjgjcfjaa
