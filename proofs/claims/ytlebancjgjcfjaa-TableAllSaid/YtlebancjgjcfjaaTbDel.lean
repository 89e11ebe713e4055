/- Contract: Delete of a table. It proves no statement. -/
import Derived.Test.YtlebancjgjcfjaaTbPut
namespace Go.Proofs.Ytlebancjgjcfjaa
open Go.RowKit
set_option linter.unusedVariables false
set_option linter.unusedSimpArgs false

/-- What Delete leaves. -/
def DelP (w w' : World) (g b : Nat) (L : List KV) (cp dd : Nat) (k : List UInt8) : Prop :=
  ∃ b' cp' dd', Tb w' g b' (delL k L) cp' dd' ∧ DelR k L cp dd cp' dd' ∧ (b' = b ∨ w.heap.size ≤ b') ∧ Chg w w' (fun q => q = g ∨ q = b)
theorem TB.killed {T : TypeId} {m : Nat} {w : World} {g b c : Nat} {S : List Sl} {p : Nat} {s : Sl} (h : TB T m w g b c S) (hp : S[p]? = some s) (hI : Inv m (S.set p .dead)) (kn dn : Nat) (hk : keysN (S.set p .dead) = kn) (hd : deadN (S.set p .dead) = dn) :
    TB T m (((w.setCells b (p * (33 + m)) (slL m .dead)).setCell ⟨g, 1, none⟩ (.int .i64 (kn : Nat))).setCell ⟨g, 2, none⟩ (.int .i64 (dn : Nat))) g b c (S.set p .dead) := by
  have c1 := Chg.of_grown (grown_setC (g := b) (slL m .dead) (p * (33 + m)) w) (S := fun k => k = b) (fun k hk _ => (Option.some.inj hk).symm)
  have b1 := c1.blk h.box (fun e => h.ne e.symm)
  have r1 := h.row.set (fun i s hi => h.inv.slOK hi) hp (SlOK.dead m)
  have gr := (grownBy_set (w.setCells b (p * (33 + m)) (slL m .dead)) g 1 (.int .i64 (kn : Nat))).trans (grownBy_set _ g 2 (.int .i64 (dn : Nat)))
  refine ⟨?_, r1.keep (gr.block b r1.lt (fun e => h.ne (Option.some.inj e))), hI, h.ne, by simpa using h.cap⟩
  have := (b1.setc 1 (.int .i64 (kn : Nat))).setc 2 (.int .i64 (dn : Nat))
  rw [hk, hd, List.length_set]
  exact this
theorem del_no {w : World} {g b cp dd : Nat} {L : List KV} (h : Tb w g b L cp dd) (k : List UInt8) (hk : k.length = 32) (hl : L.length ≤ 1073741824) (hn : hasL k L = false) :
    Calls Try.prog 19 #[.pointer (some ⟨g, 0, none⟩), .agg (bytesV k).toArray] w fun e w' => e = .returned (.bool false) ∧ DelP w w' g b L cp dd k := by
  have hcp := h.cpb hl
  have HT := Lib.hid h
  obtain ⟨⟨c, S, t, a, rfl, rfl⟩, gd⟩ := h
  obtain ⟨j, hj⟩ := t.inv.stop_ex k
  obtain ⟨wA, gk, kv, KB⟩ := keyBox w k hk
  rcases a.find t.inv hj with ⟨hy, _⟩ | ⟨_, hp⟩
  case inl => rw [hn] at hy; cases hy
  have FI := Lib.hid (find_at (t.still KB.still) k hk (by omega) j hj false _ hp rfl)
  have FIN := Lib.hid (fun W (s : Still w W) => show DelP w W g b L S.length (deadN S) k from ⟨b, _, _, by rw [delL_none hn]; exact HT.out.still s, by unfold DelR; rw [hn]; simp, .inl rfl, Chg.of_still s _⟩)
  have HB := Lib.hid KB
  rw [← KB.hkv] at FI ⊢
  generalize pos k S.length j = y at FI
  clear KB t a gd hj hp hn hcp hl hk HT
  go_enter Try.func19, Try.ntmps19
  go_upto_region 1 with (guard_target =~ wpList _ _ _ (Oper.mk (some 3) _ _ _ _ _ :: _) _ _; go_must (refine wpList_box_val rfl 43 (.tmp 1) rfl (some 3) rfl kv rfl ?_))
  rw [← HB.out.hwA, ← HB.out.hgk]
  go_wp2_with (first
    | (guard_target =~ wpList _ _ _ (Oper.mk (some 8) _ _ _ _ _ :: _) _ _; go_must (refine wpList_load_mid rfl 43 (.tmp 3) rfl gk 0 rfl (bytesV k) _ (HB.out.reads _ (Still.refl _)) under32 rfl HB.out.size ?_); rw [← HB.out.hkv])
    | (go_at_call 33; refine FI.out.mono ?_; rintro e w1 ⟨rfl, s1⟩; have S1 := Lib.hid s1; clear s1))
  go_ret
  exact ⟨rfl, FIN.out _ (Still.trans HB.out.still S1.out)⟩
set_option maxRecDepth 100000 in
set_option maxHeartbeats 3200000 in
theorem del_yes {w : World} {g b cp dd : Nat} {L : List KV} (h : Tb w g b L cp dd) (k : List UInt8) (hk : k.length = 32) (hl : L.length ≤ 1073741824) (hy : hasL k L = true) :
    Calls Try.prog 19 #[.pointer (some ⟨g, 0, none⟩), .agg (bytesV k).toArray] w fun e w' => e = .returned (.bool true) ∧ DelP w w' g b L cp dd k := by
  have hcp := h.cpb hl
  have HR := Lib.hid h.rise
  obtain ⟨⟨c, S, t, a, hcpe, hdde⟩, gd⟩ := h
  obtain ⟨j, hj⟩ := t.inv.stop_ex k
  obtain ⟨wA, gk, kv, KB⟩ := keyBox w k hk
  have tA := t.still KB.still
  rcases a.find t.inv hj with ⟨_, v, hp, hv⟩ | ⟨hn, hp⟩
  case inr => rw [hy] at hn; cases hn
  obtain ⟨I, K1, D1, _⟩ := t.inv.less hp
  have AL := a.less t.inv hp
  obtain ⟨kn, hkn⟩ : ∃ kn, kn = keysN (S.set (pos k S.length j) .dead) := ⟨_, rfl⟩
  obtain ⟨dn, hdn⟩ : ∃ dn, dn = deadN S := ⟨_, rfl⟩
  rw [← hkn] at K1
  rw [← hdn] at D1
  have hK : keysN S ≤ S.length := by have := t.inv.load; omega
  have hD : deadN S ≤ S.length := by have := t.inv.load; omega
  have FI := Lib.hid (find_at tA k hk (by omega) j hj true _ hp rfl)
  have TAIL := Lib.hid (fun W (s : Still wA W) => (tA.still s).killed hp I kn (dn + 1) hkn.symm D1)
  have TH := Lib.hid (fun W (s : Still wA W) => (tA.still s).row.there hp (t.inv.slOK hp))
  have CH := Lib.hid (fun W (s : Still wA W) => show Blk (W.setCells b (pos k S.length j * (33 + 1)) (slL 1 .dead)) g TT _ ∧ Chg w (((W.setCells b (pos k S.length j * (33 + 1)) (slL 1 .dead)).setCell ⟨g, 1, none⟩ (.int .i64 (kn : Nat))).setCell ⟨g, 2, none⟩ (.int .i64 (dn + 1 : Nat))) (fun q => q = g ∨ q = b) from by
    have c1 := Chg.of_grown (grown_setC (g := b) (slL 1 .dead) (pos k S.length j * (33 + 1)) W) (S := fun q => q = g ∨ q = b) (fun k hk _ => .inr (Option.some.inj hk).symm)
    refine ⟨(Chg.of_grown (grown_setC (g := b) (slL 1 .dead) (pos k S.length j * (33 + 1)) W) (S := fun q => q = b) (fun k hk _ => (Option.some.inj hk).symm)).blk (tA.still s).box (fun e => t.ne e.symm), ?_⟩
    exact ((Chg.of_still (Still.trans KB.still s) _).trans c1 (fun _ _ h => h)).trans (Chg.of_grown ((grownBy_set _ g 1 _).trans (grownBy_set _ g 2 _)) (S := fun q => q = g ∨ q = b) (fun k hk _ => .inl (Option.some.inj hk).symm)) (fun _ _ h => h))
  have hlen : (S.set (pos k S.length j) Sl.dead).length = S.length := by simp
  have LD := Lib.hid (show (delL k L).length = kn from by rw [← AL.len, hkn])
  -- the two ways out
  have STAY := Lib.hid (fun W (T : TB TT 1 W g b c (S.set (pos k S.length j) .dead)) (C : Chg w W (fun q => q = g ∨ q = b)) (hs : ¬ (8 < S.length ∧ 8 * kn < S.length)) => show DelP w W g b L cp dd k from by
    have DR : DelR k L cp dd cp (dd + 1) := by
      unfold DelR
      rw [hy, LD.out, ← hcpe]
      simp only [if_true]
      rw [if_neg hs]
      first | exact ⟨rfl, rfl⟩ | exact ⟨trivial, trivial⟩ | trivial
    exact ⟨b, cp, dd + 1, ⟨⟨c, _, T, AL, by rw [hlen]; exact hcpe, by rw [D1, hdn, hdde]⟩, DR.gd HR.out gd⟩, DR, .inl rfl, C⟩)
  have RENEW := Lib.hid (fun W (T : TB TT 1 W g b c (S.set (pos k S.length j) .dead)) (C : Chg w W (fun q => q = g ∨ q = b)) (hs : 8 < S.length ∧ 8 * kn < S.length) =>
    show Calls Try.prog 34 #[.pointer (some ⟨g, 0, none⟩)] W fun e w' => e = .returned (.tuple #[]) ∧ DelP w w' g b L cp dd k from by
      refine (renew_any T (by rw [hlen]; omega)).mono ?_
      rintro e w' ⟨he, b2, n, S2, T2, R2, N2, C2, hb2⟩
      rw [← hkn] at N2
      have DR : DelR k L cp dd n 0 := by
        unfold DelR
        rw [hy, LD.out, ← hcpe]
        simp only [if_true]
        rw [if_pos hs]
        first | exact ⟨N2, rfl⟩ | exact ⟨N2, trivial⟩
      exact ⟨he, b2, n, 0, ⟨⟨n, S2, T2, AL.ren R2, R2.len, R2.dead⟩, DR.gd HR.out gd⟩, DR, .inr (Nat.le_trans C.size hb2), C.trans C2 (fun q hq h => .inl h)⟩)
  have HB := Lib.hid KB
  rw [← KB.hkv] at FI ⊢
  obtain ⟨y, hy2⟩ : ∃ y, y = pos k S.length j := ⟨_, rfl⟩
  rw [← hy2] at FI TAIL TH CH STAY RENEW
  obtain ⟨sl, hsl⟩ : ∃ sl, sl = slL 1 .dead := ⟨_, rfl⟩
  have H1 := Lib.hid (show sl.toArray.all (·.oneCell') = true from by rw [hsl]; exact all_oneCell_toArray (fun v hv => slL_one _ _ v hv))
  have HSL := Lib.hid (show sl.length = 34 from by rw [hsl]; exact slL_len (SlOK.dead 1))
  have BD := Lib.hid (show Try.prog.built 82 [(0, .int .i64 1)] = some sl.toArray from by rw [hsl]; exact built_dead)
  rw [← hsl] at TAIL CH
  obtain ⟨n, hnn⟩ : ∃ n, n = S.length := ⟨_, rfl⟩
  rw [← hnn] at hK hD STAY RENEW CH
  have K2 : keysN S = kn + 1 := K1.symm
  rw [K2] at hK CH
  rw [← hdn] at hD CH
  have hnb : n ≤ 8589934592 := by omega
  have d2 : (n : Int) ≤ 8589934592 := by omega
  have d3 : (kn : Int) ≤ 8589934592 := by omega
  have d4 : (dn : Int) ≤ 8589934592 := by omega
  clear KB t tA a gd hj hp hv hcp hl hk hy HR hcpe hdde hkn hdn hnn K1 K2 D1 I AL hlen hK hD hnb hy2 hsl LD
  go_enter Try.func19, Try.ntmps19
  go_upto_region 1 with (guard_target =~ wpList _ _ _ (Oper.mk (some 3) _ _ _ _ _ :: _) _ _; go_must (refine wpList_box_val rfl 43 (.tmp 1) rfl (some 3) rfl kv rfl ?_))
  rw [← HB.out.hwA, ← HB.out.hgk]
  go_upto_region 5 with (first
    | (guard_target =~ wpList _ _ _ (Oper.mk (some 8) _ _ _ _ _ :: _) _ _; go_must (refine wpList_load_mid rfl 43 (.tmp 3) rfl gk 0 rfl (bytesV k) _ (HB.out.reads _ (Still.refl _)) under32 rfl HB.out.size ?_); rw [← HB.out.hkv])
    | (go_at_call 33; refine FI.out.mono ?_; rintro e w1 ⟨rfl, s1⟩; have S1 := Lib.hid s1; clear s1)
    | (guard_target =~ wpList _ _ _ (Oper.mk (some 13) _ _ _ _ _ :: _) _ _; go_must (refine wpList_buildTo rfl 82 _ rfl (some 13) rfl sl.toArray (by simp only [List.map_toArray, List.map_cons, List.map_nil]; exact BD.out) ?_))
    | (guard_target =~ wpList _ _ _ (Oper.mk none (Op.store _ _ _) _ _ _ _ :: _) _ _; go_must (refine wpList_store_mid rfl 82 (.tmp 14) (.tmp 13) rfl b (y * 34) sl.toArray rfl rfl (by rw [List.size_toArray, HSL.out]; exact TH.out _ S1.out) (by rw [sizeSlot, List.size_toArray, HSL.out]) H1.out ?_)))
  obtain ⟨B3, C3⟩ := CH.out _ S1.out
  have T3 := Lib.hid (TAIL.out _ S1.out)
  have C3 := Lib.hid C3
  change Blk (w1.setCells b (y * 34) sl) _ _ _ at B3
  change Hid (TB TT 1 (((w1.setCells b (y * 34) sl).setCell ⟨g, 1, none⟩ (.int .i64 (kn : Nat))).setCell ⟨g, 2, none⟩ (.int .i64 (dn + 1 : Nat))) _ _ _ _) at T3
  change Hid (Chg w (((w1.setCells b (y * 34) sl).setCell ⟨g, 1, none⟩ (.int .i64 (kn : Nat))).setCell ⟨g, 2, none⟩ (.int .i64 (dn + 1 : Nat))) _) at C3
  obtain ⟨w3, hw3⟩ : ∃ w3, w3 = w1.setCells b (y * 34) sl := ⟨_, rfl⟩
  rw [← hw3] at B3 T3 C3 ⊢
  have B4 := (B3.setc 1 (.int .i64 (kn : Nat))).setc 2 (.int .i64 (dn + 1 : Nat))
  obtain ⟨w4, hw4⟩ : ∃ w4, w4 = (w3.setCell ⟨g, 1, none⟩ (.int .i64 (kn : Nat))).setCell ⟨g, 2, none⟩ (.int .i64 (dn + 1 : Nat)) := ⟨_, rfl⟩
  rw [← hw4] at T3 C3 B4
  rw [show ((dn + 1 : Nat) : Int) = (dn : Int) + 1 by omega] at hw4
  have HW4 := Lib.hid hw4
  have q0 := B3.cell 0
  have q1 := B3.cell 1
  have q2 := B3.cell 2
  have f1 := B3.frozen 1
  have f2 := B3.frozen 2
  have p0 := B4.cell 0
  have p1 := B4.cell 1
  simp only [List.getElem?_toArray, List.getElem?_cons_succ, List.getElem?_cons_zero, List.setIfInBounds_toArray, List.set_cons_succ, List.set_cons_zero] at q0 q1 q2 p0 p1
  have e1 : ((kn + 1 : Nat) : Int) = (kn : Int) + 1 := by omega
  rw [e1] at q1
  clear hw3 hw4 B3 B4 e1
  go_upto_region 7 with fail
  rw [← HW4.out]
  clear q0 q1 q2 f1 f2
  by_cases h8 : 8 < n
  · have d5 : (8 : Int) < (n : Int) := by omega
    have d6 : ¬ (n : Int) ≤ 8 := by omega
    by_cases hk8 : 8 * kn < n
    · have d7 : 8 * (kn : Int) < (n : Int) := by omega
      have RW := Lib.hid (RENEW.out w4 T3.out C3.out ⟨h8, hk8⟩)
      clear h8 hk8
      go_wp2_with (go_at_call 34; refine RW.out.mono ?_; rintro e w5 ⟨rfl, p5⟩; have P5 := Lib.hid p5; clear p5)
      go_ret
      exact ⟨rfl, P5.out⟩
    · have d7 : ¬ 8 * (kn : Int) < (n : Int) := by omega
      have ST := Lib.hid (STAY.out w4 T3.out C3.out (fun h => hk8 h.2))
      clear h8 hk8
      go_wp2_with fail
      go_ret
      exact ⟨rfl, ST.out⟩
  · have d5 : ¬ (8 : Int) < (n : Int) := by omega
    have ST := Lib.hid (STAY.out w4 T3.out C3.out (fun h => h8 h.1))
    clear h8
    go_wp2_with fail
    go_ret
    exact ⟨rfl, ST.out⟩
end Go.Proofs.Ytlebancjgjcfjaa
