/- Contract: Delete of the document's own table. It proves no statement. -/
import Derived.Test.YthkgnkcedoigiaaTbP4
import Derived.Deep.RegionHeld3
namespace Go.Proofs.Ythkgnkcedoigiaa
open Go.RowKit
set_option linter.unusedVariables false
set_option linter.unusedSimpArgs false

attribute [local irreducible] Go.wpQuiet
theorem SlotsR.odd {k c cp : Nat} (h : SlotsR k c) (f : Nat) (hf : cp = 8 * 2 ^ f) (h8 : 8 < cp) (hk : 8 * k < cp) (hg : cp ≤ 8 * (k + 1)) : NewCap k c := by
  obtain ⟨e, rfl, h2, h3⟩ := h
  obtain ⟨q, hq⟩ : ∃ q, f = q + 1 := by
    cases f with
    | zero => omega
    | succ q => exact ⟨q, rfl⟩
  subst hq
  rw [Nat.pow_succ] at hf
  refine ⟨e, rfl, by omega, ?_⟩
  rcases h3 with h3 | h3
  · exact .inl h3
  · exact .inr (by omega)
theorem step_addsPr {w : World} {ops : Array Oper} {o : Oper} {a : Act} {K : Act → World → Prop} {Q : Exit → Act → World → Prop} {E : Prop} (hgd : o.guard = none) (s x : Operand)
    (ho : o.op = .call { callee := .builtin .append, args := #[s, x], argTypes := #[27, 27] })
    (base : Nat) (v : Value) (n : Nat) (xs : List Value) (hs : a.eval s = v) (hown : w.ownsRow base 40 33 v n xs) (b off n' c' : Nat) (ys : List Value) (hx : a.eval x = .slice (some ⟨b, off, none⟩) n' c')
    (hl : ys.length = n' * 33) (hr : ∀ j u, ys[j]? = some u → w.cell? ⟨b, off + j, none⟩ = some u) (h1 : ∀ u ∈ ys, u.oneCell' = true) (hn : n + n' ≤ 1099511627776) (hbase : base ≤ w.heap.size)
    (h : ∀ v' w', w'.ownsRow base 40 33 v' (n + n') (xs ++ ys) → w.grownBy w' v.ownBlock → K (a.put o.dst v') w') :
    if Region.wanted o (yielded ops a.tmps) = true then Oper.wp Try.prog o a w K Q else E := by
  have hw : Region.wanted o (yielded ops a.tmps) = true := by simp [Region.wanted, hgd]
  rw [if_pos hw]
  obtain ⟨i0, hi, hz0, hz1, hz2⟩ := info_parts Try.infoPr
  obtain ⟨v', w', hrun, h2, h3, _, h5⟩ := run_append_own_at (P := Try.prog) w base 27 o.type 40 i0 _ 33 40 Try.underlying27 hi hz0 hz1 hz2 rfl (by decide) v n xs hown ⟨b, off, none⟩ n' c' ys hl (fun j u hu => by
    rw [Addr.add_mid]; exact hr j u hu) h1 (by unfold maxLen; omega) (by omega) hbase
  unfold Oper.wp execOp
  simp only [ho, resolve, invoke, builtin, Sem.run_bind, Sem.run_pure, Result.andThen_ok, List.map_toArray, List.map_cons, List.map_nil, hs, hx, hrun]
  exact h v' w' h2 h3
set_option maxRecDepth 100000 in
theorem rdel_no {w : World} {gx cp dd : Nat} {v : Value} {L : List KV} (h : RT w gx v L cp dd) (k : List UInt8) (hk : k.length = 32) (hl : L.length ≤ 65536) (hy : hasL k L = false) :
    Calls Try.prog 17 #[.pointer (some ⟨gx, 0, none⟩), .agg (bytesV k).toArray] w fun e w' => e = .returned (.bool false) ∧ DelX (v := v) w w' gx L cp dd k := by
  obtain ⟨wA, gk, kv, KB⟩ := keyBox w k hk
  have AT := Lib.hid (at_any (h.still KB.still) k hk (by omega))
  have FIN := Lib.hid (fun W (s : Still w W) => show DelX (v := v) w W gx L cp dd k from ⟨v, cp, dd, by rw [delL_none hy]; exact h.still s, by unfold DelR; rw [hy]; simp, Chg.of_still s _, fun q hq => .inr hq⟩)
  have HB := Lib.hid KB
  have NO := Lib.hid hy
  rw [← KB.hkv] at AT
  rw [← KB.hkv]
  clear KB h hk hy
  go_enter Try.func17, Try.ntmps17
  go_upto_region 1 with (guard_target =~ wpList _ _ _ (Oper.mk (some 3) _ _ _ _ _ :: _) _ _; go_must (refine wpList_box_val rfl 32 (.tmp 1) rfl (some 3) rfl kv rfl ?_))
  rw [← HB.out.hwA, ← HB.out.hgk]
  go_upto_region 2 with (first
    | (guard_target =~ wpList _ _ _ (Oper.mk (some 8) _ _ _ _ _ :: _) _ _; go_must (refine wpList_load_mid rfl 32 (.tmp 3) rfl gk 0 rfl (bytesV k) _ (HB.out.reads _ (Still.refl _)) under32 rfl HB.out.size ?_); rw [← HB.out.hkv])
    | (go_at_call 13; refine AT.out.mono ?_; rintro e w1 ⟨⟨a, rfl, ha⟩, s1⟩; have S1 := Lib.hid s1; clear s1))
  obtain rfl : a = -1 := by
    rcases ha with ⟨_, rfl⟩ | ⟨p, vp, hp, rfl⟩
    · rfl
    · have := hasL_iff.2 ⟨vp, List.mem_of_getElem? hp⟩; rw [NO.out] at this; cases this
  clear ha
  go_wp2_with fail
  go_ret
  exact ⟨rfl, FIN.out _ (Still.trans HB.out.still S1.out)⟩
theorem prsV_cells {w : World} {gx cp dd : Nat} {v : Value} {L : List KV} (h : RT w gx v L cp dd) (h0 : 0 < L.length) : ∃ b c, v = .slice (some ⟨b, 0, none⟩) L.length c ∧ b ≠ gx ∧ b < w.heap.size ∧ L.length ≤ c ∧ c ≤ 9223372036854775807 ∧ ∀ W : World, W.heap[b]? = w.heap[b]? → ∀ j u, (prsV L)[j]? = some u → W.cell? ⟨b, j, none⟩ = some u := by
  rcases h.own.2 with ⟨_, h1⟩ | ⟨g, cap, cur, rfl, hb, hg, hnc, hm, hcs, ht⟩
  · omega
  · refine ⟨g, cap, rfl, by omega, (Array.getElem?_eq_some_iff.1 hg).1, hnc, by unfold maxLen at hm; omega, fun W hW j u hu => ?_⟩
    rw [← ht, List.getElem?_take] at hu
    rw [cell_of_row W g j cur _ (0, 0) (hW.trans hg)]
    split at hu
    · simpa using hu
    · cases hu
set_option maxRecDepth 100000 in
set_option maxHeartbeats 6400000 in
theorem rdel_yes {w : World} {gx cp dd : Nat} {v : Value} {L : List KV} (h : RT w gx v L cp dd) (k : List UInt8) (hk : k.length = 32) (hl : L.length ≤ 65536) (hcp : cp ≤ 1048576) (hdd : dd ≤ 1048576) (hr : Rise L) (hf : ∃ f, cp = 8 * 2 ^ f) (gd : Gd L cp) (hy : hasL k L = true) :
    Calls Try.prog 17 #[.pointer (some ⟨gx, 0, none⟩), .agg (bytesV k).toArray] w fun e w' => e = .returned (.bool true) ∧ DelX (v := v) w w' gx L cp dd k := by
  obtain ⟨wA, gk, kv, KB⟩ := keyBox w k hk
  have AT := Lib.hid (at_any (h.still KB.still) k hk (by omega))
  have HB := Lib.hid KB
  have HT := Lib.hid h
  have HY := Lib.hid hy
  rw [← KB.hkv] at AT
  rw [← KB.hkv]
  obtain ⟨c0, hc0⟩ := List.exists_mem_of_length_pos (l := L) (by obtain ⟨v, hv⟩ := hasL_iff.1 hy; exact List.length_pos_of_mem hv)
  obtain ⟨b, c, hv, hbg, hbl, hnc, hc, hcell⟩ := prsV_cells h (List.length_pos_of_mem hc0)
  have DL := delL_len hr hy
  have CR := Lib.hid (fun (h8 : 8 < cp) (hs : 8 * (delL k L).length < cp) c (hc : SlotsR (delL k L).length c) => show DelR k L cp dd c 0 from by
    obtain ⟨f, hf⟩ := hf
    unfold DelR; rw [hy]
    simp only [if_true]
    rw [if_pos ⟨h8, hs⟩]
    exact ⟨hc.odd f hf h8 hs (by unfold Gd at gd; omega), by trivial⟩)
  have CS := Lib.hid (fun (hs : ¬ (8 < cp ∧ 8 * (delL k L).length < cp)) => show DelR k L cp dd cp (dd + 1) from by
    unfold DelR; rw [hy]
    simp only [if_true]
    rw [if_neg hs]
    first | exact ⟨rfl, rfl⟩ | exact ⟨trivial, trivial⟩ | trivial)
  have SLO := Lib.hid (fun W => slots_any W (delL k L).length (by omega))
  have HR := Lib.hid hr
  have DLE := Lib.hid DL
  have DOK := Lib.hid (delL_ok (k := k) h.ok)
  have OK := Lib.hid h.ok
  have HCE := Lib.hid hcell
  have HBB := Lib.hid (And.intro hbg hbl)
  subst hv
  have d4 : (cp : Int) ≤ 1048576 := by omega
  have d5 : (dd : Int) ≤ 1048576 := by omega
  clear KB h hk hy hf gd hc0 DL hr hcell hbg hbl
  go_enter Try.func17, Try.ntmps17
  go_upto_region 1 with (guard_target =~ wpList _ _ _ (Oper.mk (some 3) _ _ _ _ _ :: _) _ _; go_must (refine wpList_box_val rfl 32 (.tmp 1) rfl (some 3) rfl kv rfl ?_))
  rw [← HB.out.hwA, ← HB.out.hgk]
  go_upto_region 2 with (first
    | (guard_target =~ wpList _ _ _ (Oper.mk (some 8) _ _ _ _ _ :: _) _ _; go_must (refine wpList_load_mid rfl 32 (.tmp 3) rfl gk 0 rfl (bytesV k) _ (HB.out.reads _ (Still.refl _)) under32 rfl HB.out.size ?_); rw [← HB.out.hkv])
    | (go_at_call 13; refine AT.out.mono ?_; rintro e w1 ⟨⟨a, rfl, ha⟩, s1⟩; have S1 := Lib.hid s1; clear s1))
  obtain ⟨p, vp, hp, rfl⟩ : ∃ (p : Nat) (vp : List Int), L[p]? = some (k, vp) ∧ a = p := by
    rcases ha with ⟨hn, _⟩ | ⟨p, vp, hp, rfl⟩
    · have := HY.out; rw [hn] at this; cases this
    · exact ⟨p, vp, hp, rfl⟩
  have SW1 := Lib.hid (show Still w w1 from Still.trans HB.out.still S1.out)
  have hpn : p < L.length := (List.getElem?_eq_some_iff.1 hp).1
  have EQ := Lib.hid (delL_at HR.out hp)
  have LT := Lib.hid (show (prsV (L.take p)).length = p * 33 from by rw [prsV_len (fun z hz => OK.out z (List.mem_of_mem_take hz)), List.length_take, Nat.min_eq_left (by omega)])
  have LD := Lib.hid (show (prsV (L.drop (p + 1))).length = (L.length - (p + 1)) * 33 from by rw [prsV_len (fun z hz => OK.out z (List.mem_of_mem_drop hz)), List.length_drop])
  have SPL := Lib.hid (show prsV L = prsV (L.take (p + 1)) ++ prsV (L.drop (p + 1)) from by rw [← prsV_append, List.take_append_drop])
  have SPL0 := Lib.hid (show prsV L = prsV (L.take p) ++ prsV (L.drop p) from by rw [← prsV_append, List.take_append_drop])
  have CE := Lib.hid (fun W (s : Still w1 W) => HCE.out W ((Still.trans SW1.out s).block b HBB.out.2))
  have CT := Lib.hid (fun W (s : Still w1 W) j u (hj : (prsV (L.take p))[j]? = some u) => show W.cell? ⟨b, 0 + j, none⟩ = some u from by
    rw [Nat.zero_add]
    refine CE.out W s j u ?_
    rw [SPL0.out, List.getElem?_append_left (List.getElem?_eq_some_iff.1 hj).1, hj])
  have CD := Lib.hid (fun W (s : Still w1 W) j u (hj : (prsV (L.drop (p + 1)))[j]? = some u) => show W.cell? ⟨b, (p + 1) * 33 + j, none⟩ = some u from by
    refine CE.out W s ((p + 1) * 33 + j) u ?_
    have h1 : (prsV (L.take (p + 1))).length = (p + 1) * 33 := by rw [prsV_len (fun z hz => OK.out z (List.mem_of_mem_take hz)), List.length_take, Nat.min_eq_left (by omega)]
    rw [SPL.out, List.getElem?_append_right (by omega), h1, Nat.add_sub_cancel_left, hj])
  obtain ⟨of, hof⟩ : ∃ of, of = if c = p + 1 then 0 else (p + 1) * 33 := ⟨_, rfl⟩
  have OFE := Lib.hid (show (if c = p + 1 then some (⟨b, 0, none⟩ : Addr) else some ⟨b, (p + 1) * 33, none⟩) = some ⟨b, of, none⟩ from by rw [hof]; split <;> rfl)
  have CF := Lib.hid (fun W (s : Still w1 W) j u (hj : (prsV (L.drop (p + 1)))[j]? = some u) => show W.cell? ⟨b, of + j, none⟩ = some u from by
    rw [hof]
    split
    · rename_i he
      have h1 := (List.getElem?_eq_some_iff.1 hj).1
      rw [LD.out] at h1
      omega
    · exact CD.out W s j u hj)
  have TL := Lib.hid (show p = (L.take p).length from by rw [List.length_take, Nat.min_eq_left (by omega)])
  have NB := Lib.hid (show (L.take p).length + (L.length - (p + 1)) ≤ 1099511627776 from by rw [List.length_take]; omega)
  have DL2 := Lib.hid (show L.length - (p + 1) = (L.drop (p + 1)).length from by rw [List.length_drop])
  have CC := Lib.hid (fun W (s : Still w1 W) => (HT.out.still (Still.trans SW1.out s)).cells)
  obtain ⟨n, hn⟩ : ∃ n, n = L.length := ⟨_, rfl⟩
  rw [← hn] at hl hnc hpn CC LD NB DL2
  have d1 : (0 : Int) ≤ (p : Int) := by omega
  have d2 : (p : Int) < (n : Int) := by omega
  have d3 : (n : Int) ≤ (c : Int) := by omega
  have d6 : ¬ (p : Int) < 0 := by omega
  have d7 : (p : Int) ≤ (c : Int) := by omega
  have d8 : (n : Int) ≤ 65536 := by omega
  have d9 : (p : Int) + 1 ≤ (n : Int) := by omega
  have d10 : (0 : Int) ≤ (p : Int) + 1 := by omega
  have wr1 : IntKind.i64.wrap ((p : Int) + 1) = (p : Int) + 1 := by rw [IntKind.wrap_i64]; omega
  have HN := Lib.hid hn
  have cc := (CC.out w1.drew (Still.refl _).drew).1
  clear hp ha hn hof
  go_upto_region 5 with fail
  go_region_held3 (fun w' => w'.cell? ⟨gx, 0, none⟩ = some (.slice (some ⟨b, 0, none⟩) n c)) (first | assumption | go_keep) (first
    | (refine step_addsPr rfl (.tmp 12) (.tmp 18) (by rfl) w1.heap.size (.slice none 0 0) 0 [] (by rfl) (World.ownsRow_nil _ _ _ _) b 0 p c (prsV (L.take p)) (by rfl) LT.out (CT.out _ (Still.refl _).drew) (prsV_one _) (by omega) (Nat.le_refl _) ?_; intro va wa own1 gr1; have O1 := Lib.hid (OutW.adds (M := L.take p) ((OutW.nil w1).on (Still.refl _).drew) own1 TL.out gr1); have cw := (CC.out wa O1.out.still).1; clear own1 gr1)
    | (refine step_addsPr rfl (.tmp 19) (.tmp 26) (by rfl) w1.heap.size va (L.take p).length (prsV (L.take p)) (by rfl) O1.out.own b of (n - (p + 1)) (c - (p + 1)) (prsV (L.drop (p + 1))) (congrArg (fun A => Value.slice A (n - (p + 1)) (c - (p + 1))) OFE.out) LD.out (CF.out _ O1.out.still) (prsV_one _) NB.out O1.out.still.size ?_; intro vb wb own2 gr2; have O2 := Lib.hid (OutW.adds (M := L.drop (p + 1)) O1.out own2 DL2.out gr2); have cw2 := (CC.out wb O2.out.still).1; clear own2 gr2))
  have OE := Lib.hid (O2.out.cast EQ.out)
  clear cw2 cc
  obtain ⟨oA, oc, rfl, _, _, _, _⟩ := own_slice OE.out.own
  obtain ⟨q0, q1, q2, f0, f1, f2⟩ := CC.out _ OE.out.still
  have GL := Lib.hid (show gx + 1 ≤ w1.heap.size from by have h1 := HT.out.box.lt; have h2 := SW1.out.size; omega)
  have R6 := Lib.hid (show ∃ W, W = (wb.setCell ⟨gx, 0, none⟩ (.slice oA (delL k L).length oc)).setCell ⟨gx, 2, none⟩ (.int .i64 ((dd : Int) + 1)) ∧ RT W gx (.slice oA (delL k L).length oc) (delL k L) cp (dd + 1) ∧ Chg w W (fun q => q = gx) from by
    have sW := Still.trans SW1.out OE.out.still
    obtain ⟨r1, c1⟩ := (HT.out.still sW).set0 (own_low OE.out.own GL.out) DOK.out
    obtain ⟨r2, c2⟩ := r1.set2 (dd + 1)
    exact ⟨_, rfl, r2, ((Chg.of_still sW _).trans c1 (fun _ _ h => h)).trans c2 (fun _ _ h => h)⟩)
  have NEW := Lib.hid (show ∀ q, (Value.slice oA (delL k L).length oc).ownBlock = some q → w.heap.size ≤ q from fun q hq => Nat.le_trans SW1.out.size (OE.out.own.lt q hq).1)
  clear q1 f1
  go_upto_region 8 with fail
  obtain ⟨w6, hw6, r6, c6⟩ := R6.out
  rw [← hw6]
  have RR := Lib.hid r6
  have C6 := Lib.hid c6
  have STAY := Lib.hid (fun W (s : Still w6 W) (p : DelR k L cp dd cp (dd + 1)) => show DelX (v := .slice (some ⟨b, 0, none⟩) n c) w W gx L cp dd k from ⟨_, _, _, r6.still s, p, c6.trans (Chg.of_still s _) (fun _ _ h => h), fun q hq => .inl (NEW.out q hq)⟩)
  have ANEW := Lib.hid (fun W (s : Still w6 W) c3 (p : DelR k L cp dd c3 0) => show DelX (v := .slice (some ⟨b, 0, none⟩) n c) w ((W.setCell ⟨gx, 1, none⟩ (.int .i64 (c3 : Nat))).setCell ⟨gx, 2, none⟩ (.int .i64 0)) gx L cp dd k from by
    obtain ⟨r1, c1⟩ := (r6.still s).set1 c3
    obtain ⟨r2, c2⟩ := r1.set2 0
    exact ⟨_, _, _, r2, p, ((c6.trans (Chg.of_still s (fun q => q = gx)) (fun _ _ h => h)).trans c1 (fun _ _ h => h)).trans c2 (fun _ _ h => h), fun q hq => .inl (NEW.out q hq)⟩)
  obtain ⟨m, hm⟩ : ∃ m, m = (delL k L).length := ⟨_, rfl⟩
  rw [← hm] at RR SLO CR CS
  have dm : (m : Int) ≤ 65536 := by have := DLE.out; have := HN.out; omega
  have wr8 : IntKind.i64.wrap (8 * (m : Int)) = 8 * (m : Int) := by rw [IntKind.wrap_i64]; omega
  have qq0 : ∀ p : StillBy w6, p.W.cell? ⟨gx, 0, none⟩ = some (.slice oA m oc) := fun p => (RR.out.still p.still).cells.1
  have qq1 : ∀ p : StillBy w6, p.W.cell? ⟨gx, 1, none⟩ = some (.int .i64 (cp : Nat)) := fun p => (RR.out.still p.still).cells.2.1
  clear hw6 r6 c6 q0 q2 f0 f2 hm
  refine wp_region_quiet_still w6 (Still.refl _) (by kernel_rfl) (by kernel_rfl) ?_
  by_cases h8 : (8 : Int) < (cp : Int)
  · have h82 : ¬ (cp : Int) ≤ 8 := by omega
    repeat (quiet_step (fail))
    refine wpQuiet_nil ?_
    intro wq hw'
    have SQ := Lib.hid (show Still w6 wq from by obtain ⟨p, rfl⟩ := hw'; exact p.still)
    clear hw' qq0 qq1
    obtain ⟨q0, q1, q2, f0, f1, f2⟩ := (RR.out.still SQ.out).cells
    by_cases hk8 : 8 * (m : Int) < (cp : Int)
    · have hk82 : ¬ (cp : Int) ≤ 8 * (m : Int) := by omega
      have CR2 := Lib.hid (CR.out (by omega) (by omega))
      clear q1 q2 f0 f1 f2
      go_wp2_with (go_at_call 44; refine (SLO.out _).mono ?_; rintro e w7 ⟨⟨c3, rfl, sc⟩, s7⟩; have S7 := Lib.hid (Still.trans SQ.out s7); obtain ⟨p0, p1, p2, g0, g1, g2⟩ := (RR.out.still S7.out).cells; have FIN := Lib.hid (ANEW.out w7 S7.out c3 (CR2.out c3 sc)); clear s7 sc)
      all_goals go_ret
      all_goals exact ⟨rfl, FIN.out⟩
    · have hk82 : (cp : Int) ≤ 8 * (m : Int) := by omega
      have CS2 := Lib.hid (CS.out (by omega))
      clear q1 q2 f0 f1 f2
      go_wp2_with fail
      all_goals go_ret
      all_goals exact ⟨rfl, STAY.out _ SQ.out CS2.out⟩
  · have h82 : (cp : Int) ≤ 8 := by omega
    have CS2 := Lib.hid (CS.out (by omega))
    repeat (quiet_step (fail))
    refine wpQuiet_nil ?_
    intro wq hw'
    have SQ := Lib.hid (show Still w6 wq from by obtain ⟨p, rfl⟩ := hw'; exact p.still)
    clear hw' qq0 qq1
    go_wp2_with fail
    all_goals go_ret
    all_goals exact ⟨rfl, STAY.out _ SQ.out CS2.out⟩
end Go.Proofs.Ythkgnkcedoigiaa
