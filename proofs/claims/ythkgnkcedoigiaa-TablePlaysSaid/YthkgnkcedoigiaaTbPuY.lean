/- Contract: Put of the document's own table. It proves no statement. -/
import Derived.Test.YthkgnkcedoigiaaTbP4
namespace Go.Proofs.Ythkgnkcedoigiaa
open Go.RowKit
set_option linter.unusedVariables false
set_option linter.unusedSimpArgs false

attribute [local irreducible] Go.wpQuiet
theorem done_in {k : List UInt8} {v0 : List Int} {L : List KV} {p i : Nat} (h : L[p]? = some (k, v0)) (hi : p < i) : doneB k (L.take i) = true := by
  unfold doneB
  rw [List.any_eq_true]
  refine ⟨(k, v0), List.mem_iff_getElem?.2 ⟨p, by rw [List.getElem?_take, if_pos hi]; exact h⟩, by simp [atB]⟩
set_option maxRecDepth 100000 in
set_option maxHeartbeats 6400000 in
theorem rput_yes {w : World} {gx cp dd : Nat} {v0 : Value} {L : List KV} (h : RT w gx v0 L cp dd) (k : List UInt8) (x : Int) (hk : k.length = 32) (hl : L.length ≤ 65536) (hcp : cp ≤ 1048576) (hdd : dd ≤ 1048576) (hr : Rise L) (hy : hasL k L = true) :
    Calls Try.prog 15 #[.pointer (some ⟨gx, 0, none⟩), .agg (bytesV k).toArray, .int .i64 x] w fun e w' => e = .returned (.tuple #[]) ∧ PutX w w' gx L cp dd k x := by
  obtain ⟨wA, gk, kv, KB⟩ := keyBox w k hk
  have hA := h.still KB.still
  have AT := Lib.hid (at_any hA k hk (by omega))
  have HB := Lib.hid KB
  have HT := Lib.hid h
  have OK := Lib.hid h.ok
  have HR := Lib.hid hr
  have HK := Lib.hid hk
  have KOK := Lib.hid (show PrOK (k, [x]) from ⟨hk, rfl⟩)
  have KPL := Lib.hid (prL_len KOK.out)
  have BD := Lib.hid (built_Pr k hk x)
  have SLO := Lib.hid (fun W => slots_any W (L.length + 1) (by omega))
  have LSS := Lib.hid (fun (z : KV) (hz : PrOK z) W => rless_any k z.1 W hk hz.1)
  obtain ⟨fs, hfs⟩ := under_Pr
  have UP := Lib.hid hfs
  rw [← KB.hkv] at BD AT LSS
  rw [← KB.hkv]
  obtain ⟨A, c, rfl, hnc, hc, hz⟩ := h.form
  clear KB hA h hr hk hfs
  go_enter Try.func15, Try.ntmps15
  go_upto_region 1 with (guard_target =~ wpList _ _ _ (Oper.mk (some 4) _ _ _ _ _ :: _) _ _; go_must (refine wpList_box_val rfl 32 (.tmp 1) rfl (some 4) rfl kv rfl ?_))
  rw [← HB.out.hwA, ← HB.out.hgk]
  go_upto_region 2 with (first
    | (guard_target =~ wpList _ _ _ (Oper.mk (some 11) _ _ _ _ _ :: _) _ _; go_must (refine wpList_load_mid rfl 32 (.tmp 4) rfl gk 0 rfl (bytesV k) _ (HB.out.reads _ (Still.refl _)) under32 rfl HB.out.size ?_); rw [← HB.out.hkv])
    | (go_at_call 13; refine AT.out.mono ?_; rintro e w1 ⟨⟨a, rfl, ha⟩, s1⟩; have S1 := Lib.hid s1; clear s1))
  have WS := Lib.hid (fun W (s : Still w1 W) => show Still wA W from Still.trans S1.out s)
  have C0 := Lib.hid (fun W (s : Still w1 W) => show W.cell? ⟨gx, 0, none⟩ = some (.slice A L.length c) from (HT.out.still (Still.trans HB.out.still (WS.out _ s))).box.cell 0)
  have C12 := Lib.hid (fun W (s : Still w1 W) => (HT.out.still (Still.trans HB.out.still (WS.out _ s))).cells)
  have ROW := Lib.hid (fun i z (hi : L[i]? = some z) => show ∃ b, A = some ⟨b, 0, none⟩ ∧ ∀ W, Still w1 W → W.rangeAt b (i * 33) (prL z) from by
    obtain ⟨b, hb, h1, h2, h3⟩ := hz i z hi
    exact ⟨b, hb, fun W s => h3 W ((Still.trans HB.out.still (WS.out _ s)).block b h2)⟩)
  have SW1 := Lib.hid (show Still w w1 from Still.trans HB.out.still S1.out)
  have SAME := Lib.hid (fun W v2 (o : OutW w1 W (insL k [x] L) v2) (p : PutR k L cp dd cp dd) => PutX.same HT.out SW1.out o HK.out HR.out p)
  have ANEW := Lib.hid (fun W v2 c (o : OutW w1 W (insL k [x] L) v2) (p : PutR k L cp dd c 0) => PutX.anew HT.out SW1.out o HK.out HR.out p)
  obtain ⟨n, hn⟩ : ∃ n, n = L.length := ⟨_, rfl⟩
  rw [← hn] at C0 hl hnc SLO
  have HN := Lib.hid hn
  have d3 : (n : Int) ≤ 65536 := by omega
  have d4 : (cp : Int) ≤ 1048576 := by omega
  have d5 : (dd : Int) ≤ 1048576 := by omega
  clear hz hn
  obtain ⟨p, vp, hp, rfl⟩ : ∃ (p : Nat) (vp : List Int), L[p]? = some (k, vp) ∧ a = p := by
    rcases ha with ⟨hn, _⟩ | ⟨p, vp, hp, rfl⟩
    · rw [hn] at hy; cases hy
    · exact ⟨p, vp, hp, rfl⟩
  have hpn : p < n := by have := (List.getElem?_eq_some_iff.1 hp).1; have := HN.out; omega
  have HP := Lib.hid hp
  have d7 : ¬ (p : Int) < 0 := by omega
  have PR := Lib.hid (show PutR k L cp dd cp dd from by unfold PutR; rw [hy]; simp)
  clear hp ha hy
  go_wp2_with fail
  go_loopw [7, 8, 9] (fun ov dv iv wr => ∃ (i : Nat) (v : Value) (d : Bool), i ≤ n ∧ v = ov ∧ iv = .int .i64 i ∧ dv = .bool d ∧ doneB k (L.take i) = d ∧ Hid (OutW w1 wr (outP k [x] L i) v)) (fun _ _ iv _ => n - (intOf iv).toNat)
  case atStart => exact ⟨0, _, false, by omega, rfl, rfl, rfl, by simp [doneB], Lib.hid (by simpa [outP, doneB] using OutW.nil w1)⟩
  case round =>
    obtain ⟨i, v, d, hi, rfl, rfl, rfl, hd, OW⟩ := hrel
    have cc := C0.out _ OW.out.still
    by_cases hlt : i < n
    · obtain ⟨z, hz⟩ : ∃ z, L[i]? = some z := ⟨_, List.getElem?_eq_getElem (by have := HN.out; omega)⟩
      obtain ⟨b, rfl, RK⟩ := ROW.out i z hz
      have hzok := OK.out z (List.mem_of_getElem? hz)
      have RP := Lib.hid RK
      have ZOK := Lib.hid hzok
      have ZPL := Lib.hid (prL_len hzok)
      have ZSZ := Lib.hid (show (Try.prog.info? 40).map (·.size) = some (prL z).length from by rw [size_Pr, prL_len hzok])
      have OWB := Lib.hid (show (outP k [x] L i).length ≤ 1048576 from by have := outP_le k [x] L i; omega)
      have d1 : (i : Int) < (n : Int) := by omega
      by_cases hip : i = p
      · subst hip
        have hzk : z = (k, vp) := by have := HP.out; rw [hz] at this; injection this
        have hd0 : doneB k (L.take i) = false := done_before HR.out hz (by rw [hzk]) (Nat.le_refl _)
        have EQ := Lib.hid (outP_same (v := [x]) hz hd0 (by rw [hzk]))
        have DN := Lib.hid (show doneB k (L.take (i + 1)) = true from done_in HP.out (by omega))
        clear RK hzok hz hzk hd hd0
        go_wp2_with (first
          | (guard_target =~ wpList _ _ _ (Oper.mk (some 26) _ _ _ _ _ :: _) _ _; go_must (refine wpList_load_mid rfl 32 (.tmp 4) rfl gk 0 rfl (bytesV k) _ (HB.out.reads _ (WS.out _ OW.out.still)) under32 rfl HB.out.size ?_); rw [← HB.out.hkv])
          | (guard_target =~ wpList _ _ _ (Oper.mk (some 28) _ _ _ _ _ :: _) _ _; go_must (refine wpList_buildTo rfl 40 _ rfl (some 28) rfl (prL (k, [x])).toArray (by simp only [List.map_toArray, List.map_cons, List.map_nil]; exact BD.out) ?_))
          | (guard_target =~ wpList _ _ _ (Oper.mk (some 29) _ _ _ _ _ :: _) _ _; go_must (refine wpList_boxPr wr rfl (.tmp 28) rfl (k, [x]) KOK.out rfl ?_))
          | (guard_target =~ wpList _ _ _ (Oper.mk (some 30) _ _ _ _ _ :: _) _ _; go_must (refine wpList_pushPr wr rfl (.tmp 25) (.tmp 29) rfl w1.heap.size v (outP k [x] L i).length (prsV (outP k [x] L i)) rfl OW.out.own (prL (k, [x])) KPL.out (prL_one _) rfl OWB.out OW.out.still.size ?_); intro O2v O2w own' gr'; have O2 := Lib.hid (OW.out.push own' gr'); clear own' gr'))
        go_roundw
        case rel => exact ⟨i + 1, _, true, by omega, rfl, by go_num, rfl, DN.out, Lib.hid (O2.out.cast EQ.out)⟩
        case measure => simp [intOf]; omega
      · have d6 : ¬ (i : Int) = (p : Int) := by omega
        have qq : ∀ p : StillBy wr, p.W.cell? ⟨gx, 0, none⟩ = some (.slice (some ⟨b, 0, none⟩) n c) := fun p => C0.out _ (Still.trans OW.out.still p.still)
        have ES := Lib.hid (show outP k [x] L (i + 1) = outP k [x] L i ++ [z] ∧ doneB k (L.take (i + 1)) = d from by
          cases d with
          | true => exact ⟨outP_later hz hd, by rw [doneB_succ hz, hd]; rfl⟩
          | false =>
            have hpi : i < p := by
              rcases Nat.lt_or_ge p i with h | h
              · have := done_in HP.out h; rw [hd] at this; cases this
              · omega
            have hdd := done_before HR.out HP.out rfl (j := i + 1) (by omega)
            have hb := hdd
            rw [doneB_succ hz, hd, Bool.false_or] at hb
            have hb2 : ¬ z.1 = k ∧ ltK k z.1 = false := by simpa [atB] using hb
            exact ⟨outP_on hz hd hb2.1 hb2.2, hdd⟩)
        have EQ := Lib.hid ES.out.1
        have DN := Lib.hid ES.out.2
        clear RK hzok hz hd
        cases d with
        | true =>
          go_upto_region 10 with fail
          refine wp_region_quiet_still wr (Still.refl _) (by kernel_rfl) (by kernel_rfl) ?_
          repeat (first
            | quiet_step ((go_at_call 39; with_reducible exact Calls.stillby _ (LS.out _))))
          refine wpQuiet_nil ?_
          intro wq hw'
          have SQ := Lib.hid (show Still wr wq from by obtain ⟨p, rfl⟩ := hw'; exact p.still)
          clear hw'
          have OWQ := Lib.hid (OW.out.on SQ.out)
          have OWQB := Lib.hid OWB.out
          have cc := C0.out _ OWQ.out.still
          go_wp2_with (first
            | (guard_target =~ wpList _ _ _ (Oper.mk (some 62) _ _ _ _ _ :: _) _ _; go_must (refine wpList_load_mid rfl 40 (.tmp 61) rfl b (i * 33) rfl (prL z) _ (RP.out _ OWQ.out.still) UP.out rfl ZSZ.out ?_))
            | (guard_target =~ wpList _ _ _ (Oper.mk (some 63) _ _ _ _ _ :: _) _ _; go_must (refine wpList_boxPr wq rfl (.tmp 62) rfl z ZOK.out rfl ?_))
            | (guard_target =~ wpList _ _ _ (Oper.mk (some 64) _ _ _ _ _ :: _) _ _; go_must (refine wpList_pushPr wq rfl (.tmp 55) (.tmp 63) rfl w1.heap.size v (outP k [x] L i).length (prsV (outP k [x] L i)) rfl OWQ.out.own (prL z) ZPL.out (prL_one _) rfl OWQB.out OWQ.out.still.size ?_); intro O2v O2w own' gr'; have O2 := Lib.hid (OWQ.out.push own' gr'); clear own' gr'))
          go_roundw
          case rel => exact ⟨i + 1, _, true, by omega, rfl, by go_num, rfl, DN.out, Lib.hid (O2.out.cast EQ.out)⟩
          case measure => simp [intOf]; omega
        | false =>
          go_upto_region 10 with fail
          refine wp_region_quiet_still wr (Still.refl _) (by kernel_rfl) (by kernel_rfl) ?_
          repeat (first
            | quiet_step ((go_at_call 39; with_reducible exact Calls.stillby _ (LS.out _))))
          refine wpQuiet_nil ?_
          intro wq hw'
          have SQ := Lib.hid (show Still wr wq from by obtain ⟨p, rfl⟩ := hw'; exact p.still)
          clear hw'
          have OWQ := Lib.hid (OW.out.on SQ.out)
          have OWQB := Lib.hid OWB.out
          have cc := C0.out _ OWQ.out.still
          go_wp2_with (first
            | (guard_target =~ wpList _ _ _ (Oper.mk (some 62) _ _ _ _ _ :: _) _ _; go_must (refine wpList_load_mid rfl 40 (.tmp 61) rfl b (i * 33) rfl (prL z) _ (RP.out _ OWQ.out.still) UP.out rfl ZSZ.out ?_))
            | (guard_target =~ wpList _ _ _ (Oper.mk (some 63) _ _ _ _ _ :: _) _ _; go_must (refine wpList_boxPr wq rfl (.tmp 62) rfl z ZOK.out rfl ?_))
            | (guard_target =~ wpList _ _ _ (Oper.mk (some 64) _ _ _ _ _ :: _) _ _; go_must (refine wpList_pushPr wq rfl (.tmp 55) (.tmp 63) rfl w1.heap.size v (outP k [x] L i).length (prsV (outP k [x] L i)) rfl OWQ.out.own (prL z) ZPL.out (prL_one _) rfl OWQB.out OWQ.out.still.size ?_); intro O2v O2w own' gr'; have O2 := Lib.hid (OWQ.out.push own' gr'); clear own' gr'))
          go_roundw
          case rel => exact ⟨i + 1, _, false, by omega, rfl, by go_num, rfl, DN.out, Lib.hid (O2.out.cast EQ.out)⟩
          case measure => simp [intOf]; omega
    · have hin : i = n := by omega
      have hdt : doneB k (L.take i) = true := done_in HP.out (by omega)
      obtain rfl : d = true := by rw [← hd, hdt]
      have OE := Lib.hid (OW.out.cast (O' := insL k [x] L) (by have := outP_end (k := k) (v := [x]) (L := L) (i := i) (by rw [hin]; exact HN.out); rw [hdt] at this; simpa using this.symm))
      obtain ⟨q0, q1, q2, f0, f1, f2⟩ := C12.out _ OW.out.still
      obtain ⟨oA, oc, rfl, _, _, _, _⟩ := own_slice OE.out.own
      subst hin
      have d8 : ¬ (i : Int) < (i : Int) := by omega
      clear hlt hd hdt q0 q1 q2 f1 f2 hpn
      go_upto_region 16 with fail
      refine wp_region_quiet_still wr (Still.refl _) (by kernel_rfl) (by kernel_rfl) ?_
      repeat (quiet_step (fail))
      refine wpQuiet_nil ?_
      intro wq hw'
      have SQ := Lib.hid (show Still wr wq from by obtain ⟨p, rfl⟩ := hw'; exact p.still)
      clear hw'
      have FIN := Lib.hid (SAME.out wq _ (OE.out.on SQ.out) PR.out)
      have OQ := OW.out.on SQ.out
      obtain ⟨q0, q1, q2, f0, f1, f2⟩ := C12.out _ OQ.still
      clear q1 q2 f1 f2 OQ cc
      go_wp2_with fail
      go_end0
      exact ⟨rfl, FIN.out⟩
end Go.Proofs.Ythkgnkcedoigiaa
