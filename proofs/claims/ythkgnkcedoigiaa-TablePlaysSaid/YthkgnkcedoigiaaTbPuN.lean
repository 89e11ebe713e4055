/- Contract: Put of the document's own table. It proves no statement. -/
import Derived.Test.YthkgnkcedoigiaaTbPuY
namespace Go.Proofs.Ythkgnkcedoigiaa
open Go.RowKit
set_option linter.unusedVariables false
set_option linter.unusedSimpArgs false

attribute [local irreducible] Go.wpQuiet
set_option maxRecDepth 100000 in
set_option maxHeartbeats 6400000 in
theorem rput_no {w : World} {gx cp dd : Nat} {v0 : Value} {L : List KV} (h : RT w gx v0 L cp dd) (k : List UInt8) (x : Int) (hk : k.length = 32) (hl : L.length ≤ 65536) (hcp : cp ≤ 1048576) (hdd : dd ≤ 1048576) (hr : Rise L) (hy : hasL k L = false) :
    Calls Try.prog 15 #[.pointer (some ⟨gx, 0, none⟩), .agg (bytesV k).toArray, .int .i64 x] w fun e w' => e = .returned (.tuple #[]) ∧ PutX w w' gx L cp dd k x := by
  obtain ⟨wA, gk, kv, KB⟩ := keyBox w k hk
  have hA := h.still KB.still
  have AT := Lib.hid (at_any hA k hk (by omega))
  have HB := Lib.hid KB
  have HT := Lib.hid h
  have OK := Lib.hid h.ok
  have HR := Lib.hid hr
  have HK := Lib.hid hk
  have KOK := Lib.hid (show PrOK (k, [x]) from ⟨hk, rfl⟩)
  have KPL := Lib.hid (prL_len KOK.out)
  have BD := Lib.hid (built_Pr k hk x)
  have SLO := Lib.hid (fun W => slots_any W (L.length + 1) (by omega))
  have LSS := Lib.hid (fun (z : KV) (hz : PrOK z) W => rless_any k z.1 W hk hz.1)
  obtain ⟨fs, hfs⟩ := under_Pr
  have UP := Lib.hid hfs
  rw [← KB.hkv] at BD AT LSS
  rw [← KB.hkv]
  obtain ⟨A, c, rfl, hnc, hc, hz⟩ := h.form
  clear KB hA h hr hk hfs
  go_enter Try.func15, Try.ntmps15
  go_upto_region 1 with (guard_target =~ wpList _ _ _ (Oper.mk (some 4) _ _ _ _ _ :: _) _ _; go_must (refine wpList_box_val rfl 32 (.tmp 1) rfl (some 4) rfl kv rfl ?_))
  rw [← HB.out.hwA, ← HB.out.hgk]
  go_upto_region 2 with (first
    | (guard_target =~ wpList _ _ _ (Oper.mk (some 11) _ _ _ _ _ :: _) _ _; go_must (refine wpList_load_mid rfl 32 (.tmp 4) rfl gk 0 rfl (bytesV k) _ (HB.out.reads _ (Still.refl _)) under32 rfl HB.out.size ?_); rw [← HB.out.hkv])
    | (go_at_call 13; refine AT.out.mono ?_; rintro e w1 ⟨⟨a, rfl, ha⟩, s1⟩; have S1 := Lib.hid s1; clear s1))
  have WS := Lib.hid (fun W (s : Still w1 W) => show Still wA W from Still.trans S1.out s)
  have C0 := Lib.hid (fun W (s : Still w1 W) => show W.cell? ⟨gx, 0, none⟩ = some (.slice A L.length c) from (HT.out.still (Still.trans HB.out.still (WS.out _ s))).box.cell 0)
  have C12 := Lib.hid (fun W (s : Still w1 W) => (HT.out.still (Still.trans HB.out.still (WS.out _ s))).cells)
  have ROW := Lib.hid (fun i z (hi : L[i]? = some z) => show ∃ b, A = some ⟨b, 0, none⟩ ∧ ∀ W, Still w1 W → W.rangeAt b (i * 33) (prL z) from by
    obtain ⟨b, hb, h1, h2, h3⟩ := hz i z hi
    exact ⟨b, hb, fun W s => h3 W ((Still.trans HB.out.still (WS.out _ s)).block b h2)⟩)
  have SW1 := Lib.hid (show Still w w1 from Still.trans HB.out.still S1.out)
  have SAME := Lib.hid (fun W v2 (o : OutW w1 W (insL k [x] L) v2) (p : PutR k L cp dd cp dd) => PutX.same HT.out SW1.out o HK.out HR.out p)
  have ANEW := Lib.hid (fun W v2 c (o : OutW w1 W (insL k [x] L) v2) (p : PutR k L cp dd c 0) => PutX.anew HT.out SW1.out o HK.out HR.out p)
  obtain ⟨n, hn⟩ : ∃ n, n = L.length := ⟨_, rfl⟩
  rw [← hn] at C0 hl hnc SLO
  have HN := Lib.hid hn
  have d3 : (n : Int) ≤ 65536 := by omega
  have d4 : (cp : Int) ≤ 1048576 := by omega
  have d5 : (dd : Int) ≤ 1048576 := by omega
  clear hz hn
  obtain rfl : a = -1 := by
    rcases ha with ⟨_, rfl⟩ | ⟨p, vp, hp, rfl⟩
    · rfl
    · have := hasL_iff.2 ⟨vp, List.mem_of_getElem? hp⟩; rw [hy] at this; cases this
  have NO := Lib.hid hy
  have PRT := Lib.hid (fun (h : 3 * (cp : Int) < 4 * ((n : Int) + (dd : Int) + 1)) (c : Nat) (hc : SlotsR (n + 1) c) => show PutR k L cp dd c 0 from by
    unfold PutR; rw [hy]
    simp only [Bool.false_eq_true, if_false]
    rw [if_pos (by rw [← HN.out]; omega), ← HN.out]
    exact ⟨hc.put, by trivial⟩)
  have PRF := Lib.hid (fun (h : ¬ 3 * (cp : Int) < 4 * ((n : Int) + (dd : Int) + 1)) => show PutR k L cp dd cp dd from by
    unfold PutR; rw [hy]
    simp only [Bool.false_eq_true, if_false]
    rw [if_neg (by rw [← HN.out]; omega)]
    first | exact ⟨rfl, rfl⟩ | exact ⟨trivial, trivial⟩ | trivial)
  have SLO := Lib.hid (show ∀ W, Calls Try.prog 44 #[.int .i64 ((n : Int) + 1)] W (fun e w' => (∃ c : Nat, e = .returned (.int .i64 (c : Nat)) ∧ SlotsR (n + 1) c) ∧ Still W w') from SLO.out)
  clear ha hy
  go_wp2_with fail
  go_loopw [7, 8, 9] (fun ov dv iv wr => ∃ (i : Nat) (v : Value) (d : Bool), i ≤ n ∧ v = ov ∧ iv = .int .i64 i ∧ dv = .bool d ∧ doneB k (L.take i) = d ∧ Hid (OutW w1 wr (outP k [x] L i) v)) (fun _ _ iv _ => n - (intOf iv).toNat)
  case atStart => exact ⟨0, _, false, by omega, rfl, rfl, rfl, by simp [doneB], Lib.hid (by simpa [outP, doneB] using OutW.nil w1)⟩
  case round =>
    obtain ⟨i, v, d, hi, rfl, rfl, rfl, hd, OW⟩ := hrel
    have cc := C0.out _ OW.out.still
    by_cases hlt : i < n
    · obtain ⟨z, hz⟩ : ∃ z, L[i]? = some z := ⟨_, List.getElem?_eq_getElem (by have := HN.out; omega)⟩
      obtain ⟨b, rfl, RK⟩ := ROW.out i z hz
      have hzok := OK.out z (List.mem_of_getElem? hz)
      have RP := Lib.hid RK
      have ZOK := Lib.hid hzok
      have ZPL := Lib.hid (prL_len hzok)
      have ZSZ := Lib.hid (show (Try.prog.info? 40).map (·.size) = some (prL z).length from by rw [size_Pr, prL_len hzok])
      have OWB := Lib.hid (show (outP k [x] L i).length ≤ 1048576 from by have := outP_le k [x] L i; omega)
      have d1 : (i : Int) < (n : Int) := by omega
      have hne : z.1 ≠ k := fun e => hasL_no.1 NO.out z.2 (by rw [← e]; exact List.mem_of_getElem? hz)
      have d6 : ¬ (i : Int) = -1 := by omega
      have qq : ∀ p : StillBy wr, p.W.cell? ⟨gx, 0, none⟩ = some (.slice (some ⟨b, 0, none⟩) n c) := fun p => C0.out _ (Still.trans OW.out.still p.still)
      cases d with
      | true =>
        have EQ := Lib.hid (outP_later (v := [x]) hz hd)
        have DN := Lib.hid (show doneB k (L.take (i + 1)) = true from by rw [doneB_succ hz, hd]; rfl)
        clear RK hzok hz hd hne
        go_upto_region 10 with fail
        refine wp_region_quiet_still wr (Still.refl _) (by kernel_rfl) (by kernel_rfl) ?_
        repeat (first
          | quiet_step ((go_at_call 39; with_reducible exact Calls.stillby _ (LS.out _))))
        refine wpQuiet_nil ?_
        intro wq hw'
        have SQ := Lib.hid (show Still wr wq from by obtain ⟨p, rfl⟩ := hw'; exact p.still)
        clear hw'
        have OWQ := Lib.hid (OW.out.on SQ.out)
        have OWQB := Lib.hid OWB.out
        have cc := C0.out _ OWQ.out.still
        go_wp2_with (first
          | (guard_target =~ wpList _ _ _ (Oper.mk (some 62) _ _ _ _ _ :: _) _ _; go_must (refine wpList_load_mid rfl 40 (.tmp 61) rfl b (i * 33) rfl (prL z) _ (RP.out _ OWQ.out.still) UP.out rfl ZSZ.out ?_))
          | (guard_target =~ wpList _ _ _ (Oper.mk (some 63) _ _ _ _ _ :: _) _ _; go_must (refine wpList_boxPr wq rfl (.tmp 62) rfl z ZOK.out rfl ?_))
          | (guard_target =~ wpList _ _ _ (Oper.mk (some 64) _ _ _ _ _ :: _) _ _; go_must (refine wpList_pushPr wq rfl (.tmp 55) (.tmp 63) rfl w1.heap.size v (outP k [x] L i).length (prsV (outP k [x] L i)) rfl OWQ.out.own (prL z) ZPL.out (prL_one _) rfl OWQB.out OWQ.out.still.size ?_); intro O2v O2w own' gr'; have O2 := Lib.hid (OWQ.out.push own' gr'); clear own' gr'))
        go_roundw
        case rel => exact ⟨i + 1, _, true, by omega, rfl, by go_num, rfl, DN.out, Lib.hid (O2.out.cast EQ.out)⟩
        case measure => simp [intOf]; omega
      | false =>
        have RZ := Lib.hid (fun W (s : Still w1 W) => show W.rangeAt b (i * 33) (bytesV z.1) from fun j u hj => RP.out W s j u (prL_key hj))
        have ZSK := Lib.hid (show (Try.prog.info? 32).map (·.size) = some (bytesV z.1).length from by rw [size32, bytesV_length, hzok.1])
        cases hlk : ltK k z.1 with
        | true =>
          have LS := Lib.hid (fun (p : StillBy wr) => LSS.out z hzok p.W)
          rw [hlk] at LS
          have EQ := Lib.hid (outP_here (v := [x]) hz hd hne hlk)
          have DN := Lib.hid (show doneB k (L.take (i + 1)) = true from by rw [doneB_succ hz, hd]; simp [atB, hlk])
          clear RK hzok hz hd hne hlk
          go_upto_region 10 with fail
          refine wp_region_quiet_still wr (Still.refl _) (by kernel_rfl) (by kernel_rfl) ?_
          repeat (first
            | (guard_target =~ wpQuiet _ _ _ _ (Oper.mk (some 38) _ _ _ _ _ :: _) _; go_must (refine quiet_load_mid (by kernel_rfl) 32 (.tmp 4) rfl gk 0 (by kernel_rfl) (bytesV k) _ (fun W hW => by obtain ⟨p, rfl⟩ := hW; exact HB.out.reads _ (WS.out _ (Still.trans OW.out.still p.still))) under32 rfl HB.out.size ?_); rw [← HB.out.hkv])
            | (guard_target =~ wpQuiet _ _ _ _ (Oper.mk (some 46) _ _ _ _ _ :: _) _; go_must (refine quiet_load_mid (by kernel_rfl) 32 (.tmp 45) rfl b (i * 33) (by kernel_rfl) (bytesV z.1) _ (fun W hW => by obtain ⟨p, rfl⟩ := hW; exact RZ.out _ (Still.trans OW.out.still p.still)) under32 rfl ZSK.out ?_))
            | quiet_step ((go_at_call 39; with_reducible exact Calls.stillby _ (LS.out _))))
          refine wpQuiet_nil ?_
          intro wq hw'
          have SQ := Lib.hid (show Still wr wq from by obtain ⟨p, rfl⟩ := hw'; exact p.still)
          clear hw'
          have OWQ := Lib.hid (OW.out.on SQ.out)
          have OWQB := Lib.hid OWB.out
          have cc := C0.out _ OWQ.out.still
          have OKB := OWB.out
          have OXB := Lib.hid (show (outP k [x] L i ++ [(k, [x])]).length ≤ 1048576 from by have := outP_le k [x] L i; rw [List.length_append]; simp only [List.length_cons, List.length_nil]; omega)
          go_wp2_with (first
            | (guard_target =~ wpList _ _ _ (Oper.mk (some 50) _ _ _ _ _ :: _) _ _; go_must (refine wpList_load_mid rfl 32 (.tmp 4) rfl gk 0 rfl (bytesV k) _ (HB.out.reads _ (WS.out _ OWQ.out.still)) under32 rfl HB.out.size ?_); rw [← HB.out.hkv])
            | (guard_target =~ wpList _ _ _ (Oper.mk (some 52) _ _ _ _ _ :: _) _ _; go_must (refine wpList_buildTo rfl 40 _ rfl (some 52) rfl (prL (k, [x])).toArray (by simp only [List.map_toArray, List.map_cons, List.map_nil]; exact BD.out) ?_))
            | (guard_target =~ wpList _ _ _ (Oper.mk (some 53) _ _ _ _ _ :: _) _ _; go_must (refine wpList_boxPr wq rfl (.tmp 52) rfl (k, [x]) KOK.out rfl ?_))
            | (guard_target =~ wpList _ _ _ (Oper.mk (some 54) _ _ _ _ _ :: _) _ _; go_must (refine wpList_pushPr wq rfl (.tmp 49) (.tmp 53) rfl w1.heap.size v (outP k [x] L i).length (prsV (outP k [x] L i)) rfl OWQ.out.own (prL (k, [x])) KPL.out (prL_one _) rfl OWQB.out OWQ.out.still.size ?_); intro OXv OXw own' gr'; have OX := Lib.hid (OWQ.out.push own' gr'); clear own' gr'); have cc2 := C0.out _ OX.out.still
            | (guard_target =~ wpList _ _ _ (Oper.mk (some 62) _ _ _ _ _ :: _) _ _; go_must (refine wpList_load_mid rfl 40 (.tmp 61) rfl b (i * 33) rfl (prL z) _ (RP.out _ OX.out.still) UP.out rfl ZSZ.out ?_))
            | (guard_target =~ wpList _ _ _ (Oper.mk (some 63) _ _ _ _ _ :: _) _ _; go_must (refine wpList_boxPr OXw rfl (.tmp 62) rfl z ZOK.out rfl ?_))
            | (guard_target =~ wpList _ _ _ (Oper.mk (some 64) _ _ _ _ _ :: _) _ _; go_must (refine wpList_pushPr OXw rfl (.tmp 55) (.tmp 63) rfl w1.heap.size OXv (outP k [x] L i ++ [(k, [x])]).length (prsV (outP k [x] L i ++ [(k, [x])])) rfl OX.out.own (prL z) ZPL.out (prL_one _) rfl OXB.out OX.out.still.size ?_); intro O2v O2w own' gr'; have O2 := Lib.hid (OX.out.push own' gr'); clear own' gr'))
          go_roundw
          case rel => exact ⟨i + 1, _, true, by omega, rfl, by go_num, rfl, DN.out, Lib.hid (O2.out.cast EQ.out)⟩
          case measure => simp [intOf]; omega
        | false =>
          have LS := Lib.hid (fun (p : StillBy wr) => LSS.out z hzok p.W)
          rw [hlk] at LS
          have EQ := Lib.hid (outP_on (v := [x]) hz hd hne hlk)
          have DN := Lib.hid (show doneB k (L.take (i + 1)) = false from by rw [doneB_succ hz, hd]; simp [atB, hlk, hne])
          clear RK hzok hz hd hne hlk
          go_upto_region 10 with fail
          refine wp_region_quiet_still wr (Still.refl _) (by kernel_rfl) (by kernel_rfl) ?_
          repeat (first
            | (guard_target =~ wpQuiet _ _ _ _ (Oper.mk (some 38) _ _ _ _ _ :: _) _; go_must (refine quiet_load_mid (by kernel_rfl) 32 (.tmp 4) rfl gk 0 (by kernel_rfl) (bytesV k) _ (fun W hW => by obtain ⟨p, rfl⟩ := hW; exact HB.out.reads _ (WS.out _ (Still.trans OW.out.still p.still))) under32 rfl HB.out.size ?_); rw [← HB.out.hkv])
            | (guard_target =~ wpQuiet _ _ _ _ (Oper.mk (some 46) _ _ _ _ _ :: _) _; go_must (refine quiet_load_mid (by kernel_rfl) 32 (.tmp 45) rfl b (i * 33) (by kernel_rfl) (bytesV z.1) _ (fun W hW => by obtain ⟨p, rfl⟩ := hW; exact RZ.out _ (Still.trans OW.out.still p.still)) under32 rfl ZSK.out ?_))
            | quiet_step ((go_at_call 39; with_reducible exact Calls.stillby _ (LS.out _))))
          refine wpQuiet_nil ?_
          intro wq hw'
          have SQ := Lib.hid (show Still wr wq from by obtain ⟨p, rfl⟩ := hw'; exact p.still)
          clear hw'
          have OWQ := Lib.hid (OW.out.on SQ.out)
          have OWQB := Lib.hid OWB.out
          have cc := C0.out _ OWQ.out.still
          go_wp2_with (first
            | (guard_target =~ wpList _ _ _ (Oper.mk (some 62) _ _ _ _ _ :: _) _ _; go_must (refine wpList_load_mid rfl 40 (.tmp 61) rfl b (i * 33) rfl (prL z) _ (RP.out _ OWQ.out.still) UP.out rfl ZSZ.out ?_))
            | (guard_target =~ wpList _ _ _ (Oper.mk (some 63) _ _ _ _ _ :: _) _ _; go_must (refine wpList_boxPr wq rfl (.tmp 62) rfl z ZOK.out rfl ?_))
            | (guard_target =~ wpList _ _ _ (Oper.mk (some 64) _ _ _ _ _ :: _) _ _; go_must (refine wpList_pushPr wq rfl (.tmp 55) (.tmp 63) rfl w1.heap.size v (outP k [x] L i).length (prsV (outP k [x] L i)) rfl OWQ.out.own (prL z) ZPL.out (prL_one _) rfl OWQB.out OWQ.out.still.size ?_); intro O2v O2w own' gr'; have O2 := Lib.hid (OWQ.out.push own' gr'); clear own' gr'))
          go_roundw
          case rel => exact ⟨i + 1, _, false, by omega, rfl, by go_num, rfl, DN.out, Lib.hid (O2.out.cast EQ.out)⟩
          case measure => simp [intOf]; omega
    · have hin : i = n := by omega
      subst hin
      have EN := Lib.hid (outP_end (k := k) (v := [x]) (L := L) (i := i) HN.out)
      have OWB := Lib.hid (show (outP k [x] L i).length ≤ 1048576 from by have := outP_le k [x] L i; omega)
      have d8 : ¬ (i : Int) < (i : Int) := by omega
      clear hlt
      cases d with
      | true =>
        have OE := Lib.hid (OW.out.cast (O' := insL k [x] L) (by have := EN.out; rw [hd] at this; simpa using this.symm))
        clear hd
        go_upto_region 16 with fail
        obtain ⟨oA, oc, rfl, _, _, _, _⟩ := own_slice OE.out.own
        have qq0 : ∀ p : StillBy wr, p.W.cell? ⟨gx, 0, none⟩ = some (.slice A i c) := fun p => C0.out _ (Still.trans OE.out.still p.still)
        have qq1 : ∀ p : StillBy wr, p.W.cell? ⟨gx, 1, none⟩ = some (.int .i64 (cp : Nat)) := fun p => (C12.out _ (Still.trans OE.out.still p.still)).2.1
        have qq2 : ∀ p : StillBy wr, p.W.cell? ⟨gx, 2, none⟩ = some (.int .i64 (dd : Nat)) := fun p => (C12.out _ (Still.trans OE.out.still p.still)).2.2.1
        have wr1 : IntKind.i64.wrap ((i : Int) + (dd : Int)) = (i : Int) + (dd : Int) := by rw [IntKind.wrap_i64]; omega
        have wr2 : IntKind.i64.wrap ((i : Int) + (dd : Int) + 1) = (i : Int) + (dd : Int) + 1 := by rw [IntKind.wrap_i64]; omega
        have wr3 : IntKind.i64.wrap (4 * ((i : Int) + (dd : Int) + 1)) = 4 * ((i : Int) + (dd : Int) + 1) := by rw [IntKind.wrap_i64]; omega
        have wr4 : IntKind.i64.wrap (3 * (cp : Int)) = 3 * (cp : Int) := by rw [IntKind.wrap_i64]; omega
        refine wp_region_quiet_still wr (Still.refl _) (by kernel_rfl) (by kernel_rfl) ?_
        repeat (quiet_step (fail))
        refine wpQuiet_nil ?_
        intro wq hw'
        have SQ := Lib.hid (show Still wr wq from by obtain ⟨p, rfl⟩ := hw'; exact p.still)
        clear hw' qq0 qq1 qq2
        have OQ := Lib.hid (OE.out.on SQ.out)
        have cc := C0.out _ OQ.out.still
        by_cases hcap : 3 * (cp : Int) < 4 * ((i : Int) + (dd : Int) + 1)
        · have hcap2 : ¬ 4 * ((i : Int) + (dd : Int) + 1) ≤ 3 * (cp : Int) := by omega
          go_wp2_with (go_at_call 44; refine (SLO.out _).mono ?_; rintro e w3 ⟨⟨c3, rfl, sc⟩, s3⟩; have OR := Lib.hid (OQ.out.on s3); obtain ⟨q0, q1, q2, f0, f1, f2⟩ := C12.out _ OR.out.still; have FIN := Lib.hid (ANEW.out w3 _ c3 OR.out (PRT.out (by first | exact hcap | exact hcap2) c3 sc)); clear s3 sc)
          go_end0
          exact ⟨rfl, FIN.out⟩
        · have hcap2 : 4 * ((i : Int) + (dd : Int) + 1) ≤ 3 * (cp : Int) := by omega
          obtain ⟨q0, q1, q2, f0, f1, f2⟩ := C12.out _ OQ.out.still
          have FIN := Lib.hid (SAME.out wq _ OQ.out (PRF.out (by first | exact hcap | exact hcap2)))
          clear q1 q2 f1 f2
          go_wp2_with fail
          go_end0
          exact ⟨rfl, FIN.out⟩
      | false =>
        have CAST := Lib.hid (show insL k [x] L = outP k [x] L i ++ [(k, [x])] from by have := EN.out; rw [hd] at this; simpa using this.symm)
        clear hd
        go_upto_region 16 with (first
          | (guard_target =~ wpList _ _ _ (Oper.mk (some 68) _ _ _ _ _ :: _) _ _; go_must (refine wpList_load_mid rfl 32 (.tmp 4) rfl gk 0 rfl (bytesV k) _ (HB.out.reads _ (WS.out _ OW.out.still)) under32 rfl HB.out.size ?_); rw [← HB.out.hkv])
          | (guard_target =~ wpList _ _ _ (Oper.mk (some 70) _ _ _ _ _ :: _) _ _; go_must (refine wpList_buildTo rfl 40 _ rfl (some 70) rfl (prL (k, [x])).toArray (by simp only [List.map_toArray, List.map_cons, List.map_nil]; exact BD.out) ?_))
          | (guard_target =~ wpList _ _ _ (Oper.mk (some 71) _ _ _ _ _ :: _) _ _; go_must (refine wpList_boxPr wr rfl (.tmp 70) rfl (k, [x]) KOK.out rfl ?_))
          | (guard_target =~ wpList _ _ _ (Oper.mk (some 72) _ _ _ _ _ :: _) _ _; go_must (refine wpList_pushPr wr rfl (.tmp 67) (.tmp 71) rfl w1.heap.size v (outP k [x] L i).length (prsV (outP k [x] L i)) rfl OW.out.own (prL (k, [x])) KPL.out (prL_one _) rfl OWB.out OW.out.still.size ?_); intro O2v O2w own' gr'; have O2 := Lib.hid (OW.out.push own' gr'); clear own' gr'); clear cc)
        have OE := Lib.hid (O2.out.cast CAST.out)
        obtain ⟨oA, oc, rfl, _, _, _, _⟩ := own_slice OE.out.own
        have qq0 : ∀ p : StillBy O2w, p.W.cell? ⟨gx, 0, none⟩ = some (.slice A i c) := fun p => C0.out _ (Still.trans OE.out.still p.still)
        have qq1 : ∀ p : StillBy O2w, p.W.cell? ⟨gx, 1, none⟩ = some (.int .i64 (cp : Nat)) := fun p => (C12.out _ (Still.trans OE.out.still p.still)).2.1
        have qq2 : ∀ p : StillBy O2w, p.W.cell? ⟨gx, 2, none⟩ = some (.int .i64 (dd : Nat)) := fun p => (C12.out _ (Still.trans OE.out.still p.still)).2.2.1
        have wr1 : IntKind.i64.wrap ((i : Int) + (dd : Int)) = (i : Int) + (dd : Int) := by rw [IntKind.wrap_i64]; omega
        have wr2 : IntKind.i64.wrap ((i : Int) + (dd : Int) + 1) = (i : Int) + (dd : Int) + 1 := by rw [IntKind.wrap_i64]; omega
        have wr3 : IntKind.i64.wrap (4 * ((i : Int) + (dd : Int) + 1)) = 4 * ((i : Int) + (dd : Int) + 1) := by rw [IntKind.wrap_i64]; omega
        have wr4 : IntKind.i64.wrap (3 * (cp : Int)) = 3 * (cp : Int) := by rw [IntKind.wrap_i64]; omega
        refine wp_region_quiet_still O2w (Still.refl _) (by kernel_rfl) (by kernel_rfl) ?_
        repeat (quiet_step (fail))
        refine wpQuiet_nil ?_
        intro wq hw'
        have SQ := Lib.hid (show Still O2w wq from by obtain ⟨p, rfl⟩ := hw'; exact p.still)
        clear hw' qq0 qq1 qq2
        have OQ := Lib.hid (OE.out.on SQ.out)
        have cc := C0.out _ OQ.out.still
        by_cases hcap : 3 * (cp : Int) < 4 * ((i : Int) + (dd : Int) + 1)
        · have hcap2 : ¬ 4 * ((i : Int) + (dd : Int) + 1) ≤ 3 * (cp : Int) := by omega
          go_wp2_with (go_at_call 44; refine (SLO.out _).mono ?_; rintro e w3 ⟨⟨c3, rfl, sc⟩, s3⟩; have OR := Lib.hid (OQ.out.on s3); obtain ⟨q0, q1, q2, f0, f1, f2⟩ := C12.out _ OR.out.still; have FIN := Lib.hid (ANEW.out w3 _ c3 OR.out (PRT.out (by first | exact hcap | exact hcap2) c3 sc)); clear s3 sc)
          go_end0
          exact ⟨rfl, FIN.out⟩
        · have hcap2 : 4 * ((i : Int) + (dd : Int) + 1) ≤ 3 * (cp : Int) := by omega
          obtain ⟨q0, q1, q2, f0, f1, f2⟩ := C12.out _ OQ.out.still
          have FIN := Lib.hid (SAME.out wq _ OQ.out (PRF.out (by first | exact hcap | exact hcap2)))
          clear q1 q2 f1 f2
          go_wp2_with fail
          go_end0
          exact ⟨rfl, FIN.out⟩
end Go.Proofs.Ythkgnkcedoigiaa
