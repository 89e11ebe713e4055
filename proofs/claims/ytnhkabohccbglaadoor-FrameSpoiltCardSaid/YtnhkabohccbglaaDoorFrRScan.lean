/- The document's own Scan. It proves no statement. -/
import Derived.Test.YtnhkabohccbglaaDoorFrScan
import Derived.Deep.QuietTactic
import Derived.BigQuiet
namespace Go.Proofs.YtnhkabohccbglaaDoor
open Go.RowKit
set_option linter.unusedVariables false
set_option linter.unusedSimpArgs false

theorem rmagic_any (w : World) : Calls Tryd.prog 40 #[] w fun e w' => ∃ g, e = .returned (.slice (some ⟨g, 0, none⟩) 8 8) ∧ Reads w' w'.heap.size (some ⟨g, 0, none⟩) 8 magic ∧ Still w w' := by
  go_enter Tryd.func40, Tryd.ntmps40
  go_wp2_with fail
  go_ret
  exact ⟨_, rfl, (const_reads w magic (0, 0)).more (by simp), (Still.refl w).alloc (Nat.le_refl _) _⟩
set_option maxRecDepth 100000 in
set_option maxHeartbeats 6400000 in
theorem rscan_any (A : Option Addr) (n c : Nat) (l : List UInt8) (w : World) (B : Nat) (hr : Reads w B A n l) (hB : B ≤ w.heap.size) (hn : n ≤ 1048576) (hc : n ≤ c) (hcm : c ≤ 9223372036854775807) :
    Calls Tryd.prog 23 #[.slice A n c] w fun e w' => (∃ lv xs, e = .returned (.tuple #[lv, .int .i64 ((scanR l).2.1 : Nat), .int .i64 (scanR l).2.2]) ∧ w'.ownsRow w.heap.size 55 36 lv (scanR l).1.length xs ∧ HasF w' w.heap.size (scanR l).1 xs) ∧ Still w w' := by
  have hlen := hr.1
  have RR := Lib.hid (fun W (s : Still w W) => hr.still hB s)
  have FC := Lib.hid (show n ≤ 1048576 ∧ n ≤ c ∧ c ≤ 9223372036854775807 ∧ B ≤ w.heap.size ∧ l.length = n from ⟨hn, hc, hcm, hB, hlen⟩)
  clear hr hlen
  by_cases h8 : n < 8
  · have hs0 : scanR l = ([], 0, 4) := by unfold scanR; rw [if_neg (by rw [FC.out.2.2.2.2]; omega)]
    have HS := Lib.hid hs0
    have d8 : (n : Int) < 8 := by omega
    clear hs0
    clear h8 hn hc hcm hB RR FC
    go_enter Tryd.func23, Tryd.ntmps23
    go_wp2_with fail
    go_quiet (fail)
    go_wp2_with fail
    go_ret3
    rw [HS.out]
    exact ⟨⟨.slice none 0 0, [], rfl, World.ownsRow_nil _ _ _ _, rfl⟩, still_drewN (Still.refl w) _⟩
  have D8 := Lib.hid (show 8 ≤ n by omega)
  have MG := Lib.hid (fun W => rmagic_any W)
  have SM := Lib.hid (fun W (s : Still w W) A' B' (h' : Reads W B' A' 8 magic) => same_any A A' 8 8 c 8 (l.take 8) magic W B B' (by have h := (RR.out W s).take 8; rw [Nat.min_eq_right D8.out] at h; exact h) h' (by omega) (by omega))
  have d1 : (8 : Int) ≤ (n : Int) := by omega
  have d2 : (8 : Int) ≤ (c : Int) := by omega
  have d3 : ¬ (n : Int) < 8 := by omega
  have d4 : decide ((n : Int) < 8) = false := by simp; omega
  go_enter Tryd.func23, Tryd.ntmps23
  go_upto_region 1 with fail
  refine wp_region_any (by kernel_rfl) ?_
  change wpAny _ _ _ _ _ _ _ w.drew
  obtain ⟨wa, hwa⟩ : ∃ wa, wa = w.drew := ⟨_, rfl⟩
  have SA := Lib.hid (show Still w wa by rw [hwa]; exact (Still.refl _).drew)
  rw [← hwa]
  clear hwa
  try simp only [Act.put, List.setIfInBounds_toArray, List.set_cons_zero, List.set_cons_succ]
  refine wpAny_take (i := 0) (v := .slice A n c) rfl (by kernel_rfl) (by kernel_rfl) (by kernel_rfl) (fun _ _ _ h => h) (Or.inl ⟨by kernel_rfl, fun w => by go_simp⟩) ?_
  try simp only [Act.put, List.setIfInBounds_toArray, List.set_cons_zero, List.set_cons_succ]
  refine wpAny_take (i := 1) (v := .int .i64 (n : Int)) rfl (by kernel_rfl) (by kernel_rfl) (by kernel_rfl) (fun _ _ _ h => h) (Or.inl ⟨by kernel_rfl, fun w => by go_simp⟩) ?_
  try simp only [Act.put, List.setIfInBounds_toArray, List.set_cons_zero, List.set_cons_succ]
  refine wpAny_take (i := 2) (v := .bool false) rfl (by kernel_rfl) (by kernel_rfl) (by kernel_rfl) (fun _ _ _ h => h) (Or.inl ⟨by kernel_rfl, fun w => by go_simp⟩) ?_
  try simp only [Act.put, List.setIfInBounds_toArray, List.set_cons_zero, List.set_cons_succ]
  refine wpAny_take (i := 3) (v := .bool false) rfl (by kernel_rfl) (by kernel_rfl) (by kernel_rfl) (fun _ _ _ h => h) (Or.inl ⟨by kernel_rfl, fun w => by go_simp⟩) ?_
  try simp only [Act.put, List.setIfInBounds_toArray, List.set_cons_zero, List.set_cons_succ]
  refine wpAny_take (i := 4) (v := .slice A n c) rfl (by kernel_rfl) (by kernel_rfl) (by kernel_rfl) (fun _ _ _ h => h) (Or.inl ⟨by kernel_rfl, fun w => by go_simp⟩) ?_
  try simp only [Act.put, List.setIfInBounds_toArray, List.set_cons_zero, List.set_cons_succ]
  refine wpAny_take (i := 5) (v := .slice A 8 c) rfl (by kernel_rfl) (by kernel_rfl) (by kernel_rfl) (fun _ _ _ h => h) (Or.inl ⟨by kernel_rfl, fun w => by go_simp⟩) ?_
  try simp only [Act.put, List.setIfInBounds_toArray, List.set_cons_zero, List.set_cons_succ]
  refine wpAny_ready (rs := [6]) (by kernel_rfl) (by simp) ?_
  refine AllReady.cons (o := ⟨some 16, .call { callee := .value (.func 40), args := #[], argTypes := #[] }, _, _, _, _⟩) rfl (fun K' hK' => ?_) AllReady.nil
  have HK' := Lib.hid hK'
  clear hK'
  go_simp
  go_wp2_with (go_at_call 40; refine (MG.out wa).mono ?_; rintro e w1 ⟨gm, rfl, rm, s1⟩)
  refine HK'.out _ _ ?_
  clear HK' K'
  have S1 := Lib.hid (Still.trans SA.out s1)
  have SMM := SM.out w1 S1.out _ _ rm
  rw [show decide (l.take 8 = magic) = decide (8 ≤ n ∧ l.take 8 = magic) by simp [D8.out]] at SMM
  obtain ⟨q, hq⟩ : ∃ q, q = decide (8 ≤ n ∧ l.take 8 = magic) := ⟨_, rfl⟩
  rw [← hq] at SMM
  have SMH := Lib.hid SMM
  have HQ := Lib.hid hq
  clear SMM hq rm s1 SM MG
  try simp only [Act.put, List.setIfInBounds_toArray, List.set_cons_zero, List.set_cons_succ]
  refine wpAny_ready (rs := [7]) (by kernel_rfl) (by simp) ?_
  refine AllReady.cons (o := ⟨some 17, .call { callee := .value (.func 14), args := #[.tmp 15, .tmp 16], argTypes := #[24, 24] }, _, _, _, _⟩) rfl (fun K' hK' => ?_) AllReady.nil
  have HK' := Lib.hid hK'
  clear hK'
  go_simp
  go_wp2_with (go_at_call 14; refine SMH.out.mono ?_; rintro e w2 ⟨rfl, s2⟩)
  refine HK'.out _ _ ?_
  clear HK' K'
  have S2 := Lib.hid (Still.trans S1.out s2)
  clear s2 SMH SA S1
  try simp only [Act.put, List.setIfInBounds_toArray, List.set_cons_zero, List.set_cons_succ]
  refine wpAny_take (i := 8) (v := .bool (!q)) rfl (by kernel_rfl) (by kernel_rfl) (by kernel_rfl) (fun _ _ _ h => h) (Or.inl ⟨by kernel_rfl, fun w => by go_simp⟩) ?_
  try simp only [Act.put, List.setIfInBounds_toArray, List.set_cons_zero, List.set_cons_succ]
  refine wpAny_take (i := 9) (v := .bool (!q)) rfl (by kernel_rfl) (by kernel_rfl) (by kernel_rfl) (fun _ _ _ h => h) (Or.inl ⟨by kernel_rfl, fun w => by go_simp⟩) ?_
  try simp only [Act.put, List.setIfInBounds_toArray, List.set_cons_zero, List.set_cons_succ]
  refine wpAny_done (by kernel_rfl) ?_ _
  have S1 : Hid (Still w w2) := S2
  clear S2 d1 d2 d3 d4 h8
  by_cases hm : 8 ≤ n ∧ l.take 8 = magic
  · have hs0 : scanR l = scF l l.length 8 := by unfold scanR; rw [if_pos (by rw [FC.out.2.2.2.2]; exact hm)]
    have HS := Lib.hid hs0
    obtain rfl : q = true := by rw [HQ.out]; simpa using hm
    have N8 := Lib.hid hm.1
    have dc : n ≤ c := hc
    clear hs0 hm hc hcm
    obtain ⟨fs, hu⟩ := underEnt
    have HU := Lib.hid hu
    clear hu
    go_wp2_with fail
    go_loopw [5, 6] (fun lx iv wr => ∃ (a : Nat) (lv : Value), lv = lx ∧ iv = .int .i64 a ∧ 8 ≤ a ∧ a ≤ n ∧ Hid (ScMid w wr l lv a)) (fun _ iv _ => n - (intOf iv).toNat)
    case atStart => exact ⟨8, _, rfl, rfl, Nat.le_refl _, N8.out, { ex := ⟨[], [], l.length, World.ownsRow_nil _ _ _ _, rfl, by simp, by omega, by simp⟩, still := S1.out }⟩
    case round =>
      obtain ⟨a, lv, hlv, rfl, ha8, han, hin⟩ := hrel
      subst hlv
      by_cases hlt : a < n
      · have d1 : (a : Int) < (n : Int) := by omega
        have d2 : (a : Int) ≤ (n : Int) := by omega
        have d3 : (a : Int) ≤ (c : Int) := by omega
        have d4 : (n : Int) ≤ (c : Int) := by omega
        obtain ⟨b, o, rfl, hb, _⟩ := (RR.out wr hin.out.still).at_ (by omega)
        have rd : Reads wr B (some ⟨b, o + a, none⟩) (n - a) (l.drop a) := by have h := (RR.out wr hin.out.still).dropk (k := a) (by omega); simpa [Addr.add_lit] using h
        have RD := Lib.hid (rread_any (some ⟨b, o + a, none⟩) (n - a) (c - a) (l.drop a) wr B rd (Nat.le_trans FC.out.2.2.2.1 hin.out.still.size) (by omega) (by omega) (by have := FC.out; omega))
        have LL := Lib.hid (show (l.drop a).length = n - a from rd.1)
        clear rd hb
        go_wp2_with fail
        refine RD.out.mono ?_
        rintro e w2 ⟨⟨v2, rfl, own2⟩, s2⟩
        have KL := Lib.hid (rdK_len (l.drop a))
        have FIT := Lib.hid (fun (h : rdE (l.drop a) = 0) => rdN_fit h)
        have FO := Lib.hid (show fo l a = ⟨rdT (l.drop a), rdK (l.drop a), rdD (l.drop a), a, rdN (l.drop a)⟩ from rfl)
        obtain ⟨F, xs, k, oF, hF, hFa, hka, hsc⟩ := hin.out.ex
        have BAD := Lib.hid (fun (h : rdE (l.drop a) ≠ 0) => (show scF l l.length 8 = (F, a, rdE (l.drop a)) by rw [hsc, scF_bad l k a (by have := FC.out; omega) hka h]; simp))
        have OK := Lib.hid (fun (h : rdE (l.drop a) = 0) => (show ∃ k', l.length - (a + rdN (l.drop a)) ≤ k' ∧ scF l l.length 8 = ((F ++ [fo l a]) ++ (scF l k' (a + rdN (l.drop a))).1, (scF l k' (a + rdN (l.drop a))).2) by
          obtain ⟨k', rfl⟩ : ∃ k', k = k' + 1 := ⟨k - 1, by have := FC.out; omega⟩
          refine ⟨k', by have := rdN_fit h; omega, ?_⟩
          rw [hsc, scF_ok l k' a (by have := FC.out; omega) h]
          simp))
        generalize rdT (l.drop a) = t at *
        generalize rdK (l.drop a) = K at *
        generalize rdD (l.drop a) = D at *
        generalize rdN (l.drop a) = N at *
        generalize rdE (l.drop a) = E at *
        have KL' : Hid (K.length = 32) := KL
        have V2 := Lib.hid (show v2.oneCell' = true by rcases own2.2 with ⟨h, _⟩ | ⟨_, _, _, h, _⟩ <;> (rw [h]; rfl))
        have VF2 := Lib.hid (show ∃ A n c, v2 = Value.slice A n c by obtain ⟨A, c, h, _⟩ := own_form own2; exact ⟨_, _, _, h⟩)
        obtain ⟨gx, hgx⟩ : ∃ gx, gx = w2.heap.size := ⟨_, rfl⟩
        obtain ⟨w3, hw3⟩ : ∃ w3, w3 = (w2.alloc (.cells #[.int .i64 0, .int .u8 0, .int .u8 0, .int .u8 0, .int .u8 0, .int .u8 0, .int .u8 0, .int .u8 0, .int .u8 0, .int .u8 0, .int .u8 0, .int .u8 0, .int .u8 0, .int .u8 0, .int .u8 0, .int .u8 0, .int .u8 0, .int .u8 0, .int .u8 0, .int .u8 0, .int .u8 0, .int .u8 0, .int .u8 0, .int .u8 0, .int .u8 0, .int .u8 0, .int .u8 0, .int .u8 0, .int .u8 0, .int .u8 0, .int .u8 0, .int .u8 0, .int .u8 0, .slice none 0 0] 26)).setRow w2.heap.size (entV t K v2) := ⟨_, rfl⟩
        have s23 : Still w2 w3 := by rw [hw3]; exact below_setRow ((Still.refl w2).alloc (Nat.le_refl _) _) (Nat.le_refl _) _
        have B3 := Lib.hid (show Blk w3 gx 26 (entV t K v2) by rw [hw3, hgx]; exact setRow_heap _ _ _ _ _ _ (heap_alloc_new w2 _))
        have SR3 := Lib.hid (show Still wr w3 from Still.trans s2 s23)
        have SW3 := Lib.hid (show Still w w3 from Still.trans hin.out.still (Still.trans s2 s23))
        have O3 := Lib.hid (show w3.ownsRow w.heap.size 5 1 v2 D.length (bytesV D) from own_rebase0 (own_still own2 s23) hin.out.still.size)
        have OF3 := Lib.hid (show w3.ownsRow w.heap.size 55 36 lv F.length xs from oF.kept (row := none) (grown_still0 SR3.out) (by cases lv.ownBlock <;> simp))
        have HF3 := Lib.hid (show HasF w3 w.heap.size F xs from HasF.keep (fun v n l h => own_still h SR3.out) F xs hF)
        have FA := Lib.hid hFa
        have HW3 := Lib.hid hw3
        have HGX := Lib.hid hgx
        have HAN := Lib.hid hlt
        have HA8 := Lib.hid ha8
        clear RD own2 s2 s23 hw3 hgx oF hF hFa hka hsc KL hin d2 d3 d4 dc han ha8
        go_upto_region 7 with (guard_target =~ wpList _ _ _ (Oper.mk none (Op.store _ _ _) _ _ _ _ :: _) _ _; go_must (refine wpList_store_rowTo rfl 26 (.tmp 7) (.tmp 29) rfl rfl w2.heap.size (entV t K v2) (by kernel_rfl) (by kernel_rfl) 26 _ (heap_alloc_new w2 _) (by rw [sizeEnt, entV_size _ _ _ KL'.out]) (by rw [entV_size _ _ _ KL'.out]; rfl) (entV_one _ _ _ V2.out) ?_))
        rw [← HW3.out, ← HGX.out]
        clear HW3
        by_cases hE : E = 0
        · obtain ⟨k', hk', hsc'⟩ := OK.out hE
          have hfit := FIT.out hE
          rw [LL.out] at hfit
          subst hE
          have i1 : IntKind.i64.wrap ((a : Int) + (N : Int)) = ((a + N : Nat) : Int) := by rw [IntKind.wrap_i64]; have := FC.out; omega
          obtain ⟨w4, hw4⟩ : ∃ w4, w4 = w3.alloc (.cells (foV t K v2 (a : Int) (N : Int)) 55) := ⟨_, rfl⟩
          obtain ⟨gy, hgy⟩ : ∃ gy, gy = w3.heap.size := ⟨_, rfl⟩
          have S34 := Lib.hid (show Still w3 w4 by rw [hw4]; exact (Still.refl w3).alloc (Nat.le_refl _) _)
          have B4 := Lib.hid (show Blk w4 gy 55 (foV t K v2 (a : Int) (N : Int)) by rw [hw4, hgy]; exact Blk.new _ _ _)
          have OF4 := Lib.hid (show w4.ownsRow w.heap.size 55 36 lv F.length xs from OF3.out.kept (row := none) (grown_still0 S34.out) (by cases lv.ownBlock <;> simp))
          have HW4 := Lib.hid hw4
          have HGY := Lib.hid hgy
          have SC' := Lib.hid (And.intro hk' hsc')
          have HFIT := Lib.hid hfit
          have SW4 := Lib.hid (show Still w w4 from Still.trans SW3.out S34.out)
          clear hw4 hgy hk' hsc' hfit BAD OK FIT
          go_wp2_with (first
            | (guard_target =~ wpList _ _ _ (Oper.mk (some 38) _ _ _ _ _ :: _) _ _; go_must (refine wpList_load_row rfl 26 (.tmp 7) rfl gx rfl _ _ _ _ B3.out HU.out rfl (by rw [sizeEnt, entV_size _ _ _ KL'.out]) ?_))
            | (guard_target =~ wpList _ _ _ (Oper.mk (some 41) _ _ _ _ _ :: _) _ _; go_must (refine wpList_buildF w3 rfl (.tmp 38) (.tmp 39) (.tmp 40) rfl t K KL'.out v2 VF2.out (a : Int) (N : Int) rfl rfl rfl ?_))
            | (guard_target =~ wpList _ _ _ (Oper.mk (some 42) _ _ _ _ _ :: _) _ _; go_must (refine wpList_boxF w3 rfl (.tmp 41) rfl t K KL'.out v2 VF2.out (a : Int) (N : Int) rfl ?_; rw [← HW4.out, ← HGY.out]))
            | (guard_target =~ wpList _ _ _ (Oper.mk (some 43) _ _ _ _ _ :: _) _ _; go_must (refine wpList_pushF w4 rfl (.tmp 37) (.tmp 42) rfl w.heap.size lv F.length xs rfl OF4.out gy (foL t K v2 (a : Int) (N : Int)) rfl (fun q u hq => (B4.out.cell q).trans (by unfold foV; rw [List.getElem?_toArray]; exact hq)) (foL_len _ _ _ _ _ KL'.out) (foL_one _ _ _ _ _ V2.out) (by have := FA.out; have := HAN.out; have := FC.out; omega) SW4.out.size ?_)))
          intro v5 w5 own5 gr5 loc5
          have MID := Lib.hid (show ScMid w w5 l v5 (a + N) from
            { ex := ⟨F ++ [fo l a], xs ++ foL t K v2 (a : Int) (N : Int), k', by simpa using own5, by
                have k5 : ∀ v n l, w3.ownsRow w.heap.size 5 1 v n (bytesV l) → w5.ownsRow w.heap.size 5 1 v n (bytesV l) := fun v n l h => own_apart (own_still h S34.out) OF4.out (by decide) gr5
                rw [FO.out]
                exact HasF.snoc ⟨t, K, D, a, N⟩ v2 KL'.out (k5 _ _ _ O3.out) F xs (HasF.keep k5 F xs HF3.out), by
                have := FA.out; have := HFIT.out; simp; omega, SC'.out.1, SC'.out.2⟩
              still := SW4.out.grown gr5 SW4.out.size (fun k hk => (OF4.out.lt k hk).1) })
          clear own5 gr5 loc5 B3 B4 OF3 OF4 HF3 O3 HW4 S34 SW4 SC' FA
          go_wp2_with fail
          go_roundw
          case rel => exact ⟨a + N, _, rfl, by go_num, by have := HA8.out; omega, by have := HFIT.out; have := HAN.out; omega, MID.out⟩
          case measure => simp [intOf]; have := HFIT.out; have := HAN.out; omega
        · have b0 : (E == 0) = false := by simpa using hE
          have b1 : (E != 0) = true := by simpa using hE
          have hbad := BAD.out hE
          have FIN := Lib.hid (show (scanR l).1 = F ∧ (scanR l).2.1 = a ∧ (scanR l).2.2 = E by rw [HS.out, hbad]; exact ⟨rfl, rfl, rfl⟩)
          clear hbad hE BAD OK FIT B3
          go_wp2_with fail
          go_ret3
          obtain ⟨e1, e2, e3⟩ := FIN.out
          rw [e1, e2, e3]
          exact ⟨⟨lv, xs, rfl, OF3.out, HF3.out⟩, SW3.out⟩
      · obtain rfl : a = n := by omega
        obtain ⟨F, xs, k, oF, hF, hFa, hka, hsc⟩ := hin.out.ex
        have FIN := Lib.hid (show (scanR l).1 = F ∧ (scanR l).2.1 = a ∧ (scanR l).2.2 = 0 by
          rw [HS.out, hsc, scF_end l k a (by have := FC.out; omega)]
          exact ⟨by simp, rfl, rfl⟩)
        have OF := Lib.hid oF
        have HF := Lib.hid hF
        have SW := Lib.hid hin.out.still
        clear oF hF hFa hka hsc hin
        go_wp2_with fail
        go_ret3
        obtain ⟨e1, e2, e3⟩ := FIN.out
        rw [e1, e2, e3]
        exact ⟨⟨lv, xs, rfl, OF.out, HF.out⟩, SW.out⟩
  · have hs0 : scanR l = ([], 0, 4) := by unfold scanR; rw [if_neg (by rw [FC.out.2.2.2.2]; exact hm)]
    obtain rfl : q = false := by rw [HQ.out]; simpa using hm
    have HS := Lib.hid hs0
    clear hm hs0
    go_wp2_with fail
    go_ret3
    rw [HS.out]
    exact ⟨⟨.slice none 0 0, [], rfl, World.ownsRow_nil _ _ _ _, rfl⟩, S1.out⟩
end Go.Proofs.YtnhkabohccbglaaDoor
