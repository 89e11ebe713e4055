/- The walk of TableCopies: it returns true, and nothing that was there turns. -/
import Derived.Test.YthkgnkcedoigiaaTbClone
import Derived.Test.YthkgnkcedoigiaaTbPlayed
namespace Go.Proofs.Ythkgnkcedoigiaa
open Go.RowKit
set_option linter.unusedVariables false
set_option linter.unusedSimpArgs false

/-- The copy while it is worked on; what lies beside it. -/
structure CopW (w2 wr : World) (g : Nat) (i : Nat) (kb : Option Nat) : Prop where
  ex : ∃ b L cp dd, Tb wr g b L cp dd ∧ L.length ≤ 60 + i ∧ w2.heap.size ≤ b ∧ kb ≠ some b
  still : Still w2 wr
  hg : w2.heap.size ≤ g
  kg : kb ≠ some g
theorem CopW.put {w2 wr W : World} {g i : Nat} {kb : Option Nat} {b cp dd : Nat} {L : List KV} {k : List UInt8} {v : List Int} (h : CopW w2 wr g i kb) (t : Tb wr g b L cp dd) (hl : L.length ≤ 60 + i) (hb : w2.heap.size ≤ b) (hkb : kb ≠ some b) (hkl : ∀ q, kb = some q → q < wr.heap.size) (p : PutP wr W g b L cp dd k v) : CopW w2 W g (i + 1) kb ∧ Chg wr W (fun q => q = g ∨ q = b) := by
  obtain ⟨b', cp', dd', t', _, hb', c⟩ := p
  refine ⟨⟨⟨b', _, cp', dd', t', ?_, ?_, ?_⟩, c.still h.still (fun q hq => ?_), h.hg, h.kg⟩, c⟩
  · rw [insL_len t.rise]; split <;> omega
  · rcases hb' with rfl | h'
    · exact hb
    · exact Nat.le_trans h.still.size h'
  · rcases hb' with rfl | h'
    · exact hkb
    · intro e; have := hkl _ e; omega
  · rcases hq with rfl | rfl
    · exact h.hg
    · exact hb
theorem CopW.del {w2 wr W : World} {g i : Nat} {kb : Option Nat} {b cp dd : Nat} {L : List KV} {k : List UInt8} (h : CopW w2 wr g i kb) (t : Tb wr g b L cp dd) (hl : L.length ≤ 60 + i) (hb : w2.heap.size ≤ b) (hkb : kb ≠ some b) (hkl : ∀ q, kb = some q → q < wr.heap.size) (p : DelP wr W g b L cp dd k) : CopW w2 W g (i + 1) kb ∧ Chg wr W (fun q => q = g ∨ q = b) := by
  obtain ⟨b', cp', dd', t', _, hb', c⟩ := p
  refine ⟨⟨⟨b', _, cp', dd', t', ?_, ?_, ?_⟩, c.still h.still (fun q hq => ?_), h.hg, h.kg⟩, c⟩
  · have := delL_le k L; omega
  · rcases hb' with rfl | h'
    · exact hb
    · exact Nat.le_trans h.still.size h'
  · rcases hb' with rfl | h'
    · exact hkb
    · intro e; have := hkl _ e; omega
  · rcases hq with rfl | rfl
    · exact h.hg
    · exact hb
/-- A row of one's own stays where other blocks turn. -/
theorem own_chg {wr W : World} {S : Nat → Prop} {base z n : Nat} {e : TypeId} {v : Value} {xs : List Value} (h : wr.ownsRow base e z v n xs) (c : Chg wr W S) (hS : ∀ k, v.ownBlock = some k → ¬ S k) : W.ownsRow base e z v n xs := c.own h hS
set_option maxRecDepth 100000 in
set_option maxHeartbeats 12800000 in
theorem tableCopies_walk (a0 : Option Addr) (len0 cap0 : Nat) (L0 : List Dq) (a1 : Option Addr) (len1 cap1 : Nat) (L1 : List Dq) (w : World) (h0 : DqRow w a0 len0 cap0 L0) (h1 : DqRow w a1 len1 cap1 L1) :
    Calls Try.prog 7 #[.slice a0 len0 cap0, .slice a1 len1 cap1] w fun e w' => e = .returned (.bool true) ∧ Below w.heap.size w w' := by
  have PL := Lib.hid (fun W (s : Still w W) => played_any a0 len0 cap0 60 L0 w W (by omega) h0 s)
  simp only [show ((60 : Nat) : Int) = 60 from rfl] at PL
  obtain ⟨nn, hnn⟩ : ∃ nn, nn = min len1 60 := ⟨_, rfl⟩
  have FEW := Lib.hid (fun W => few_any a1 len1 cap1 60 W h1.fit h1.cap (by omega))
  rw [← hnn] at FEW
  simp only [show ((60 : Nat) : Int) = 60 from rfl] at FEW
  have AT := Lib.hid (fun i (hi : i < nn) => show ∃ x : Dq, ∃ b o, a1 = some ⟨b, o, none⟩ ∧ DqAt w w.heap.size b (o + i * 34) x from by
    have hx : i < L1.length := by have := h1.len; omega
    exact ⟨_, h1.at_ i _ (List.getElem?_eq_getElem hx)⟩)
  have LI := Lib.hid (fun (q : World) => lives_any q)
  have d8 : (nn : Int) ≤ 60 := by omega
  have d9 : (nn : Int) ≤ (cap1 : Int) := by have := h1.fit; omega
  clear h0 h1 hnn
  go_enter Try.func7, Try.ntmps7
  go_upto_region 2 with (go_at_call 21; with_reducible refine (PL.out _ (Still.refl _)).mono ?_; rintro e w1 ⟨g, rfl, p1⟩; have P1 := Lib.hid p1; clear p1)
  obtain ⟨⟨b, cp, dd, T, hb⟩, s1, hg⟩ := P1.out
  obtain ⟨L, hL⟩ : ∃ L, L = playL ((L0.take 60).take (min len0 60)) := ⟨_, rfl⟩
  have hlen : L.length ≤ 60 := by rw [hL]; exact Nat.le_trans (playL_len _ _) (by omega)
  have HL := Lib.hid hL
  rw [← hL] at T
  have CO := Lib.hid (copy_any T (by omega))
  have S1 := Lib.hid s1
  have HT := Lib.hid T
  have HLEN := Lib.hid hlen
  have KL := Lib.hid T.key32
  have VL := Lib.hid T.val1
  clear hb s1 hg T hL P1 hlen
  go_upto_region 4 with (first
    | (go_at_call 27; with_reducible refine CO.out.mono ?_; rintro e w2 ⟨g2, b2, rfl, t2, s2, hg2, hb2⟩; have T2 := Lib.hid t2; have S2 := Lib.hid s2; have G2 := Lib.hid (show w1.heap.size ≤ g2 ∧ w1.heap.size ≤ b2 from ⟨hg2, hb2⟩); clear t2 s2 hg2 hb2)
    | (go_at_call 11; with_reducible refine (FEW.out _).mono ?_; rintro e w3 ⟨rfl, rfl⟩))
  have LEt := Lib.hid (len_any (HT.out.still S2.out))
  have LEc := Lib.hid (len_any T2.out)
  have CAt := Lib.hid (cap_any (HT.out.still S2.out))
  have CAc := Lib.hid (cap_any T2.out)
  have DEt := Lib.hid (dead_any (HT.out.still S2.out))
  have DEc := Lib.hid (dead_any T2.out)
  have KEt := Lib.hid (fun W (s : Still w2 W) => keys_any (HT.out.still (Still.trans S2.out s)) (by have := HLEN.out; omega))
  have KEc := Lib.hid (keys_any T2.out (by have := HLEN.out; omega))
  have SAK := Lib.hid (fun W v v' (h : KeyRow W v L) (h' : KeyRow W v' L) => sameKeys_yes h h' rfl (by have := HLEN.out; omega))
  obtain ⟨n, hn⟩ : ∃ n, n = L.length := ⟨_, rfl⟩
  rw [← hn] at LEt LEc
  have HN := Lib.hid hn
  clear hn
  go_upto_region 6 with (first
    | (go_at_call 22; (first | (with_reducible refine LEc.out.mono ?_) | (with_reducible refine LEt.out.mono ?_)); rintro e w3 ⟨rfl, rfl⟩)
    | (go_at_call 25; (first | (with_reducible refine CAc.out.mono ?_) | (with_reducible refine CAt.out.mono ?_)); rintro e w3 ⟨rfl, rfl⟩)
    | (go_at_call 23; (first | (with_reducible refine DEc.out.mono ?_) | (with_reducible refine DEt.out.mono ?_)); rintro e w3 ⟨rfl, rfl⟩)
    | (go_at_call 29; first
        | (with_reducible refine KEc.out.mono ?_; rintro e w4 ⟨v4, rfl, o4, s4⟩; have K4 := Lib.hid (KeyRow.of_own o4 KL.out); have S4 := Lib.hid s4; clear o4 s4)
        | (with_reducible refine (KEt.out _ S4.out).mono ?_; rintro e w5 ⟨v5, rfl, o5, s5⟩; have K5 := Lib.hid (KeyRow.of_own o5 KL.out); have S5 := Lib.hid s5; clear o5 s5))
    | (go_at_call 28; with_reducible refine (SAK.out _ _ _ (K4.out.still S5.out) K5.out).mono ?_; rintro e w6 ⟨rfl, s6⟩; have S6 := Lib.hid (Still.trans S4.out (Still.trans S5.out s6)); clear s6))
  have KEt2 := Lib.hid (KEt.out _ S6.out)
  go_upto_region 7 with (go_at_call 29; with_reducible refine KEt2.out.mono ?_; rintro e w7 ⟨kv, rfl, o7, s7⟩; have O7 := Lib.hid o7; have S7 := Lib.hid (Still.trans S6.out s7); clear o7 s7)
  obtain ⟨kA, kc, rfl, _, _, _, _⟩ := own_slice O7.out
  rw [← HN.out] at O7 ⊢
  obtain ⟨kvv, hkvv⟩ : ∃ kvv, kvv = Value.slice kA n kc := ⟨_, rfl⟩
  have KVV := Lib.hid hkvv
  obtain ⟨bs, hbs⟩ : ∃ bs, bs = w6.heap.size := ⟨_, rfl⟩
  rw [← hbs, ← hkvv] at O7
  have C0 := Lib.hid (show CopW w1 w7 g2 0 kvv.ownBlock ∧ w7.ownsRow bs 32 32 kvv n (keysV L) from by
    have kl := O7.out.lt
    have z := S6.out.size
    refine ⟨⟨⟨b2, L, cp, dd, T2.out.still S7.out, by have := HLEN.out; omega, G2.out.2, fun e => ?_⟩, Still.trans S2.out S7.out, G2.out.1, fun e => ?_⟩, O7.out⟩
    · have := (kl _ e).1; have := T2.out.blt; omega
    · have := (kl _ e).1; have := T2.out.glt; omega)
  rw [hkvv] at C0
  rw [← hkvv] at C0
  have SW1 := Lib.hid (Still.trans S1.out S2.out)
  have CH := Lib.hid (show ∀ wr, Still w1 wr → Still w wr from fun wr s => Still.trans S1.out s)
  clear hbs CO KEt2 K4 K5 S4 S5 S6 LEt LEc CAt CAc DEt DEc KEc hkvv FEW
  go_wp2_with fail
  go_loopw [8] (fun iv wr => ∃ i : Nat, i ≤ nn ∧ iv = .int .i64 i ∧ Hid (CopW w1 wr g2 i kvv.ownBlock ∧ wr.ownsRow bs 32 32 kvv n (keysV L))) (fun iv _ => nn - (intOf iv).toNat)
  case atStart => exact ⟨0, by omega, rfl, C0⟩
  case round =>
    obtain ⟨i, hi, rfl, PW⟩ := hrel
    clear C0
    by_cases hlt : i < nn
    · obtain ⟨x, b0, o, hA, D⟩ := AT.out i hlt
      subst hA
      obtain ⟨⟨bc, Lc, cpc, ddc, Tc, hlc, hbc, hkbc⟩, sc, hgc, hkgc⟩ := PW.out.1
      have own := PW.out.2
      have D1 : ∀ W, Still w1 W → DqAt W w.heap.size b0 (o + i * 34) x := fun W s => D.still (Nat.le_refl _) (CH.out W s)
      have kd := (D1 _ sc).kind
      have RK := Lib.hid (D1 _ sc).key
      have HLk := Lib.hid (show (Try.prog.info? 32).map (·.size) = some (bytesV x.K).length from by rw [size32, bytesV_length, D.len])
      have d1 : (i : Int) < (nn : Int) := by omega
      by_cases hk : x.k = 1
      · have DL := Lib.hid (del_any Tc x.K D.len (by omega))
        have NX := Lib.hid (fun W (p : DelP wr W g2 bc Lc cpc ddc x.K) => show CopW w1 W g2 (i + 1) kvv.ownBlock ∧ W.ownsRow bs 32 32 kvv n (keysV L) from by
          obtain ⟨c1, c2⟩ := PW.out.1.del Tc hlc hbc hkbc (fun q e => (own.lt q e).2) p
          exact ⟨c1, c2.own own (fun q e h => by rcases h with rfl | rfl; exact hkgc e; exact hkbc e)⟩)
        rw [hk] at kd
        clear D1 D Tc sc hgc hkgc hlc hbc hkbc own hk hlt PW
        go_wp2_with (first
          | (guard_target =~ wpList _ _ _ (Oper.mk (some 71) _ _ _ _ _ :: _) _ _; go_must (refine wpList_load_mid rfl 32 (.tmp 70) rfl b0 (o + i * 34 + 1) rfl (bytesV x.K) _ RK.out under32 rfl HLk.out ?_))
          | (go_at_call 16; with_reducible refine DL.out.mono ?_; rintro e w3 ⟨rfl, p3⟩; have P3 := Lib.hid (NX.out _ p3); clear p3))
        go_roundw
        case rel => exact ⟨i + 1, by omega, by go_num, P3⟩
        case measure => simp [intOf]; omega
      · have kne : (x.k == 1) = false := by simpa using hk
        obtain ⟨y, hy⟩ : ∃ y, y = IntKind.i64.wrap (x.v + 1) := ⟨_, rfl⟩
        have ey : IntKind.i64.wrap (x.v + 1) = y := hy.symm
        have PU := Lib.hid (put_any (Tc.still (Still.refl _).drew) x.K y D.len (by omega))
        have NX := Lib.hid (fun W (p : PutP wr.drew W g2 bc Lc cpc ddc x.K [y]) => show CopW w1 W g2 (i + 1) kvv.ownBlock ∧ W.ownsRow bs 32 32 kvv n (keysV L) from by
          have hd : CopW w1 wr.drew g2 i kvv.ownBlock := ⟨⟨bc, Lc, cpc, ddc, Tc.still (Still.refl _).drew, hlc, hbc, hkbc⟩, sc.drew, hgc, hkgc⟩
          have own2 := own_keep own ((Still.refl wr).drew)
          obtain ⟨c1, c2⟩ := hd.put (Tc.still (Still.refl _).drew) hlc hbc hkbc (fun q e => (own2.lt q e).2) p
          exact ⟨c1, c2.own own2 (fun q e h => by rcases h with rfl | rfl; exact hkgc e; exact hkbc e)⟩)
        have RK2 := Lib.hid (D1 _ sc.drew).key
        have vv := (D1 _ sc.drew).val
        obtain ⟨kk, hkk⟩ : ∃ kk, kk = x.k := ⟨_, rfl⟩
        rw [← hkk] at kd kne
        clear D1 D Tc sc hgc hkgc hlc hbc hkbc own hk hlt PW RK hkk hy
        go_upto_region 12 with fail
        refine wp_region_still_tail 12 (by kernel_rfl) (by kernel_rfl) ?_
        simp only [List.take_succ_cons, List.take_zero, List.drop_succ_cons, List.drop_zero]
        change wpStill _ _ wr.drew _ _ _
        repeat (first
          | (guard_target =~ wpStill _ _ _ _ (Oper.mk (some 78) _ _ _ _ _ :: _) _; go_must (refine still_load_mid (by kernel_rfl) 32 (.tmp 77) rfl b0 (o + i * 34 + 1) (by kernel_rfl) (bytesV x.K) _ RK2.out under32 rfl HLk.out ?_))
          | still_step)
        refine wpStill_nil ?_
        change wpList _ _ _ _ _ wr.drew
        clear kd kne vv ey
        go_wp2_with (go_at_call 14; with_reducible refine PU.out.mono ?_; rintro e w3 ⟨rfl, p3⟩; have P3 := Lib.hid (NX.out _ p3); clear p3)
        go_roundw
        case rel => exact ⟨i + 1, by omega, by go_num, P3⟩
        case measure => simp [intOf]; omega
    · have hin : i = nn := by omega
      subst hin
      clear hlt
      have KR := Lib.hid (KeyRow.of_own (L := L) (by rw [← HN.out]; exact PW.out.2) KL.out)
      have SWR := Lib.hid (PW.out.1.still)
      have PL2 := Lib.hid (PL.out wr (CH.out _ SWR.out))
      clear PL
      go_upto_region 14 with (go_at_call 21; with_reducible refine PL2.out.mono ?_; rintro e w9 ⟨g9, rfl, p9⟩; have P9 := Lib.hid p9; clear p9)
      obtain ⟨⟨b9, cp9, dd9, T9, hb9⟩, s9, hg9⟩ := P9.out
      rw [← HL.out] at T9
      have HT9 := Lib.hid T9
      have SV := Lib.hid (Still.trans SWR.out s9)
      have TT9 := Lib.hid (HT.out.still SV.out)
      have KR9 := Lib.hid (KR.out.still s9)
      rw [KVV.out] at KR9
      clear T9 hb9 s9 hg9 P9 KR PL2
      have d10 : (n : Int) ≤ 60 := by have := HLEN.out; have := HN.out; omega
      go_wp2_with fail
      go_loopw [10] (fun jv wr => ∃ j : Nat, j ≤ n ∧ jv = .int .i64 j ∧ Hid (Still w9 wr)) (fun jv _ => n - (intOf jv).toNat)
      case atStart => exact ⟨0, by omega, rfl, Lib.hid (Still.refl _)⟩
      case round =>
        obtain ⟨j, hj, rfl, SJ⟩ := hrel
        by_cases hltj : j < n
        · have hz : L[j]? = some L[j] := List.getElem?_eq_getElem (by have := HN.out; omega)
          obtain ⟨z, hzz⟩ : ∃ z, z = L[j] := ⟨_, rfl⟩
          rw [← hzz] at hz
          have hmem : z ∈ L := List.mem_of_getElem? hz
          obtain ⟨x, hx⟩ := VL.out z hmem
          have zk := KL.out z hmem
          obtain ⟨A, c, hv, hkc, hkm, hkr⟩ := KR9.out.ex
          obtain ⟨gg, hgg, hgl, hgc⟩ := hkr (by have := HN.out; omega)
          obtain ⟨rfl, rfl⟩ : kA = some ⟨gg, 0, none⟩ ∧ kc = c := by injection hv with e1 _ e3; exact ⟨e1.trans hgg, e3⟩
          have RG := Lib.hid (fun W (s : Still w9 W) => show W.rangeAt gg (j * 32) (bytesV z.1) from fun q u hq => (s.cell (p := ⟨gg, j * 32 + q, none⟩) hgl).trans (hgc j z hz q u hq))
          have H32 := Lib.hid (show (Try.prog.info? 32).map (·.size) = some (bytesV z.1).length from by rw [size32, bytesV_length, zk])
          have zm : (z.1, [x]) ∈ L := by rw [← hx]; exact hmem
          have GT := Lib.hid (fun W (s : Still w9 W) => get_yes (TT9.out.still s) z.1 x zk (by have := HLEN.out; omega) zm)
          have GA := Lib.hid (fun W (s : Still w9 W) => get_yes (HT9.out.still s) z.1 x zk (by have := HLEN.out; omega) zm)
          have d11 : (j : Int) < (n : Int) := by omega
          have d12 : (n : Int) ≤ (kc : Int) := by have := HN.out; omega
          clear hz hzz hmem hx zk hv hkc hkm hkr hgl hgc zm hltj
          go_wp2_with (first
            | (guard_target =~ wpList _ _ _ (Oper.mk (some 99) _ _ _ _ _ :: _) _ _; go_must (refine wpList_load_mid rfl 32 (.tmp 98) rfl gg (j * 32) rfl (bytesV z.1) _ (RG.out _ SJ.out) under32 rfl H32.out ?_))
            | (guard_target =~ wpList _ _ _ (Oper.mk (some 108) _ _ _ _ _ :: _) _ _; go_must (refine wpList_load_mid rfl 32 (.tmp 107) rfl gg (j * 32) rfl (bytesV z.1) _ (RG.out _ S10.out) under32 rfl H32.out ?_))
            | (go_at_call 18; first
                | (with_reducible refine (GT.out _ SJ.out).mono ?_; rintro e w10 ⟨rfl, s10⟩; have S10 := Lib.hid (Still.trans SJ.out s10); clear s10)
                | (with_reducible refine (GA.out _ S10.out).mono ?_; rintro e w11 ⟨rfl, s11⟩; have S11 := Lib.hid (Still.trans S10.out s11); clear s11)))
          go_roundw
          case rel => exact ⟨j + 1, by omega, by go_num, S11⟩
          case measure => simp [intOf]; omega
        · have hjn : j = n := by omega
          subst hjn
          clear hltj
          have KF := Lib.hid (keys_any (TT9.out.still SJ.out) (by have := HLEN.out; omega))
          go_wp2_with (first
            | (go_at_call 29; with_reducible refine KF.out.mono ?_; rintro e w12 ⟨v12, rfl, o12, s12⟩; have K12 := Lib.hid (KeyRow.of_own o12 KL.out); have S12 := Lib.hid s12; clear o12 s12)
            | (go_at_call 28; refine (SAK.out _ _ _ K12.out (KR9.out.still (Still.trans SJ.out S12.out))).mono ?_; rintro e w13 ⟨rfl, s13⟩; have S13 := Lib.hid s13; clear s13)
            | (go_at_call 20; with_reducible refine (LI.out _).mono ?_; rintro e w14 ⟨rfl, s14⟩; have S14 := Lib.hid s14; clear s14))
          go_ret
          exact ⟨rfl, CH.out _ (Still.trans SV.out (Still.trans SJ.out (Still.trans S12.out (Still.trans S13.out S14.out))))⟩
end Go.Proofs.Ythkgnkcedoigiaa
