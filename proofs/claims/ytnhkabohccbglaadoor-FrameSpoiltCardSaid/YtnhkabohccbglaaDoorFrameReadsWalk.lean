/- The walk of FrameReads: it returns true, and nothing that was there turns. -/
import Derived.Test.YtnhkabohccbglaaDoorFrRef
import Derived.Test.YtnhkabohccbglaaDoorRowS
import Derived.Test.YtnhkabohccbglaaDoorSpoil
namespace Go.Proofs.YtnhkabohccbglaaDoor
open Go.RowKit
set_option linter.unusedVariables false
set_option linter.unusedSimpArgs false

theorem rdE_told {l : List UInt8} (h : rdE l = 0) : (toE l).2 = 0 := by
  unfold rdE at h
  by_cases h3 : (toE l).2 = 0
  · exact h3
  · rw [if_pos h3] at h; exact h
theorem rdK_len (l : List UInt8) : (rdK l).length = 32 := by
  unfold rdK
  by_cases h : rdE l = 0
  · rw [if_pos h]
    obtain ⟨_, _, _, h4, _, _, h7, _⟩ := toE_ok (rdE_told h)
    exact keyR_len _ _ (fun q => by rw [List.length_take]; have := h7 q; omega)
  · rw [if_neg h]; simp
theorem rdD_len (l : List UInt8) : (rdD l).length ≤ l.length := by
  unfold rdD datR
  split
  · split
    · simp
    · rw [List.length_drop, List.length_take]; omega
  · simp
/-- Two entries alike, in boxes, behind the bytes that they were read of. -/
structure FrMid (W : World) (s2 g4 g6 : Nat) (t : Int) (K D : List UInt8) (v u : Value) : Prop where
  b4 : Blk W g4 26 (entV t K v)
  b6 : Blk W g6 26 (entV t K u)
  o4 : W.ownsRow s2 5 1 v D.length (bytesV D)
  o6 : W.ownsRow s2 5 1 u D.length (bytesV D)
  g4 : s2 ≤ g4
  g6 : s2 ≤ g6
theorem own_high {W W' : World} {s2 n z : Nat} {e : TypeId} {v : Value} {xs : List Value} (o : W.ownsRow s2 e z v n xs) (h : ∀ b, s2 ≤ b → b < W.heap.size → W'.heap[b]? = W.heap[b]?) : W'.ownsRow s2 e z v n xs := by
  refine ⟨o.1, ?_⟩
  rcases o.2 with q | ⟨b, cap, cur, e1, e2, e3, e4⟩
  · exact .inl q
  · exact .inr ⟨b, cap, cur, e1, e2, by rw [h b e2 (Array.getElem?_eq_some_iff.1 e3).1]; exact e3, e4⟩
theorem FrMid.keep {W W' : World} {s2 g4 g6 : Nat} {t : Int} {K D : List UInt8} {v u : Value} (m : FrMid W s2 g4 g6 t K D v u) (h : ∀ b, s2 ≤ b → b < W.heap.size → W'.heap[b]? = W.heap[b]?) : FrMid W' s2 g4 g6 t K D v u :=
  { m with b4 := (h _ m.g4 (Blk.lt m.b4)).trans m.b4, b6 := (h _ m.g6 (Blk.lt m.b6)).trans m.b6, o4 := own_high m.o4 h, o6 := own_high m.o6 h }
theorem FrMid.same {W : World} {s2 g4 g6 : Nat} {t : Int} {K D : List UInt8} {v u : Value} (m : FrMid W s2 g4 g6 t K D v u) (hK : K.length = 32) (hD : D.length ≤ 1048576) :
    Calls Tryd.prog 16 #[.agg (entV t K v), .agg (entV t K u)] W fun e w' => e = .returned (.bool true) ∧ Still W w' := by
  have o4 := m.o4
  have o6 := m.o6
  obtain ⟨A, c, rfl, _, _, _⟩ := own_form o4
  obtain ⟨A', c', rfl, _, _, _⟩ := own_form o6
  exact sameE_yes t K D A A' D.length c c' W _ _ hK (Reads.of_own o4) (Reads.of_own o6) (Nat.le_refl _) (Nat.le_refl _) hD

set_option maxRecDepth 100000 in
set_option maxHeartbeats 3200000 in
theorem frameReads_walk (a1 : Option Addr) (len1 cap1 : Nat) (z1 : List Int) (w : World) (w1 : RowIn .u8 w a1 len1 cap1 z1) (T : Tabs w) :
    Calls Tryd.prog 4 #[.slice a1 len1 cap1] w fun e w' => e = .returned (.bool true) ∧ Below w.heap.size w w' := by
  obtain ⟨l0, r0, hc0, hm0, hA0⟩ := reads_of_row w1
  obtain ⟨n1, hn1⟩ : ∃ n1, n1 = min len1 17000 := ⟨_, rfl⟩
  have CUT := Lib.hid (show Calls Tryd.prog 18 #[.slice a1 len1 cap1, .int .i64 17000] w fun e w' => e = .returned (.slice a1 n1 cap1) ∧ w = w' from by rw [hn1]; exact cut_any a1 len1 cap1 17000 l0 w _ r0 hc0 hm0 (by omega))
  have RB := Lib.hid (show Reads w w.heap.size a1 n1 (l0.take 17000) by rw [hn1]; exact r0.take 17000)
  obtain ⟨l, hl⟩ : ∃ l, l = l0.take 17000 := ⟨_, rfl⟩
  rw [← hl] at RB
  have N1 := Lib.hid (show n1 ≤ 17000 ∧ n1 ≤ cap1 ∧ cap1 ≤ 9223372036854775807 from ⟨by omega, by omega, hm0⟩)
  have NA := Lib.hid (show a1 = none → n1 = 0 ∧ cap1 = 0 from fun e => ⟨by have := (hA0 e).1; omega, (hA0 e).2⟩)
  have HT := Lib.hid (fun W (s : Still w W) => T.still s)
  obtain ⟨fs, hu⟩ := underEnt
  have HU := Lib.hid hu
  have LV := Lib.hid (fun w (T : Tabs w) => lives_any w T)
  have CP := Lib.hid (copy_any a1 n1 cap1 l w w.heap.size RB.out (by have := N1.out; omega) NA.out)
  clear r0 hc0 hm0 hA0 w1 hn1 hl T hu
  go_enter Tryd.func4, Tryd.ntmps4
  go_wp2_with fail
  refine CUT.out.mono ?_
  rintro e w' ⟨rfl, rfl⟩
  go_wp2_with fail
  refine CP.out.mono ?_
  rintro e w2 ⟨⟨v, rfl, own2⟩, s2⟩
  have MB0 : 0 < n1 → ∃ g c, v = .slice (some ⟨g, 0, none⟩) n1 c ∧ w.heap.size ≤ g ∧ Byt w2 g n1 := byt_own own2
  have rd2 : ∀ A c, v = .slice A n1 c → Reads w2 w2.heap.size A n1 l := fun A c e => Reads.of_own (e ▸ own2)
  obtain ⟨A2, c2, rfl, f1, f2, f3⟩ := own_form own2
  have S2 := Lib.hid s2
  have RD2 := Lib.hid (rd2 A2 c2 rfl)
  have MB := Lib.hid (show 0 < n1 → ∃ g, A2 = some ⟨g, 0, none⟩ ∧ w.heap.size ≤ g ∧ Byt w2 g n1 from fun h => by
    obtain ⟨g, c, e, h1, h2⟩ := MB0 h
    cases e
    exact ⟨g, rfl, h1, h2⟩)
  have F1 := Lib.hid f1
  obtain ⟨rr, hrr⟩ : ∃ rr : Option Nat, rr = if 0 < n1 then A2.map (·.block) else none := ⟨_, rfl⟩
  have HRR := Lib.hid hrr
  have HRB := Lib.hid (show ∀ b, rr = some b → w.heap.size ≤ b ∧ b < w2.heap.size from fun b e => by
    rw [hrr] at e
    by_cases h0 : 0 < n1
    · obtain ⟨q, hq, h2, h3⟩ := MB.out h0
      rw [if_pos h0, hq] at e
      have hbb : q = b := by simpa using e
      have := h3.lt
      omega
    · rw [if_neg h0] at e; cases e)
  clear hrr
  have DEC := Lib.hid (read_any A2 n1 c2 l w2 _ RD2.out (Nat.le_refl _) (by have := N1.out; omega) f1 f2 (HT.out _ S2.out))
  have RDC := Lib.hid (fun W (s : Still w W) => rread_any a1 n1 cap1 l W w.heap.size (RB.out.still (Nat.le_refl _) s) s.size (by have := N1.out; omega) N1.out.2.1 N1.out.2.2)
  have KL := Lib.hid (rdK_len l)
  have DL := Lib.hid (show (rdD l).length ≤ 1048576 by have h := rdD_len l; have h2 := RB.out.1; have := N1.out; omega)
  generalize rdT l = t at DEC RDC
  generalize rdK l = K at DEC RDC KL
  generalize rdD l = D at DEC RDC DL
  generalize rdN l = rn at DEC RDC
  generalize rdE l = er at DEC RDC
  have DEC' := DEC
  have RDC' := RDC
  have KL' : Hid (K.length = 32) := KL
  have DL' : Hid (D.length ≤ 1048576) := DL
  clear MB0 rd2 own2 s2 f1 f2 f3 CUT CP DEC RDC KL DL
  go_wp2_with fail
  refine DEC'.out.mono ?_
  rintro e w3 ⟨⟨v4, rfl, own3⟩, s3⟩
  have O4 := Lib.hid own3
  have V4 := Lib.hid (show v4.oneCell' = true by rcases own3.2 with ⟨h, _⟩ | ⟨_, _, _, h, _⟩ <;> (rw [h]; rfl))
  have S3 := Lib.hid s3
  obtain ⟨g4, hg4⟩ : ∃ g4, g4 = w3.heap.size := ⟨_, rfl⟩
  obtain ⟨w4, hw4⟩ : ∃ w4, w4 = (w3.alloc (.cells #[.int .i64 0, .int .u8 0, .int .u8 0, .int .u8 0, .int .u8 0, .int .u8 0, .int .u8 0, .int .u8 0, .int .u8 0, .int .u8 0, .int .u8 0, .int .u8 0, .int .u8 0, .int .u8 0, .int .u8 0, .int .u8 0, .int .u8 0, .int .u8 0, .int .u8 0, .int .u8 0, .int .u8 0, .int .u8 0, .int .u8 0, .int .u8 0, .int .u8 0, .int .u8 0, .int .u8 0, .int .u8 0, .int .u8 0, .int .u8 0, .int .u8 0, .int .u8 0, .int .u8 0, .slice none 0 0] 26)).setRow w3.heap.size (entV t K v4) := ⟨_, rfl⟩
  have S4 := Lib.hid (show Still w3 w4 by rw [hw4]; exact below_setRow ((Still.refl w3).alloc (Nat.le_refl _) _) (Nat.le_refl _) _)
  have B4 := Lib.hid (show Blk w4 g4 26 (entV t K v4) by rw [hw4, hg4]; exact setRow_heap _ _ _ _ _ _ (heap_alloc_new w3 _))
  have HW4 := Lib.hid hw4
  have HG4 := Lib.hid hg4
  clear own3 s3 hg4 hw4 DEC'
  go_upto_region 4 with (guard_target =~ wpList _ _ _ (Oper.mk none (Op.store _ _ _) _ _ _ _ :: _) _ _; go_must (refine wpList_store_rowTo rfl 26 (.tmp 4) (.tmp 18) rfl rfl w3.heap.size (entV t K v4) (by kernel_rfl) (by kernel_rfl) 26 _ (heap_alloc_new w3 _) (by rw [sizeEnt, entV_size _ _ _ KL'.out]) (by rw [entV_size _ _ _ KL'.out]; rfl) (entV_one _ _ _ V4.out) ?_))
  rw [← HW4.out, ← HG4.out]
  have RDD := Lib.hid (RDC'.out w4 (Still.trans S2.out (Still.trans S3.out S4.out)))
  clear RDC' HW4
  go_wp2_with fail
  refine RDD.out.mono ?_
  rintro e w5 ⟨⟨v6, rfl, own5⟩, s5⟩
  have O6 := Lib.hid own5
  have V6 := Lib.hid (show v6.oneCell' = true by rcases own5.2 with ⟨h, _⟩ | ⟨_, _, _, h, _⟩ <;> (rw [h]; rfl))
  have S5 := Lib.hid s5
  obtain ⟨g6, hg6⟩ : ∃ g6, g6 = w5.heap.size := ⟨_, rfl⟩
  obtain ⟨w6, hw6⟩ : ∃ w6, w6 = (w5.alloc (.cells #[.int .i64 0, .int .u8 0, .int .u8 0, .int .u8 0, .int .u8 0, .int .u8 0, .int .u8 0, .int .u8 0, .int .u8 0, .int .u8 0, .int .u8 0, .int .u8 0, .int .u8 0, .int .u8 0, .int .u8 0, .int .u8 0, .int .u8 0, .int .u8 0, .int .u8 0, .int .u8 0, .int .u8 0, .int .u8 0, .int .u8 0, .int .u8 0, .int .u8 0, .int .u8 0, .int .u8 0, .int .u8 0, .int .u8 0, .int .u8 0, .int .u8 0, .int .u8 0, .int .u8 0, .slice none 0 0] 26)).setRow w5.heap.size (entV t K v6) := ⟨_, rfl⟩
  have S6 := Lib.hid (show Still w5 w6 by rw [hw6]; exact below_setRow ((Still.refl w5).alloc (Nat.le_refl _) _) (Nat.le_refl _) _)
  have B6 := Lib.hid (show Blk w6 g6 26 (entV t K v6) by rw [hw6, hg6]; exact setRow_heap _ _ _ _ _ _ (heap_alloc_new w5 _))
  have HW6 := Lib.hid hw6
  have HG6 := Lib.hid hg6
  clear own5 s5 hg6 hw6 RDD
  go_upto_region 5 with (guard_target =~ wpList _ _ _ (Oper.mk none (Op.store _ _ _) _ _ _ _ :: _) _ _; go_must (refine wpList_store_rowTo rfl 26 (.tmp 7) (.tmp 24) rfl rfl w5.heap.size (entV t K v6) (by kernel_rfl) (by kernel_rfl) 26 _ (heap_alloc_new w5 _) (by rw [sizeEnt, entV_size _ _ _ KL'.out]) (by rw [entV_size _ _ _ KL'.out]; rfl) (entV_one _ _ _ V6.out) ?_))
  rw [← HW6.out, ← HG6.out]
  have s46 := Still.trans S4.out (Still.trans S5.out S6.out)
  have MID := Lib.hid (show FrMid w6 w2.heap.size g4 g6 t K D v4 v6 from
    { b4 := (Blk.still (Blk.still B4.out S5.out) S6.out)
      b6 := B6.out
      o4 := own_high O4.out (fun b _ hl => s46.block b hl)
      o6 := own_high (own_rebase0 O6.out (by have h1 := S3.out.size; have h2 := S4.out.size; omega)) (fun b _ hl => S6.out.block b hl)
      g4 := by rw [HG4.out]; exact S3.out.size
      g6 := by rw [HG6.out]; have h1 := S3.out.size; have h2 := S4.out.size; have h3 := S5.out.size; omega })
  have S26 := Lib.hid (Still.trans S3.out s46)
  have SB0 := Lib.hid (show ∀ W, Still w2 W → Calls Tryd.prog 14 #[.slice A2 n1 c2, .slice a1 n1 cap1] W fun e w' => e = .returned (.bool true) ∧ Still W w' from fun W s => by
    have h := same_any A2 a1 n1 n1 c2 cap1 l l W _ _ (RD2.out.still (Nat.le_refl _) s) (RB.out.still (Nat.le_refl _) (Still.trans S2.out s)) (by have := N1.out; omega) (by have := N1.out; omega)
    rw [show decide (l = l) = true by simp] at h
    exact h)
  have SB := SB0
  clear SB0 HW6 HG4 HG6 B4 B6 O4 O6 S3 S4 S5 S6 RB RD2 s46
  go_wp2_with (first
    | (guard_target =~ wpList _ _ _ (Oper.mk (some 27) _ _ _ _ _ :: _) _ _; go_must (refine wpList_load_row rfl 26 (.tmp 4) rfl g4 rfl _ _ _ _ MID.out.b4 HU.out rfl (by rw [sizeEnt, entV_size _ _ _ KL'.out]) ?_))
    | (guard_target =~ wpList _ _ _ (Oper.mk (some 28) _ _ _ _ _ :: _) _ _; go_must (refine wpList_load_row rfl 26 (.tmp 7) rfl g6 rfl _ _ _ _ MID.out.b6 HU.out rfl (by rw [sizeEnt, entV_size _ _ _ KL'.out]) ?_)))
  refine (MID.out.same KL'.out DL'.out).mono ?_
  rintro e w7 ⟨rfl, s7⟩
  have M7 := Lib.hid (MID.out.keep (fun b _ hl => s7.block b hl))
  have S7 := Lib.hid (Still.trans S26.out s7)
  clear s7 MID S26
  go_wp2_with fail
  refine (SB.out _ S7.out).mono ?_
  rintro e w9 ⟨rfl, s9⟩
  have M9 := Lib.hid (M7.out.keep (fun b _ hl => s9.block b hl))
  have S9 := Lib.hid (Still.trans S7.out s9)
  clear s9 M7 S7 SB
  have d3 : (n1 : Int) ≤ 17000 := by have := N1.out; omega
  have d4 : (n1 : Int) ≤ (c2 : Int) := by have := F1.out; omega
  go_wp2_with fail
  go_loopw [10] (fun iv wr => ∃ j : Nat, j ≤ n1 ∧ iv = .int .i64 j ∧ Hid (w9.grownBy wr rr ∧ (0 < n1 → ∃ g, A2 = some ⟨g, 0, none⟩ ∧ Byt wr g n1))) (fun iv _ => n1 - (intOf iv).toNat)
  case atStart => exact ⟨0, by omega, rfl, World.grownBy.refl _ _, fun h => by
    obtain ⟨g, h1, _, h3⟩ := MB.out h
    exact ⟨g, h1, h3.keep (S9.out.block g h3.lt)⟩⟩
  case round =>
    obtain ⟨j, hj, rfl, hin⟩ := hrel
    by_cases hlt : j < n1
    · obtain ⟨g, rfl, hb⟩ := hin.out.2 (by omega)
      obtain ⟨y, y0, y1, hc, hf⟩ := hb.at_ hlt
      have d1 : (j : Int) < (n1 : Int) := by omega
      have d2 : (0 : Int) ≤ (j : Int) := by omega
      obtain ⟨z0, z1⟩ := u8_more y y0 y1
      obtain ⟨z, hz⟩ : ∃ z, z = IntKind.u8.wrap (y + 1) := ⟨_, rfl⟩
      rw [← hz] at z0 z1
      have hz' : IntKind.u8.wrap (y + 1) = z := hz.symm
      have hc0 : wr.cell? ⟨g, 0 + j, none⟩ = some (.int .u8 y) := by rw [Nat.zero_add]; exact hc
      have hf0 : wr.frozen? ⟨g, 0 + j, none⟩ = false := by rw [Nat.zero_add]; exact hf
      have hrg : rr = some g := by rw [HRR.out, if_pos (by omega)]; rfl
      have FIN := Lib.hid (show w9.grownBy (wr.setCell ⟨g, j, none⟩ (.int .u8 z)) rr ∧ Byt (wr.setCell ⟨g, j, none⟩ (.int .u8 z)) g n1 from ⟨by have h := hin.out.1; rw [hrg] at h ⊢; exact grown_setc0 h, hb.set hlt z0 z1⟩)
      have HLT := Lib.hid hlt
      clear hb hz hlt hrg
      go_wp2_with fail
      go_roundw
      case rel => exact ⟨j + 1, by have := HLT.out; omega, by go_num, FIN.out.1, fun _ => ⟨g, rfl, FIN.out.2⟩⟩
      case measure => simp [intOf]; have := HLT.out; omega
    · obtain rfl : j = n1 := by omega
      have gr := hin.out.1
      have M10 := Lib.hid (show FrMid wr w2.heap.size g4 g6 t K D v4 v6 from M9.out.keep (fun b hb hl => gr.block b hl (fun e => by have := (HRB.out b e.symm).2; omega)))
      have S10 := Lib.hid (show Below w.heap.size w wr from Below.grown (Still.trans S2.out S9.out : Still w w9) gr (Still.trans S2.out S9.out : Still w w9).size (fun k hk => (HRB.out k hk).1))
      clear gr hin hlt
      go_upto_region 11 with fail
      refine wp_region_lit ?_
      refine wpList_load_row rfl 26 (.tmp 4) rfl g4 rfl _ _ _ _ M10.out.b4 HU.out rfl (by rw [sizeEnt, entV_size _ _ _ KL'.out]) ?_
      refine wpList_load_row rfl 26 (.tmp 7) rfl g6 rfl _ _ _ _ M10.out.b6 HU.out rfl (by rw [sizeEnt, entV_size _ _ _ KL'.out]) ?_
      go_wp2_with fail
      refine (M10.out.same KL'.out DL'.out).mono ?_
      rintro e w11 ⟨rfl, s11⟩
      have S11 := Lib.hid (show Below w.heap.size w w11 from Below.trans S10.out (s11.mono S10.out.size))
      clear s11
      go_wp2_with fail
      refine (LV.out _ (HT.out _ S11.out)).mono ?_
      rintro e w12 ⟨rfl, s12⟩
      have S12 := Lib.hid (show Below w.heap.size w w12 from Below.trans S11.out (s12.mono S11.out.size))
      clear s12
      go_wp2_with fail
      go_ret
      exact ⟨rfl, S12.out⟩
end Go.Proofs.YtnhkabohccbglaaDoor
