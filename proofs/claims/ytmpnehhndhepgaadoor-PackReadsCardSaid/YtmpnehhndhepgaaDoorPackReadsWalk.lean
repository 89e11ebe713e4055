/- The walk of PackReads: it returns true, and nothing that was there turns. -/
import Derived.Test.YtmpnehhndhepgaaDoorPackGn
import Derived.Test.YtmpnehhndhepgaaDoorPackGd
import Derived.Test.YtmpnehhndhepgaaDoorPackGj
namespace Go.Proofs.YtmpnehhndhepgaaDoor
open Go.RowKit
set_option linter.unusedVariables false
set_option linter.unusedSimpArgs false

mutual
theorem sameT_self : ∀ (x : Tr), sameT x x = true
  | .mk k i b t ks l => by
    have h := sameL_self l
    unfold sameT
    simp [h]
theorem sameL_self : ∀ (l : List Tr), sameL l l = true
  | [] => by unfold sameL; rfl
  | x :: r => by unfold sameL; rw [sameT_self x, sameL_self r]; rfl
end
theorem dec_cl (l : List UInt8) : clT (decB l).2 = (decB l).2 := by
  have hz : clT trZ = trZ := by unfold trZ clT; rfl
  unfold decB
  by_cases h0 : 65536 < l.length
  · rw [if_pos h0]; exact hz
  rw [if_neg h0]
  by_cases h1 : (decV 16 l).1 ≠ 0
  · rw [if_pos h1]; exact hz
  rw [if_neg h1]
  by_cases h2 : (decV 16 l).2.2 ≠ []
  · rw [if_pos h2]; exact hz
  rw [if_neg h2]
  obtain ⟨_, _, _, q⟩ := decV_inv 16 (by omega) l (decV 16 l).2.1 (decV 16 l).2.2 (by rw [show (0 : Int) = (decV 16 l).1 by omega])
  exact q
/-- Two values that were read, in boxes, behind the bytes that they were read of. -/
structure RdMid (W : World) (s2 g4 g6 : Nat) (x : Tr) (cs ds : List Value) : Prop where
  b4 : Blk W g4 26 cs.toArray
  b6 : Blk W g6 26 ds.toArray
  v4 : HasP W (fun b => s2 ≤ b) x cs.toArray
  v6 : HasP W (fun b => s2 ≤ b) x ds.toArray
  g4 : s2 ≤ g4
  g6 : s2 ≤ g6
theorem RdMid.keep {W W' : World} {s2 g4 g6 : Nat} {x : Tr} {cs ds : List Value} (m : RdMid W s2 g4 g6 x cs ds) (h : ∀ b, s2 ≤ b → b < W.heap.size → W'.heap[b]? = W.heap[b]?) (hz : W.heap.size ≤ W'.heap.size) : RdMid W' s2 g4 g6 x cs ds :=
  { m with b4 := (h _ m.g4 m.b4.lt).trans m.b4, b6 := (h _ m.g6 m.b6.lt).trans m.b6, v4 := HasP.keep h hz (fun _ hb _ => hb) _ _ m.v4, v6 := HasP.keep h hz (fun _ hb _ => hb) _ _ m.v6 }

set_option maxRecDepth 100000 in
set_option maxHeartbeats 3200000 in
theorem packReads_walk (a1 : Option Addr) (len1 cap1 : Nat) (z1 : List Int) (w : World) (w1 : RowIn .u8 w a1 len1 cap1 z1) (T : Sizes w) :
    Calls Tryd.prog 4 #[.slice a1 len1 cap1] w fun e w' => e = .returned (.bool true) ∧ Below w.heap.size w w' := by
  obtain ⟨l0, r0, hc0, hm0, hA0⟩ := reads_of_row w1
  obtain ⟨n1, hn1⟩ : ∃ n1, n1 = min len1 2000 := ⟨_, rfl⟩
  have CUT := Lib.hid (show Calls Tryd.prog 15 #[.slice a1 len1 cap1, .int .i64 2000] w fun e w' => e = .returned (.slice a1 n1 cap1) ∧ w = w' from by rw [hn1]; exact cut_any a1 len1 cap1 2000 l0 w _ r0 hc0 hm0 (by omega))
  have RB := Lib.hid (show Reads w w.heap.size a1 n1 (l0.take 2000) by rw [hn1]; exact r0.take 2000)
  obtain ⟨l, hl⟩ : ∃ l, l = l0.take 2000 := ⟨_, rfl⟩
  rw [← hl] at RB
  have N1 := Lib.hid (show n1 ≤ 2000 ∧ n1 ≤ cap1 ∧ cap1 ≤ 9223372036854775807 from ⟨by omega, by omega, hm0⟩)
  have NA := Lib.hid (show a1 = none → n1 = 0 ∧ cap1 = 0 from fun e => ⟨by have := (hA0 e).1; omega, (hA0 e).2⟩)
  have HT := Lib.hid (fun W (s : Still w W) => T.still s)
  obtain ⟨fs, hu⟩ := underValue
  have HU := Lib.hid hu
  have LV := Lib.hid (fun w => lives_any w)
  have CP := Lib.hid (copy_any a1 n1 cap1 l w w.heap.size RB.out (by have := N1.out; omega) NA.out)
  clear r0 hc0 hm0 hA0 w1 hn1 hl T hu
  go_enter Tryd.func4, Tryd.ntmps4
  go_wp2_with fail
  refine CUT.out.mono ?_
  rintro e w' ⟨rfl, rfl⟩
  go_wp2_with fail
  refine CP.out.mono ?_
  rintro e w2 ⟨⟨v, rfl, own2⟩, s2⟩
  have MB0 : 0 < n1 → ∃ g c, v = .slice (some ⟨g, 0, none⟩) n1 c ∧ w.heap.size ≤ g ∧ Byt w2 g n1 := byt_own own2
  have rd2 : ∀ A c, v = .slice A n1 c → Reads w2 w2.heap.size A n1 l := fun A c e => Reads.of_own (e ▸ own2)
  obtain ⟨A2, c2, rfl, f1, f2, f3⟩ := own_form own2
  have S2 := Lib.hid s2
  have RD2 := Lib.hid (rd2 A2 c2 rfl)
  have MB := Lib.hid (show 0 < n1 → ∃ g, A2 = some ⟨g, 0, none⟩ ∧ w.heap.size ≤ g ∧ Byt w2 g n1 from fun h => by
    obtain ⟨g, c, e, h1, h2⟩ := MB0 h
    cases e
    exact ⟨g, rfl, h1, h2⟩)
  have F1 := Lib.hid f1
  obtain ⟨rr, hrr⟩ : ∃ rr : Option Nat, rr = if 0 < n1 then A2.map (·.block) else none := ⟨_, rfl⟩
  have HRR := Lib.hid hrr
  have HRB := Lib.hid (show ∀ b, rr = some b → w.heap.size ≤ b ∧ b < w2.heap.size from fun b e => by
    rw [hrr] at e
    by_cases h0 : 0 < n1
    · obtain ⟨q, hq, h2, h3⟩ := MB.out h0
      rw [if_pos h0, hq] at e
      have hbb : q = b := by simpa using e
      have := h3.lt
      omega
    · rw [if_neg h0] at e; cases e)
  clear hrr
  have DEC := Lib.hid (decode_any A2 n1 c2 l w2 _ RD2.out (Nat.le_refl _) (by have := N1.out; omega) f3 (HT.out _ S2.out) (HT.out _ S2.out).lt)
  have RDC := Lib.hid (fun W (s : Still w W) => rdecode_any a1 n1 cap1 l W w.heap.size (RB.out.still (Nat.le_refl _) s) s.size (by have := N1.out; omega) N1.out.2.1 N1.out.2.2 NA.out)
  have HCL := Lib.hid (dec_cl l)
  generalize decB l = DB at DEC RDC HCL
  obtain ⟨er, x⟩ := DB
  simp only at DEC RDC HCL
  have DEC' := DEC
  have RDC' := RDC
  have HCL' : Hid (clT x = x) := HCL
  clear MB0 rd2 own2 s2 f1 f2 f3 CUT CP DEC RDC HCL
  go_wp2_with fail
  refine DEC'.out.mono ?_
  rintro e w3 ⟨⟨cs, rfl, hc6, hall, hv⟩, s3⟩
  have C6 := Lib.hid hc6
  have ALL := Lib.hid hall
  have HV := Lib.hid hv
  have S3 := Lib.hid s3
  obtain ⟨g4, hg4⟩ : ∃ g4, g4 = w3.heap.size := ⟨_, rfl⟩
  obtain ⟨w4, hw4⟩ : ∃ w4, w4 = (w3.alloc (.cells #[.int .i64 0, .int .i64 0, .slice none 0 0, .string ⟨#[]⟩, .slice none 0 0, .slice none 0 0] 26)).setRow w3.heap.size cs.toArray := ⟨_, rfl⟩
  have S4 := Lib.hid (show Still w3 w4 by rw [hw4]; exact below_setRow ((Still.refl w3).alloc (Nat.le_refl _) _) (Nat.le_refl _) _)
  have B4 := Lib.hid (show Blk w4 g4 26 cs.toArray by rw [hw4, hg4]; exact setRow_heap _ _ _ _ _ _ (heap_alloc_new w3 _))
  have HW4 := Lib.hid hw4
  have HG4 := Lib.hid hg4
  clear hc6 hall hv s3 hg4 hw4 DEC'
  go_upto_region 4 with (guard_target =~ wpList _ _ _ (Oper.mk none (Op.store _ _ _) _ _ _ _ :: _) _ _; go_must (refine wpList_store_rowTo rfl 26 (.tmp 4) (.tmp 16) rfl rfl w3.heap.size cs.toArray rfl rfl 26 _ (heap_alloc_new w3 _) (by rw [sizeValue]; simp; exact C6.out.symm) (by simp; exact C6.out.symm) ALL.out ?_))
  rw [← HW4.out, ← HG4.out]
  have RDD := Lib.hid (RDC'.out w4 (Still.trans S2.out (Still.trans S3.out S4.out)))
  clear RDC' HW4
  go_wp2_with fail
  refine RDD.out.mono ?_
  rintro e w5 ⟨⟨ds, rfl, hd6, hdall, hdv⟩, s5⟩
  have D6 := Lib.hid hd6
  have DALL := Lib.hid hdall
  have DV := Lib.hid hdv
  have S5 := Lib.hid s5
  obtain ⟨g6, hg6⟩ : ∃ g6, g6 = w5.heap.size := ⟨_, rfl⟩
  obtain ⟨w6, hw6⟩ : ∃ w6, w6 = (w5.alloc (.cells #[.int .i64 0, .int .i64 0, .slice none 0 0, .string ⟨#[]⟩, .slice none 0 0, .slice none 0 0] 26)).setRow w5.heap.size ds.toArray := ⟨_, rfl⟩
  have S6 := Lib.hid (show Still w5 w6 by rw [hw6]; exact below_setRow ((Still.refl w5).alloc (Nat.le_refl _) _) (Nat.le_refl _) _)
  have B6 := Lib.hid (show Blk w6 g6 26 ds.toArray by rw [hw6, hg6]; exact setRow_heap _ _ _ _ _ _ (heap_alloc_new w5 _))
  have HW6 := Lib.hid hw6
  have HG6 := Lib.hid hg6
  clear hd6 hdall hdv s5 hg6 hw6 RDD
  go_upto_region 5 with (guard_target =~ wpList _ _ _ (Oper.mk none (Op.store _ _ _) _ _ _ _ :: _) _ _; go_must (refine wpList_store_rowTo rfl 26 (.tmp 6) (.tmp 21) rfl rfl w5.heap.size ds.toArray rfl rfl 26 _ (heap_alloc_new w5 _) (by rw [sizeValue]; simp; exact D6.out.symm) (by simp; exact D6.out.symm) DALL.out ?_))
  rw [← HW6.out, ← HG6.out]
  have MID := Lib.hid (show RdMid w6 w2.heap.size g4 g6 x cs ds from
    { b4 := (B4.out.still S5.out).still S6.out
      b6 := B6.out
      v4 := HasP.keep (fun b _ hl => (S4.out.trans (S5.out.trans S6.out)).block b hl) (S4.out.trans (S5.out.trans S6.out)).size (fun _ hb _ => hb) _ _ HV.out
      v6 := HasP.keep (fun b _ hl => S6.out.block b hl) S6.out.size (fun b hb _ => by have h1 := S3.out.size; have h2 := S4.out.size; have h3 : w4.heap.size ≤ b := hb; show w2.heap.size ≤ b; omega) _ _ DV.out
      g4 := by rw [HG4.out]; exact S3.out.size
      g6 := by rw [HG6.out]; have h1 := S3.out.size; have h2 := S4.out.size; have h3 := S5.out.size; omega })
  have S26 := Lib.hid (Still.trans S3.out (Still.trans S4.out (Still.trans S5.out S6.out)))
  have SV0 := Lib.hid (show ∀ W, RdMid W w2.heap.size g4 g6 x cs ds → Calls Tryd.prog 13 #[.agg cs.toArray, .agg ds.toArray] W fun e w' => e = .returned (.bool true) ∧ Still W w' from fun W m => by
    have h := rsameOK x x W W.heap.size W.heap.size cs.toArray ds.toArray (HasP.toV (fun b _ hl => hl) _ _ m.v4) (HasP.toV (fun b _ hl => hl) _ _ m.v6) (Nat.le_refl _) (Nat.le_refl _)
    rw [sameT_self] at h
    exact h)
  have PL0 := Lib.hid (show ∀ W, RdMid W w2.heap.size g4 g6 x cs ds → Calls Tryd.prog 19 #[.agg cs.toArray] W fun e w' => e = .returned (.bool true) ∧ Still W w' from fun W m =>
    plainOK x W W.heap.size cs.toArray (HasP.toV (fun b _ hl => hl) _ _ m.v4) (Nat.le_refl _) HCL'.out)
  have SB0 := Lib.hid (show ∀ W, Still w2 W → Calls Tryd.prog 12 #[.slice A2 n1 c2, .slice a1 n1 cap1] W fun e w' => e = .returned (.bool true) ∧ Still W w' from fun W s => by
    have h := same_any A2 a1 n1 n1 c2 cap1 l l W _ _ (RD2.out.still (Nat.le_refl _) s) (RB.out.still (Nat.le_refl _) (Still.trans S2.out s)) (by have := N1.out; omega) (by have := N1.out; omega)
    rw [show decide (l = l) = true by simp] at h
    exact h)
  have SV := SV0
  have PL := PL0
  have SB := SB0
  clear SV0 PL0 SB0 HW6 HG4 HG6 B4 B6 HV DV S3 S4 S5 S6 HCL' RB RD2 ALL DALL
  go_wp2_with (first
    | (guard_target =~ wpList _ _ _ (Oper.mk (some 27) _ _ _ _ _ :: _) _ _; go_must (refine load_rowG (by kernel_rfl) 26 (.tmp 4) rfl g4 rfl _ _ _ _ MID.out.b4 HU.out rfl (by rw [sizeValue]; simp [C6.out]) ?_))
    | (guard_target =~ wpList _ _ _ (Oper.mk (some 28) _ _ _ _ _ :: _) _ _; go_must (refine load_rowG (by kernel_rfl) 26 (.tmp 6) rfl g6 rfl _ _ _ _ MID.out.b6 HU.out rfl (by rw [sizeValue]; simp [D6.out]) ?_)))
  refine (SV.out _ MID.out).mono ?_
  rintro e w7 ⟨rfl, s7⟩
  have M7 := Lib.hid (MID.out.keep (fun b _ hl => s7.block b hl) s7.size)
  have S7 := Lib.hid (Still.trans S26.out s7)
  clear s7 MID S26
  go_wp2_with (guard_target =~ wpList _ _ _ (Oper.mk (some 33) _ _ _ _ _ :: _) _ _; go_must (refine load_rowG (by kernel_rfl) 26 (.tmp 4) rfl g4 rfl _ _ _ _ M7.out.b4 HU.out rfl (by rw [sizeValue]; simp [C6.out]) ?_))
  refine (PL.out _ M7.out).mono ?_
  rintro e w8 ⟨rfl, s8⟩
  have M8 := Lib.hid (M7.out.keep (fun b _ hl => s8.block b hl) s8.size)
  have S8 := Lib.hid (Still.trans S7.out s8)
  clear s8 M7 S7 PL
  go_wp2_with fail
  refine (SB.out _ S8.out).mono ?_
  rintro e w9 ⟨rfl, s9⟩
  have M9 := Lib.hid (M8.out.keep (fun b _ hl => s9.block b hl) s9.size)
  have S9 := Lib.hid (Still.trans S8.out s9)
  clear s9 M8 S8 SB
  have d3 : (n1 : Int) ≤ 2000 := by have := N1.out; omega
  have d4 : (n1 : Int) ≤ (c2 : Int) := by have := F1.out; omega
  go_wp2_with fail
  go_loopw [8] (fun iv wr => ∃ j : Nat, j ≤ n1 ∧ iv = .int .i64 j ∧ Hid (w9.grownBy wr rr ∧ (0 < n1 → ∃ g, A2 = some ⟨g, 0, none⟩ ∧ Byt wr g n1))) (fun iv _ => n1 - (intOf iv).toNat)
  case atStart => exact ⟨0, by omega, rfl, World.grownBy.refl _ _, fun h => by
    obtain ⟨g, h1, _, h3⟩ := MB.out h
    exact ⟨g, h1, h3.keep (S9.out.block g h3.lt)⟩⟩
  case round =>
    obtain ⟨j, hj, rfl, hin⟩ := hrel
    by_cases hlt : j < n1
    · obtain ⟨g, rfl, hb⟩ := hin.out.2 (by omega)
      obtain ⟨y, y0, y1, hc, hf⟩ := hb.at_ hlt
      have d1 : (j : Int) < (n1 : Int) := by omega
      have d2 : (0 : Int) ≤ (j : Int) := by omega
      obtain ⟨z0, z1⟩ := u8_more y y0 y1
      obtain ⟨z, hz⟩ : ∃ z, z = IntKind.u8.wrap (y + 1) := ⟨_, rfl⟩
      rw [← hz] at z0 z1
      have hz' : IntKind.u8.wrap (y + 1) = z := hz.symm
      have hc0 : wr.cell? ⟨g, 0 + j, none⟩ = some (.int .u8 y) := by rw [Nat.zero_add]; exact hc
      have hf0 : wr.frozen? ⟨g, 0 + j, none⟩ = false := by rw [Nat.zero_add]; exact hf
      have hrg : rr = some g := by rw [HRR.out, if_pos (by omega)]; rfl
      have FIN := Lib.hid (show w9.grownBy (wr.setCell ⟨g, j, none⟩ (.int .u8 z)) rr ∧ Byt (wr.setCell ⟨g, j, none⟩ (.int .u8 z)) g n1 from ⟨by have h := hin.out.1; rw [hrg] at h ⊢; exact grown_setc0 h, hb.set hlt z0 z1⟩)
      have HLT := Lib.hid hlt
      clear hb hz hlt hrg
      go_wp2_with fail
      go_roundw
      case rel => exact ⟨j + 1, by have := HLT.out; omega, by go_num, FIN.out.1, fun _ => ⟨g, rfl, FIN.out.2⟩⟩
      case measure => simp [intOf]; have := HLT.out; omega
    · obtain rfl : j = n1 := by omega
      have gr := hin.out.1
      have M10 := Lib.hid (show RdMid wr w2.heap.size g4 g6 x cs ds from M9.out.keep (fun b hb hl => gr.block b hl (fun e => by have := (HRB.out b e.symm).2; omega)) gr.size)
      have S10 := Lib.hid (show Below w.heap.size w wr from Below.grown (Still.trans S2.out S9.out : Still w w9) gr (Still.trans S2.out S9.out : Still w w9).size (fun k hk => (HRB.out k hk).1))
      clear gr hin hlt
      go_upto_region 11 with fail
      refine wp_region_lit ?_
      refine wpList_load_row rfl 26 (.tmp 4) rfl g4 rfl _ _ _ _ M10.out.b4 HU.out rfl (by rw [sizeValue]; simp [C6.out]) ?_
      refine wpList_load_row rfl 26 (.tmp 6) rfl g6 rfl _ _ _ _ M10.out.b6 HU.out rfl (by rw [sizeValue]; simp [D6.out]) ?_
      go_wp2_with fail
      refine (SV.out _ M10.out).mono ?_
      rintro e w11 ⟨rfl, s11⟩
      have S11 := Lib.hid (show Below w.heap.size w w11 from Below.trans S10.out (s11.mono S10.out.size))
      clear s11
      go_wp2_with fail
      refine (LV.out _).mono ?_
      rintro e w12 ⟨rfl, s12⟩
      have S12 := Lib.hid (show Below w.heap.size w w12 from Below.trans S11.out (s12.mono S11.out.size))
      clear s12
      go_wp2_with fail
      go_ret
      exact ⟨rfl, S12.out⟩
end Go.Proofs.YtmpnehhndhepgaaDoor
