/- The walk of PackDeep: it returns true, and nothing that was there turns. -/
import Derived.Test.YtoinkioobandfaaDoorPackNest
namespace Go.Proofs.YtoinkioobandfaaDoor
open Go.RowKit
set_option linter.unusedVariables false
set_option linter.unusedSimpArgs false

/-- A load of a whole row, where the operation's guard holds. -/
theorem wpList_load_rowG {P : Program} {ops : Array Oper} {rest : List Oper} {o : Oper} {a : Act} {w : World} {Q : Exit → Act → World → Prop} (hw : Region.wanted o (yielded ops a.tmps) = true) (ty : TypeId) (x : Operand) (ho : o.op = .load ty x)
    (g : Nat) (hx : a.eval x = .pointer (some ⟨g, 0, none⟩)) (t : TypeId) (cs : Array Value) (fr : Nat × Nat) (d : TypeDesc) (hg : w.heap[g]? = some (.cells cs t fr))
    (hu : P.underlying ty = some d) (hd : (match d with | .struct _ | .array _ _ => true | _ => false) = true) (hi : (P.info? ty).map (·.size) = some cs.size)
    (h : wpList P ops Q rest (a.put o.dst (.agg cs)) w) : wpList P ops Q (o :: rest) a w := by
  unfold wpList
  rw [if_pos hw]
  exact .inl (wp_load_row ty x ho g hx t cs fr d hg hu hd hi h)

set_option maxRecDepth 100000 in
set_option maxHeartbeats 3200000 in
theorem packDeep_walk (n x : Int) (w : World) (hn : (Lit.int .i64 n).wf = true) (hx : (Lit.int .i64 x).wf = true) (T : Sizes w) :
    Calls Tryd.prog 8 #[.int .i64 n, .int .i64 x] w fun e w' => e = .returned (.bool true) ∧ Below w.heap.size w w' := by
  have bx := bounds_i64 hx
  have WI := Lib.hid (within_any n 0 40 w (by omega))
  have OX := Lib.hid (fun w => of_any x w)
  have HT := Lib.hid T
  have BX := Lib.hid bx
  have LV := Lib.hid (fun w => lives_any w)
  obtain ⟨fs, hu⟩ := underValue
  have HU := Lib.hid hu
  clear hn hx T bx hu
  go_enter Tryd.func8, Tryd.ntmps8
  go_wp2_with fail
  refine WI.out.mono ?_
  rintro e w0 ⟨⟨y, hy1, hy2, rfl⟩, rfl⟩
  obtain ⟨m, rfl⟩ : ∃ m : Nat, y = (m : Int) := ⟨y.toNat, by omega⟩
  clear WI hy1
  go_wp2_with fail
  refine (OX.out _).mono ?_
  rintro e w1 ⟨rfl, s1⟩
  obtain ⟨gv, hgv⟩ : ∃ gv, gv = w1.heap.size := ⟨_, rfl⟩
  obtain ⟨w2, hw2⟩ : ∃ w2, w2 = (w1.alloc (.cells #[.int .i64 0, .int .i64 0, .slice none 0 0, .string ⟨#[]⟩, .slice none 0 0, .slice none 0 0] 26)).setRow w1.heap.size (cellsI x) := ⟨_, rfl⟩
  have s2 : Still w1 w2 := by rw [hw2]; exact below_setRow ((Still.refl w1).alloc (Nat.le_refl _) _) (Nat.le_refl _) _
  have b2 : Blk w2 gv 26 (cellsI x) := by rw [hw2, hgv]; exact setRow_heap _ _ _ _ _ _ (heap_alloc_new w1 _)
  have S2 := Lib.hid (Still.trans s1 s2)
  have B2 := Lib.hid b2
  have HW2 := Lib.hid hw2
  have HGV := Lib.hid hgv
  have GVL : Hid (w.heap.size ≤ gv) := Lib.hid (by rw [hgv]; exact s1.size)
  have V2 : Hid (HasP w2 (fun b => b ≠ gv) (nest x 0) (cellsI x)) := Lib.hid (by unfold nest; exact hasP_flat 3 x _ (by omega) BX.out (by decide))
  clear s1 s2 b2 hw2 hgv
  go_upto_region 3 with (guard_target =~ wpList _ _ _ (Oper.mk none (Op.store _ _ _) _ _ _ _ :: _) _ _; go_must (refine wpList_store_rowTo rfl 26 (.tmp 5) (.tmp 14) rfl rfl w1.heap.size (cellsI x) rfl rfl 26 _ (heap_alloc_new w1 _) (by rw [sizeValue]; rfl) (by rfl) (cellsI_all x) ?_))
  rw [← HW2.out, ← HGV.out]
  clear HW2 HGV
  go_wp2_with fail
  go_loopw [6] (fun iv wr => ∃ k : Nat, k ≤ m ∧ iv = .int .i64 k ∧ Hid (∃ cs : List Value, cs.length = 6 ∧ cs.toArray.all (·.oneCell') = true ∧ Blk wr gv 26 cs.toArray ∧ HasP wr (fun b => b ≠ gv) (nest x k) cs.toArray ∧ Still w wr)) (fun iv _ => m - (intOf iv).toNat)
  case atStart => exact ⟨0, by omega, rfl, [.int .i64 3, .int .i64 x, .slice none 0 0, .string ⟨#[]⟩, .slice none 0 0, .slice none 0 0], rfl, cellsI_all x, B2.out, V2.out, S2.out⟩
  case round =>
    obtain ⟨k, hk, rfl, cs, hc6, hall, hb, hv, hs⟩ := hrel
    have C6 := Lib.hid hc6
    have ALL := Lib.hid hall
    have BK := Lib.hid hb
    have VK := Lib.hid hv
    have SK := Lib.hid hs
    clear hc6 hall hb hv hs
    by_cases hlt : k < m
    · have d1 : (k : Int) < (m : Int) := by omega
      have HLT := Lib.hid hlt
      go_upto_region 6 with fail
      refine wp_region_lit ?_
      refine wpList_load_row rfl 26 (.tmp 5) rfl gv rfl _ _ _ _ BK.out HU.out rfl (by rw [sizeValue]; simp [C6.out]) ?_
      refine wpList_boxV wr rfl (.tmp 20) rfl cs C6.out rfl ?_
      obtain ⟨g1, hg1⟩ : ∃ g1, g1 = wr.heap.size := ⟨_, rfl⟩
      obtain ⟨w3, hw3⟩ : ∃ w3, w3 = wr.alloc (.cells cs.toArray 26) := ⟨_, rfl⟩
      have s3 : Still wr w3 := by rw [hw3]; exact (Still.refl wr).alloc (Nat.le_refl _) _
      have b3 : Blk w3 g1 26 cs.toArray := by rw [hw3, hg1]; exact Blk.new _ _ _
      have bv3 : Blk w3 gv 26 cs.toArray := BK.out.still s3
      have hne : g1 ≠ gv := by have := BK.out.lt; omega
      rw [← hw3, ← hg1]
      obtain ⟨w4, hw4⟩ : ∃ w4, w4 = w3.setRow gv #[.int .i64 6, .int .i64 0, .slice none 0 0, .string ⟨#[]⟩, .slice none 0 0, .slice (some ⟨g1, 0, none⟩) 1 1] := ⟨_, rfl⟩
      have b4 : Blk w4 gv 26 #[.int .i64 6, .int .i64 0, .slice none 0 0, .string ⟨#[]⟩, .slice none 0 0, .slice (some ⟨g1, 0, none⟩) 1 1] := by rw [hw4]; exact setRow_heap _ _ _ _ _ _ bv3
      have b41 : Blk w4 g1 26 cs.toArray := by rw [hw4]; exact (setRow_other w3 gv g1 _ hne).trans b3
      have v4 : HasP w4 (fun b => b ≠ gv) (nest x (k + 1)) #[.int .i64 6, .int .i64 0, .slice none 0 0, .string ⟨#[]⟩, .slice none 0 0, .slice (some ⟨g1, 0, none⟩) 1 1] :=
        nest_more VK.out C6.out (fun b hb hl => by rw [hw4, setRow_other w3 gv b _ hb]; exact s3.block b hl) (by rw [hw4]; have := s3.size; simpa [World.setRow] using this) (fun _ hb _ => hb) g1 hne b41
      have s4 : Still w w4 := by rw [hw4]; exact below_setRow (Still.trans SK.out s3) GVL.out _
      have ACC := Lib.hid (show ∃ cs : List Value, cs.length = 6 ∧ cs.toArray.all (·.oneCell') = true ∧ Blk w4 gv 26 cs.toArray ∧ HasP w4 (fun b => b ≠ gv) (nest x (k + 1)) cs.toArray ∧ Still w w4 from
        ⟨[.int .i64 6, .int .i64 0, .slice none 0 0, .string ⟨#[]⟩, .slice none 0 0, .slice (some ⟨g1, 0, none⟩) 1 1], rfl, by simp [Value.oneCell'], b4, v4, s4⟩)
      have BV3 := Lib.hid bv3
      have HW4 := Lib.hid hw4
      clear s3 b3 bv3 hne b4 b41 v4 s4 hw4 hw3 hg1 hlt
      go_upto_region 5 with (guard_target =~ wpList _ _ _ (Oper.mk none (Op.store _ _ _) _ _ _ _ :: _) _ _; go_must (refine wpList_store_rowTo rfl 26 (.tmp 5) (.tmp 22) rfl rfl gv #[.int .i64 6, .int .i64 0, .slice none 0 0, .string ⟨#[]⟩, .slice none 0 0, .slice (some ⟨g1, 0, none⟩) 1 1] rfl rfl 26 _ BV3.out (by rw [sizeValue]; rfl) (by simp [C6.out]) (by simp [Value.oneCell']) ?_))
      rw [← HW4.out]
      clear HW4 BV3
      go_wp2_with fail
      go_roundw
      case rel => exact ⟨k + 1, by have := HLT.out; omega, by go_num, ACC.out⟩
      case measure => simp [intOf]; have := HLT.out; omega
    · obtain rfl : k = m := by omega
      have ENC := Lib.hid (encode_any (nest x k) cs.toArray wr wr.heap.size (HasP.toV (fun b _ h => h) _ _ VK.out) (Nat.le_refl _) (HT.out.still SK.out))
      rw [nest_enc] at ENC
      by_cases h15 : k ≤ 15
      · rw [if_pos h15] at ENC
        have q1 : ¬ (16 : Int) ≤ (k : Int) := by omega
        have ENC' : Hid (Calls Tryd.prog 11 #[.agg cs.toArray] wr fun e w' => (∃ v, e = .returned (.tuple #[v, .int .i64 0]) ∧ w'.ownsRow wr.heap.size 5 1 v (encT (nest x k)).length (bytesV (encT (nest x k)))) ∧ Still wr w') := ENC
        have LEN : Hid ((encT (nest x k)).length ≤ 65536) := Lib.hid (by have hl := nest_len x k; have hb := encI_length x; have h8 := bh_le (nt x); omega)
        have ND := Lib.hid (nest_dec x BX.out k h15)
        have NS := Lib.hid (nest_same x k h15)
        have NC := Lib.hid (clT_cl x k)
        obtain ⟨E, hE⟩ : ∃ E, E = encT (nest x k) := ⟨_, rfl⟩
        rw [← hE] at ENC' LEN ND
        obtain ⟨L, hL⟩ : ∃ L, L = E.length := ⟨_, rfl⟩
        rw [← hL] at ENC' LEN
        clear ENC hlt h15 hk hE hL
        go_upto_region 7 with fail
        refine wp_region_lit ?_
        refine wpList_load_row rfl 26 (.tmp 5) rfl gv rfl _ _ _ _ BK.out HU.out rfl (by rw [sizeValue]; simp [C6.out]) ?_
        go_wp2_with fail
        refine ENC'.out.mono ?_
        rintro e w3 ⟨⟨v, rfl, own⟩, s3⟩
        obtain ⟨A, c, rfl, f1, f2, f3⟩ := own_form own
        have S3 := Lib.hid s3
        have DEC := Lib.hid (decode_any A L c E w3 _ (Reads.of_own own) (Nat.le_refl _) (by have := LEN.out; omega) f3 ((HT.out.still SK.out).still s3) ((HT.out.still SK.out).still s3).lt)
        rw [ND.out.1, ND.out.2, NC.out] at DEC
        clear own s3 f1 f2 f3
        go_wp2_with fail
        refine DEC.out.mono ?_
        rintro e w4 ⟨⟨ds, rfl, hd6, hdall, hdv⟩, s4⟩
        obtain ⟨g9, hg9⟩ : ∃ g9, g9 = w4.heap.size := ⟨_, rfl⟩
        have D6 := Lib.hid hd6
        have DALL := Lib.hid hdall
        have BS := build1 ds hd6
        go_upto_region 11 with (first
          | (guard_target =~ wpList _ _ _ (Oper.mk none (Op.store _ _ _) _ _ _ _ :: _) _ _; go_must (refine wpList_store_rowTo rfl 26 (.tmp 9) (.tmp 43) rfl rfl w4.heap.size ds.toArray rfl rfl 26 _ (heap_alloc_new w4 _) (by rw [sizeValue]; simp [D6.out]) (by simp [D6.out]) DALL.out ?_)))
        obtain ⟨w5, hw5⟩ : ∃ w5, w5 = (w4.alloc (.cells #[.int .i64 0, .int .i64 0, .slice none 0 0, .string ⟨#[]⟩, .slice none 0 0, .slice none 0 0] 26)).setRow w4.heap.size ds.toArray := ⟨_, rfl⟩
        have s5 : Still w4 w5 := by rw [hw5]; exact below_setRow ((Still.refl w4).alloc (Nat.le_refl _) _) (Nat.le_refl _) _
        have b9 : Blk w5 g9 26 ds.toArray := by rw [hw5, hg9]; exact setRow_heap _ _ _ _ _ _ (heap_alloc_new w4 _)
        have bv : Blk w5 gv 26 cs.toArray := ((BK.out.still S3.out).still s4).still s5
        have v1 : HasP w5 (fun _ => True) (nest x k) cs.toArray := HasP.keep (fun b _ hl => Below.block (Still.trans (Still.trans S3.out s4) s5) b hl) (Still.trans (Still.trans S3.out s4) s5).size (fun _ _ _ => trivial) _ _ VK.out
        have v2 : HasP w5 (fun _ => True) (nest x k) ds.toArray := HasP.keep (fun b _ hl => s5.block b hl) s5.size (fun _ _ _ => trivial) _ _ hdv
        have SM := Lib.hid (sameOK (nest x k) (nest x k) w5 w5.heap.size w5.heap.size cs.toArray ds.toArray (HasP.toV (fun b _ h => h) _ _ v1) (HasP.toV (fun b _ h => h) _ _ v2) (Nat.le_refl _) (Nat.le_refl _))
        rw [NS.out] at SM
        have SM' : Hid (Calls Tryd.prog 21 #[.agg cs.toArray, .agg ds.toArray] w5 fun e w' => e = .returned (.bool true) ∧ Still w5 w') := SM
        rw [← hw5, ← hg9]
        have S5 := Lib.hid (Still.trans SK.out (Still.trans (Still.trans S3.out s4) s5))
        have B9 := Lib.hid b9
        have BV := Lib.hid bv
        clear s5 s4 b9 bv v1 v2 SM hw5 hg9 hdv hd6 hdall BS DEC ENC'
        go_wp2_with (first
          | (guard_target =~ wpList _ _ _ (Oper.mk (some 52) _ _ _ _ _ :: _) _ _; go_must (refine wpList_load_rowG (by kernel_rfl) 26 (.tmp 5) rfl gv rfl _ _ _ _ BV.out HU.out rfl (by rw [sizeValue]; simp [C6.out]) ?_))
          | (guard_target =~ wpList _ _ _ (Oper.mk (some 53) _ _ _ _ _ :: _) _ _; go_must (refine wpList_load_rowG (by kernel_rfl) 26 (.tmp 9) rfl g9 rfl _ _ _ _ B9.out HU.out rfl (by rw [sizeValue]; simp [D6.out]) ?_)))
        refine SM'.out.mono ?_
        rintro e w6 ⟨rfl, s6⟩
        have S6 := Lib.hid (Still.trans (show Still w w5 from S5.out) s6)
        clear s6 SM'
        go_wp2_with fail
        refine (LV.out _).mono ?_
        rintro e w7 ⟨rfl, s7⟩
        have S7 := Lib.hid (Still.trans (show Still w w6 from S6.out) s7)
        go_wp2_with fail
        go_ret
        exact ⟨rfl, S7.out⟩
      · rw [if_neg h15] at ENC
        have q1 : (16 : Int) ≤ (k : Int) := by omega
        have ENC' : Hid (Calls Tryd.prog 11 #[.agg cs.toArray] wr fun e w' => (∃ v, e = .returned (.tuple #[v, .int .i64 4]) ∧ w'.ownsRow wr.heap.size 5 1 v 0 (bytesV [])) ∧ Still wr w') := ENC
        clear ENC hlt h15 hk
        go_upto_region 7 with fail
        refine wp_region_lit ?_
        refine wpList_load_row rfl 26 (.tmp 5) rfl gv rfl _ _ _ _ BK.out HU.out rfl (by rw [sizeValue]; simp [C6.out]) ?_
        go_wp2_with fail
        refine ENC'.out.mono ?_
        rintro e w3 ⟨⟨v, rfl, own⟩, s3⟩
        obtain ⟨A, c, rfl, f1, f2, f3⟩ := own_form own
        have S3 := Lib.hid (Still.trans SK.out s3)
        clear own s3 f1 f2 f3
        go_wp2_with fail
        refine (LV.out _).mono ?_
        rintro e w4 ⟨rfl, s4⟩
        have S4 := Lib.hid (Still.trans (show Still w w3 from S3.out) s4)
        go_wp2_with fail
        go_ret
        exact ⟨rfl, S4.out⟩
end Go.Proofs.YtoinkioobandfaaDoor
