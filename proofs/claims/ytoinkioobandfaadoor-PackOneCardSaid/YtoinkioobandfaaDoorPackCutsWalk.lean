/- The walk of PackCuts: it returns true, and nothing that was there turns. -/
import Derived.Test.YtoinkioobandfaaDoorPackBackWalk
namespace Go.Proofs.YtoinkioobandfaaDoor
open Go.RowKit
set_option linter.unusedVariables false
set_option linter.unusedSimpArgs false

theorem front_bad (x : Tr) (hc : canT 1 x = true) (hi : inT x) (hl : (encT x).length ≤ 65536) (k : Nat) (hk : k < (encT x).length) : (decB ((encT x).take k)).1 = 3 := by
  have F := decV_front x 1 ((encT x).take k) ((encT x).drop k) hc hi hl (fun e => by have := congrArg List.length e; rw [List.length_drop] at this; simp at this; omega) (List.take_append_drop _ _).symm
  have F' : (decV 16 ((encT x).take k)).1 = 3 := F
  unfold decB
  rw [if_neg (by rw [List.length_take]; omega), if_pos (by rw [F']; decide)]
  exact F'
theorem more_bad (x : Tr) (hc : canT 1 x = true) (hi : inT x) (hl : (encT x).length < 65536) (b : UInt8) : (decB (encT x ++ [b])).1 = 6 := by
  have D : decV 16 (encT x ++ [b]) = (0, clT x, [b]) := decV_enc x 1 [b] hc hi (by omega)
  unfold decB
  rw [if_neg (by rw [List.length_append]; simp; omega), D]
  simp
theorem enc_ok2 {w : World} {B : Nat} {x : Tr} {cs : Array Value} (h : HasV w B x cs) (hB : B ≤ w.heap.size) (T : Sizes w) (he : encR x = (encT x, 0)) :
    Calls Tryd.prog 11 #[.agg cs] w fun e w' => (∃ A c, e = .returned (.tuple #[.slice A (encT x).length c, .int .i64 0]) ∧ Reads w' w'.heap.size A (encT x).length (encT x) ∧ (encT x).length ≤ c) ∧ Still w w' := by
  have E := encode_any x cs w B h hB T
  rw [he] at E
  refine E.mono ?_
  rintro e w' ⟨⟨v, rfl, own⟩, s⟩
  obtain ⟨A, c, rfl, f1, f2, f3⟩ := own_form own
  exact ⟨⟨A, c, rfl, Reads.of_own own, f1⟩, s⟩
theorem encT_some (x : Tr) (hc : canT 1 x = true) (hi : inT x) (hl : (encT x).length ≤ 65536) : 0 < (encT x).length := by
  rcases h : encT x with _ | ⟨a, r⟩
  · have D : decV 16 (encT x ++ []) = (0, clT x, []) := decV_enc x 1 [] hc hi hl
    rw [h] at D
    have h' : (3 : Int) = 0 := congrArg Prod.fst D
    exact absurd h' (by decide)
  · simp

set_option maxRecDepth 100000 in
set_option maxHeartbeats 3200000 in
theorem packCuts_walk (x0 : Tr) (cs0 : Array Value) (a1 a2 : Int) (w : World) (w0 : HasW w (fun _ => True) x0 cs0) (w1 : (Lit.int .i64 a1).wf = true) (w2 : (Lit.int .u8 a2).wf = true) (T : Sizes w) :
    Calls Tryd.prog 7 #[.agg cs0, .int .i64 a1, .int .u8 a2] w fun e w' => e = .returned (.bool true) ∧ Below w.heap.size w w' := by
  have h6 := HasW.size _ _ w0
  have hu8 := bounds_u8 w2
  obtain ⟨lx⟩ := cs0
  obtain ⟨wA, hA⟩ : ∃ wA, wA = w.alloc (.cells lx.toArray 26) := ⟨_, rfl⟩
  have sA : Still w wA := by rw [hA]; exact (Still.refl w).alloc (Nat.le_refl _) _
  have bA : Blk wA w.heap.size 26 lx.toArray := by rw [hA]; exact Blk.new _ _ _
  have SM := Lib.hid (small_any x0 wA (fun b => b < w.heap.size) lx.toArray (HasW.keep (fun b _ hl => sA.block b hl) sA.size (fun b _ hl => hl) _ _ w0))
  have hsm := smallT_sm x0
  obtain ⟨tx, htx⟩ : ∃ tx, tx = smallT x0 := ⟨_, rfl⟩
  rw [← htx] at SM hsm
  obtain ⟨mb, hmb⟩ : ∃ mb : UInt8, a2 = (mb.toNat : Int) := ⟨UInt8.ofNat a2.toNat, by rw [UInt8.toNat_ofNat']; omega⟩
  have HMB := Lib.hid hmb
  have HSM := Lib.hid hsm
  have HT := Lib.hid (fun W (s : Still w W) => T.still s)
  have H6 := Lib.hid (show lx.length = 6 by simpa using h6)
  have HA := Lib.hid hA
  have SA := Lib.hid sA
  have BA := Lib.hid bA
  obtain ⟨fs, hu⟩ := underValue
  have HU := Lib.hid hu
  obtain ⟨g0, hg0⟩ : ∃ g0, g0 = w.heap.size := ⟨_, rfl⟩
  have HG0 := Lib.hid hg0
  rw [← hg0] at BA
  have LV := Lib.hid (fun w => lives_any w)
  clear w0 w1 w2 hu8 h6 hA sA bA hsm htx T hu hg0 hmb
  go_enter Tryd.func7, Tryd.ntmps7
  go_upto_region 0 with fail
  refine wp_region_lit ?_
  refine wpList_box_arr rfl 26 (.tmp 0) rfl (some 3) rfl _ rfl ?_
  go_upto_region 1 with fail
  rw [show (w.alloc (.cells lx.toArray 26)) = wA from HA.out.symm, ← HG0.out]
  go_wp2_with (first
    | (guard_target =~ wpList _ _ _ (Oper.mk (some 13) _ _ _ _ _ :: _) _ _; go_must (refine wpList_load_row rfl 26 (.tmp 3) rfl g0 rfl _ _ _ _ BA.out HU.out rfl (by rw [sizeValue]; simp [H6.out]) ?_)))
  refine SM.out.mono ?_
  rintro e wB ⟨⟨ds, rfl, hd6, hdall, hdv⟩, sB⟩
  have SB := Lib.hid (SA.out.trans sB)
  have D6 := Lib.hid hd6
  have DALL := Lib.hid hdall
  have DV := Lib.hid hdv
  have BB := Lib.hid (BA.out.still sB)
  have ZB := Lib.hid (show g0 < wA.heap.size from BA.out.lt)
  clear hd6 hdall hdv sB SM
  obtain ⟨w2, hw2⟩ : ∃ w2, w2 = wB.setRow g0 ds.toArray := ⟨_, rfl⟩
  have S2 := Lib.hid (show Still w w2 by rw [hw2]; exact below_setRow SB.out (by rw [HG0.out]; exact Nat.le_refl _) _)
  have B2 := Lib.hid (show Blk w2 g0 26 ds.toArray by rw [hw2]; exact setRow_heap _ _ _ _ _ _ BB.out)
  have V2 := Lib.hid (show HasV w2 w2.heap.size tx ds.toArray from HasW.toV (P := fun b => g0 < b) (fun b _ h => h) _ _ HSM.out (by rw [hw2]; exact HasW.keep (fun b hb hl => setRow_other wB g0 b _ (by have := ZB.out; have : wA.heap.size ≤ b := hb; omega)) (by simp [World.setRow]) (fun b hb _ => by have := ZB.out; have : wA.heap.size ≤ b := hb; omega) _ _ DV.out))
  have HW2 := Lib.hid hw2
  go_upto_region 2 with (first
    | (guard_target =~ wpList _ _ _ (Oper.mk none (Op.store _ _ _) _ _ _ _ :: _) _ _; go_must (refine wpList_store_rowTo rfl 26 (.tmp 3) (.tmp 14) rfl rfl g0 ds.toArray rfl rfl 26 _ BB.out (by rw [sizeValue]; simp [D6.out]) (by simp [D6.out, H6.out]) DALL.out ?_)))
  rw [← HW2.out]
  clear hw2 HW2 BB SB BA DV ZB SA HA
  rcases encR_cases tx with ⟨hc, hl, he⟩ | ⟨er, her, he⟩
  · have ENC := Lib.hid (enc_ok2 V2.out (Nat.le_refl _) (HT.out _ S2.out) he)
    have hin := hasV_in _ _ V2.out
    have hpos := encT_some tx hc hin hl
    have FR := Lib.hid (front_bad tx hc hin hl)
    have MO := Lib.hid (more_bad tx hc hin)
    obtain ⟨E, hE⟩ : ∃ E, E = encT tx := ⟨_, rfl⟩
    rw [← hE] at ENC hl hpos FR MO
    obtain ⟨L, hL⟩ : ∃ L, L = E.length := ⟨_, rfl⟩
    rw [← hL] at ENC hl hpos FR MO
    have HLN := Lib.hid hl
    obtain ⟨L1, hL1⟩ : ∃ L1, L1 = L - 1 := ⟨_, rfl⟩
    have e0 : (L : Int) - 1 = (L1 : Int) := by omega
    have e1 : IntKind.i64.wrap ((L : Int) - 1) = (L1 : Int) := by rw [IntKind.wrap_i64]; omega
    have e2 : IntKind.i64.wrap (L1 : Int) = (L1 : Int) := by rw [IntKind.wrap_i64]; omega
    have HL1 := Lib.hid (show L = L1 + 1 by omega)
    have HLE := Lib.hid hL
    have d7 : ¬ (L : Int) = 0 := by omega
    have WI := Lib.hid (fun W => within_any a1 0 (L1 : Int) W (by omega))
    clear hc hl he hin hE hL hL1 hpos
    refine wp_region_lit ?_
    refine wpList_load_row rfl 26 (.tmp 3) rfl g0 rfl _ _ _ _ B2.out HU.out rfl (by rw [sizeValue]; simp [D6.out]) ?_
    go_wp2_with fail
    refine ENC.out.mono ?_
    rintro e w3 ⟨⟨A3, c3, rfl, rd3, na3⟩, s3⟩
    have S3 := Lib.hid (Still.trans S2.out s3)
    have RD3 := Lib.hid rd3
    have NA3 := Lib.hid na3
    clear rd3 na3 s3 ENC B2 V2 S2
    by_cases hmax : L = 65536
    · have d8 : (L : Int) = 65536 := by omega
      clear hmax
      go_wp2_with fail
      refine (LV.out _).mono ?_
      rintro e w4 ⟨rfl, s4⟩
      have S4 := Lib.hid (Still.trans (show Still w w3 from S3.out) s4)
      go_wp2_with fail
      go_ret
      exact ⟨rfl, S4.out⟩
    · have d8 : ¬ (L : Int) = 65536 := by omega
      have HMX := Lib.hid (show L < 65536 by have := HLN.out; omega)
      clear hmax
      go_wp2_with fail
      refine (WI.out _).mono ?_
      rintro e w4 ⟨⟨y, hy1, hy2, rfl⟩, rfl⟩
      obtain ⟨k, rfl⟩ : ∃ k : Nat, y = (k : Int) := ⟨y.toNat, by omega⟩
      obtain ⟨b3, o3, rfl, hb3, hc3⟩ := RD3.out.at_ (by have := HL1.out; omega)
      have hkL : k < L := by have := HL1.out; omega
      have hLc : (L : Int) ≤ (c3 : Int) := by have := NA3.out; omega
      have DK := Lib.hid (decode_any (some ⟨b3, o3, none⟩) k c3 (E.take k) w3 _ (by have := RD3.out.take k; rwa [show min L k = k by omega] at this) (Nat.le_refl _) (by have := HLN.out; omega) (fun e => by cases e) (HT.out _ S3.out) (HT.out _ S3.out).lt)
      rw [FR.out k hkL] at DK
      have f1 : (0 : Int) ≤ (k : Int) := by omega
      have f2 : (k : Int) ≤ (c3 : Int) := by omega
      clear hy1 hy2 hkL hLc hb3 hc3
      go_wp2_with fail
      refine DK.out.mono ?_
      rintro e w5 ⟨⟨es, rfl, he6, heall, _⟩, s5⟩
      have E6 := Lib.hid he6
      have EALL := Lib.hid heall
      have BS := build1 es he6
      clear heall DK
      go_upto_region 8 with (first
        | (guard_target =~ wpList _ _ _ (Oper.mk none (Op.store _ (Operand.tmp 9) _) _ _ _ _ :: _) _ _; go_must (refine wpList_store_rowTo rfl 26 (.tmp 9) (.tmp 40) rfl rfl w5.heap.size es.toArray rfl rfl 26 _ (heap_alloc_new w5 _) (by rw [sizeValue]; simp [E6.out]) (by simp [E6.out]) EALL.out ?_)))
      obtain ⟨w6, hw6⟩ : ∃ w6, w6 = (w5.alloc (.cells #[.int .i64 0, .int .i64 0, .slice none 0 0, .string ⟨#[]⟩, .slice none 0 0, .slice none 0 0] 26)).setRow w5.heap.size es.toArray := ⟨_, rfl⟩
      have s6 : Still w5 w6 := by rw [hw6]; exact below_setRow ((Still.refl w5).alloc (Nat.le_refl _) _) (Nat.le_refl _) _
      have S6 := Lib.hid (Still.trans S3.out (Still.trans (show Still w3 w5 from s5) s6))
      have CP := Lib.hid (copy_any (some ⟨b3, o3, none⟩) L c3 E w6 _ (RD3.out.still (Nat.le_refl _) (Still.trans (show Still w3 w5 from s5) s6)) (by have := HLN.out; omega) (fun e => by cases e))
      rw [← hw6]
      clear hw6 s5 s6 BS he6
      go_wp2_with fail
      refine CP.out.mono ?_
      rintro e w7 ⟨⟨v, rfl, own⟩, s7⟩
      obtain ⟨A7, c7, rfl, _, _, _⟩ := own_form own
      have OWN := Lib.hid own
      have S7 := Lib.hid (Still.trans S6.out s7)
      have Z7 := Lib.hid s7.size
      clear own s7 CP
      go_wp2_with (at_builtin; go_must (refine wpList_push w7 rfl (.tmp 44) (.tmp 46) rfl w6.heap.size (.slice A7 L c7) L E (by kernel_rfl) OWN.out a2 mb (by kernel_rfl) HMB.out (by have := HLN.out; omega) Z7.out ?_))
      intro v8 w8 own8 gr8 _
      obtain ⟨A8, c8, rfl, g1, g2, g3⟩ := own_form own8
      have S8 := Lib.hid (show Still w w8 from Below.grown S7.out gr8 S7.out.size (fun b e => by have h1 := (OWN.out.lt b e).1; have h2 := S6.out.size; omega))
      have D8 := Lib.hid (decode_any A8 (L + 1) c8 (E ++ [mb]) w8 _ (Reads.of_own own8) (Nat.le_refl _) (by have := HLN.out; omega) g3 (HT.out _ S8.out) (HT.out _ S8.out).lt)
      rw [MO.out HMX.out mb] at D8
      clear own8 gr8 g1 g2 g3
      go_wp2_with fail
      refine D8.out.mono ?_
      rintro e w9 ⟨⟨us, rfl, hu6, huall, _⟩, s9⟩
      have U6 := Lib.hid hu6
      have UALL := Lib.hid huall
      have BSu := build1 us hu6
      clear huall D8
      go_upto_region 9 with (first
        | (guard_target =~ wpList _ _ _ (Oper.mk none (Op.store _ (Operand.tmp 11) _) _ _ _ _ :: _) _ _; go_must (refine wpList_store_rowTo rfl 26 (.tmp 11) (.tmp 49) rfl rfl w9.heap.size us.toArray rfl rfl 26 _ (heap_alloc_new w9 _) (by rw [sizeValue]; simp [U6.out]) (by simp [U6.out]) UALL.out ?_)))
      obtain ⟨wX, hwX⟩ : ∃ wX, wX = (w9.alloc (.cells #[.int .i64 0, .int .i64 0, .slice none 0 0, .string ⟨#[]⟩, .slice none 0 0, .slice none 0 0] 26)).setRow w9.heap.size us.toArray := ⟨_, rfl⟩
      have sX : Still w9 wX := by rw [hwX]; exact below_setRow ((Still.refl w9).alloc (Nat.le_refl _) _) (Nat.le_refl _) _
      have SX := Lib.hid (Still.trans (show Still w w8 from S8.out) (Still.trans (show Still w8 w9 from s9) sX))
      rw [← hwX]
      clear hwX s9 sX BSu hu6
      go_wp2_with fail
      refine (LV.out _).mono ?_
      rintro e wY ⟨rfl, sY⟩
      have SY := Lib.hid (Still.trans (show Still w wX from SX.out) sY)
      go_wp2_with fail
      go_ret
      exact ⟨rfl, SY.out⟩
  · have ENC := Lib.hid (enc_no V2.out (Nat.le_refl _) (HT.out _ S2.out) er he)
    have d3 : (er == 0) = false := by simpa using her
    have d4 : (er != 0) = true := by simpa using her
    clear her he
    refine wp_region_lit ?_
    refine wpList_load_row rfl 26 (.tmp 3) rfl g0 rfl _ _ _ _ B2.out HU.out rfl (by rw [sizeValue]; simp [D6.out]) ?_
    go_wp2_with fail
    refine ENC.out.mono ?_
    rintro e w3 ⟨⟨A3, c3, rfl⟩, s3⟩
    have S6 := Lib.hid (Still.trans (show Still w w2 from S2.out) s3)
    clear s3 ENC B2 V2 S2
    go_wp2_with fail
    refine (LV.out _).mono ?_
    rintro e w4 ⟨rfl, s4⟩
    have S4 := Lib.hid (Still.trans (show Still w w3 from S6.out) s4)
    go_wp2_with fail
    go_ret
    exact ⟨rfl, S4.out⟩
end Go.Proofs.YtoinkioobandfaaDoor
