/- The walk of PackWrites: it returns true, and nothing that was there turns. -/
import Derived.Test.YtmjijajndeihaaaDoorPackGh
import Derived.Test.YtmjijajndeihaaaDoorPackGg
import Derived.Test.YtmjijajndeihaaaDoorPackGf
import Derived.Test.YtmjijajndeihaaaDoorPackGd
import Derived.Test.YtmjijajndeihaaaDoorOpenVal
import Derived.Deep.DeepCutAuto
namespace Go.Proofs.YtmjijajndeihaaaDoor
open Go.RowKit
set_option linter.unusedVariables false
set_option linter.unusedSimpArgs false

theorem shB_idem (k : Nat) (s : ByteArray) : shB k (shB k s) = shB k s := by
  have h := shB_size k s
  generalize shB k s = t at *
  unfold shB
  rw [if_neg (by omega)]
mutual
/-- What was made small stays as it is when it is made small again. -/
theorem fewT_idem : ∀ (x : Tr) (m : Nat), fewT (fewT x m).1 m = fewT x m
  | .mk k i b t ks l, m => by
    have h := fewL_idem 40 l (m - 1)
    have h1 : fewT (.mk k i b t ks l) m = (.mk k i (b.take 700) (shB 700 t) ((ks.take 40).map (shB 100)) (fewL 40 l (m - 1)).1, (fewL 40 l (m - 1)).2) := by rw [fewT]
    rw [h1]
    simp only
    rw [fewT, h, shB_idem, List.take_take, Nat.min_self]
    have e : (((ks.take 40).map (shB 100)).take 40).map (shB 100) = (ks.take 40).map (shB 100) := by
      rw [← List.map_take, List.take_take, Nat.min_self, List.map_map]
      congr 1
      funext s
      exact shB_idem 100 s
    rw [e]
theorem fewL_idem : ∀ (j : Nat) (l : List Tr) (m : Nat), fewL j (fewL j l m).1 m = fewL j l m
  | 0, _, m => by rw [fewL, fewL]
  | j + 1, [], m => by rw [fewL, fewL]
  | j + 1, x :: r, m => by
    by_cases hm : 0 < m
    · have h1 : fewL (j + 1) (x :: r) m = ((fewT x m).1 :: (fewL j r (fewT x m).2).1, (fewL j r (fewT x m).2).2) := by rw [fewL, if_pos hm]
      rw [h1]
      simp only
      rw [fewL, if_pos hm, fewT_idem x m, fewL_idem j r (fewT x m).2]
    · have h1 : fewL (j + 1) (x :: r) m = ([], m) := by rw [fewL, if_neg hm]
      rw [h1]
      simp only
      rw [fewL]
end
theorem smallT_idem (x : Tr) : smallT (smallT x) = smallT x := by
  unfold smallT
  rw [fewT_idem]
mutual
theorem sameT_refl : ∀ (x : Tr), sameT x x = true
  | .mk k i b t ks l => by
    have h := sameL_refl l
    unfold sameT
    simp [h]
theorem sameL_refl : ∀ (l : List Tr), sameL l l = true
  | [] => by unfold sameL; rfl
  | x :: r => by unfold sameL; rw [sameT_refl x, sameL_refl r]; rfl
end
theorem encR_len (x : Tr) : (encR x).1.length ≤ 65536 := by
  rw [encR_eq]
  by_cases h1 : canT 1 x = false
  · rw [if_pos h1]; simp
  · rw [if_neg h1]
    by_cases h2 : 65536 < (encT x).length
    · rw [if_pos h2]; simp
    · rw [if_neg h2]; simp only; omega

/-- Behind both values were made small. -/
structure WrMid (w wx : World) (g0 g3 : Nat) (t : Tr) (ds es : List Value) : Prop where
  st : Still w wx
  b0 : Blk wx g0 26 ds.toArray
  b3 : Blk wx g3 26 es.toArray
  v0 : HasV wx wx.heap.size t ds.toArray
  v3 : HasV wx wx.heap.size t es.toArray
  d6 : ds.length = 6
  e6 : es.length = 6
theorem wr_mid {w w1 W : World} {g0 g3 : Nat} {t : Tr} {ds es : List Value} {old : Array Value} (s1 : Still w w1) (b0 : Blk w1 g0 26 ds.toArray) (v0 : HasV w1 w1.heap.size t ds.toArray) (d6 : ds.length = 6) (sm : smT t)
    (K : Still w1 W) (b3 : Blk W g3 26 old) (h3 : w1.heap.size ≤ g3) (v3 : HasW W (fun b => w1.heap.size ≤ b ∧ b ≠ g3) t es.toArray) (e6 : es.length = 6) :
    WrMid w (W.setRow g3 es.toArray) g0 g3 t ds es := by
  have hz : W.heap.size ≤ (W.setRow g3 es.toArray).heap.size := by simp [World.setRow]
  have sK : Still w1 (W.setRow g3 es.toArray) := below_setRow K h3 _
  have h0 := b0.lt
  exact
  { st := Still.trans s1 sK
    b0 := b0.still sK
    b3 := setRow_heap _ _ _ _ _ _ b3
    v0 := HasV.more sK.size _ _ (HasV.below sK _ _ v0)
    v3 := HasW.toV (P := fun b => True) (fun b _ h => h) _ _ sm (HasW.keep (fun b hb _ => setRow_other W g3 b _ hb.2) hz (fun b hb _ => trivial) _ _ v3)
    d6 := d6
    e6 := e6 }

set_option maxRecDepth 100000 in
set_option maxHeartbeats 6400000 in
theorem packWrites_walk (x0 : Tr) (cs0 : Array Value) (w : World) (w0 : HasW w (fun _ => True) x0 cs0) (T : Sizes w) :
    Calls Tryd.prog 3 #[.agg cs0] w fun e w' => e = .returned (.bool true) ∧ Below w.heap.size w w' := by
  have h6 := HasW.size _ _ w0
  obtain ⟨lx⟩ := cs0
  obtain ⟨wA, hA⟩ : ∃ wA, wA = w.alloc (.cells lx.toArray 26) := ⟨_, rfl⟩
  have sA : Still w wA := by rw [hA]; exact (Still.refl w).alloc (Nat.le_refl _) _
  have bA : Blk wA w.heap.size 26 lx.toArray := by rw [hA]; exact Blk.new _ _ _
  have SM := Lib.hid (small_any x0 wA (fun b => b < w.heap.size) lx.toArray (HasW.keep (fun b _ hl => sA.block b hl) sA.size (fun b _ hl => hl) _ _ w0))
  have hsm := smallT_sm x0
  have hid2 := smallT_idem x0
  obtain ⟨tx, htx⟩ : ∃ tx, tx = smallT x0 := ⟨_, rfl⟩
  rw [← htx] at SM hsm hid2
  have HSM := Lib.hid hsm
  have HID := Lib.hid hid2
  have HT := Lib.hid (fun W (s : Still w W) => T.still s)
  have H6 := Lib.hid (show lx.length = 6 by simpa using h6)
  have HA := Lib.hid hA
  have SA := Lib.hid sA
  have BA := Lib.hid bA
  obtain ⟨fs, hu⟩ := underValue
  have HU := Lib.hid hu
  obtain ⟨g0, hg0⟩ : ∃ g0, g0 = w.heap.size := ⟨_, rfl⟩
  have HG0 := Lib.hid hg0
  rw [← hg0] at BA
  have LV := Lib.hid (fun w => lives_any w)
  clear w0 h6 hA sA bA hsm htx T hu hg0 hid2
  go_enter Tryd.func3, Tryd.ntmps3
  go_upto_region 0 with fail
  refine wp_region_lit ?_
  refine wpList_box_arr rfl 26 (.tmp 0) rfl (some 1) rfl _ rfl ?_
  go_upto_region 1 with fail
  rw [show (w.alloc (.cells lx.toArray 26)) = wA from HA.out.symm, ← HG0.out]
  go_wp2_with (first
    | (guard_target =~ wpList _ _ _ (Oper.mk (some 8) _ _ _ _ _ :: _) _ _; go_must (refine wpList_load_row rfl 26 (.tmp 1) rfl g0 rfl _ _ _ _ BA.out HU.out rfl (by rw [sizeValue]; simp [H6.out]) ?_)))
  refine SM.out.mono ?_
  rintro e wB ⟨⟨ds, rfl, hd6, hdall, hdv⟩, sB⟩
  have SB := Lib.hid (SA.out.trans sB)
  have D6 := Lib.hid hd6
  have DALL := Lib.hid hdall
  have DV := Lib.hid hdv
  have BB := Lib.hid (BA.out.still sB)
  have ZB := Lib.hid (show g0 < wA.heap.size from BA.out.lt)
  clear hd6 hdall hdv sB SM
  obtain ⟨w2, hw2⟩ : ∃ w2, w2 = wB.setRow g0 ds.toArray := ⟨_, rfl⟩
  have S2 := Lib.hid (show Still w w2 by rw [hw2]; exact below_setRow SB.out (by rw [HG0.out]; exact Nat.le_refl _) _)
  have B2 := Lib.hid (show Blk w2 g0 26 ds.toArray by rw [hw2]; exact setRow_heap _ _ _ _ _ _ BB.out)
  have W2 := Lib.hid (show HasW w2 (fun b => g0 < b) tx ds.toArray by rw [hw2]; exact HasW.keep (fun b hb hl => setRow_other wB g0 b _ (by have := ZB.out; have : wA.heap.size ≤ b := hb; omega)) (by simp [World.setRow]) (fun b hb _ => by have := ZB.out; have : wA.heap.size ≤ b := hb; omega) _ _ DV.out)
  have V2 := Lib.hid (show HasV w2 w2.heap.size tx ds.toArray from HasW.toV (P := fun b => g0 < b) (fun b _ h => h) _ _ HSM.out W2.out)
  have HW2 := Lib.hid hw2
  go_upto_region 2 with (first
    | (guard_target =~ wpList _ _ _ (Oper.mk none (Op.store _ _ _) _ _ _ _ :: _) _ _; go_must (refine wpList_store_rowTo rfl 26 (.tmp 1) (.tmp 9) rfl rfl g0 ds.toArray rfl rfl 26 _ BB.out (by rw [sizeValue]; simp [D6.out]) (by simp [D6.out, H6.out]) DALL.out ?_)))
  rw [← HW2.out]
  clear hw2 HW2 BB SB BA DV ZB SA HA
  have SM0 := Lib.hid (show ∀ W, Still w2 W → Calls Tryd.prog 5 #[.agg ds.toArray] W fun e w' => (∃ es : List Value, e = .returned (.agg es.toArray) ∧ es.length = 6 ∧ es.toArray.all (·.oneCell') = true ∧ HasW w' (fun b => W.heap.size ≤ b) tx es.toArray) ∧ Still W w' from fun W s => by
    have h := small_any tx W (fun _ => True) ds.toArray (HasW.keep (fun b _ hl => s.block b hl) s.size (fun _ _ _ => trivial) _ _ W2.out)
    rw [HID.out] at h
    exact h)
  have SM := SM0
  clear SM0 W2
  go_wp2_with (first
    | (guard_target =~ wpList _ _ _ (Oper.mk (some 10) _ _ _ _ _ :: _) _ _; go_must (refine wpList_load_row rfl 26 (.tmp 1) rfl g0 rfl _ _ _ _ B2.out HU.out rfl (by rw [sizeValue]; simp [D6.out]) ?_)))
  refine (SM.out _ (Still.refl _)).mono ?_
  rintro e wz ⟨⟨es, rfl, q6, qall, qv⟩, qs⟩
  have E6 := Lib.hid q6
  have EALL := Lib.hid qall
  have KC := Lib.hid qs
  have VY := Lib.hid qv
  clear q6 qall qs qv
  obtain ⟨g3, hg3⟩ : ∃ g3, g3 = wz.heap.size := ⟨_, rfl⟩
  obtain ⟨wl, hwl⟩ : ∃ wl, wl = wz.alloc (.cells cellsZ 26) := ⟨_, rfl⟩
  have KA := Lib.hid (show Still w2 wl by rw [hwl]; exact KC.out.alloc KC.out.size _)
  have BG := Lib.hid (show Blk wl g3 26 cellsZ by rw [hwl, hg3]; exact Blk.new _ _ _)
  have G3 := Lib.hid (show w2.heap.size ≤ g3 by rw [hg3]; exact KC.out.size)
  have VZ := Lib.hid (show HasW wl (fun b => w2.heap.size ≤ b ∧ b ≠ g3) tx es.toArray by rw [hwl]; exact HasW.keep (fun b _ hl => heap_alloc_old _ _ hl) (by simp) (fun b hb hl => ⟨hb, by omega⟩) _ _ VY.out)
  obtain ⟨wc, hwc⟩ : ∃ wc, wc = wl.setRow g3 es.toArray := ⟨_, rfl⟩
  have MID := Lib.hid (show WrMid w wc g0 g3 tx ds es by rw [hwc]; exact wr_mid S2.out B2.out V2.out D6.out HSM.out KA.out BG.out G3.out VZ.out E6.out)
  have HWC := Lib.hid hwc
  have HWL := Lib.hid (show wl = wz.alloc (.cells #[.int .i64 0, .int .i64 0, .slice none 0 0, .string ⟨#[]⟩, .slice none 0 0, .slice none 0 0] 26) from hwl)
  have HG3 := Lib.hid hg3
  clear hwc hwl hg3
  go_upto_region 3 with (first
    | (guard_target =~ wpList _ _ _ (Oper.mk none (Op.store _ _ _) _ _ _ _ :: _) _ _; first
        | rw [← HWL.out, ← HG3.out]
        | skip; go_must (refine wpList_store_rowTo rfl 26 (.tmp 3) (.tmp 11) rfl rfl g3 es.toArray rfl rfl 26 _ BG.out (by rw [sizeValue]; simp [E6.out]) (by simp [E6.out, cellsZ]) EALL.out ?_)))
  rw [← HWC.out]
  clear HWC HWL HG3 BG KA KC VZ VY EALL
  obtain ⟨er, her⟩ : ∃ er, er = (encR tx).2 := ⟨_, rfl⟩
  obtain ⟨E, hE⟩ : ∃ E, E = (encR tx).1 := ⟨_, rfl⟩
  have EN1 := Lib.hid (encode_any tx es.toArray wc _ MID.out.v3 (Nat.le_refl _) (HT.out _ MID.out.st))
  have EN2 := Lib.hid (fun W (s : Still wc W) => rencode_any tx ds.toArray W _ (HasV.below s _ _ MID.out.v0) s.size)
  have EL := Lib.hid (show E.length ≤ 65536 by rw [hE]; exact encR_len tx)
  rw [← her, ← hE] at EN1
  simp only [← her, ← hE] at EN2
  have EM := EN1
  have EO := EN2
  clear EN1 EN2 her hE SM V2 B2 S2 HID HSM HT DALL
  obtain ⟨L, hL⟩ : ∃ L, L = E.length := ⟨_, rfl⟩
  rw [← hL] at EM EL
  simp only [← hL] at EO
  clear hL
  go_upto_region 3 with fail
  refine wp_region_lit ?_
  refine wpList_load_row rfl 26 (.tmp 3) rfl g3 rfl _ _ _ _ MID.out.b3 HU.out rfl (by rw [sizeValue]; simp [E6.out]) ?_
  go_wp2_with fail
  refine EM.out.mono ?_
  rintro e w3 ⟨⟨v3, rfl, own3⟩, s3⟩
  obtain ⟨A3, c3, rfl, f1, f2, f3⟩ := own_form own3
  have S3 := Lib.hid s3
  have RD3 := Lib.hid (show Reads w3 w3.heap.size A3 L E from Reads.of_own own3)
  clear own3 s3 EM f1 f2 f3
  go_upto_region 4 with fail
  refine wp_region_lit ?_
  refine wpList_load_row rfl 26 (.tmp 1) rfl g0 rfl _ _ _ _ (MID.out.b0.still S3.out) HU.out rfl (by rw [sizeValue]; simp [D6.out]) ?_
  go_wp2_with fail
  refine (EO.out _ S3.out).mono ?_
  rintro e w4 ⟨⟨v4, rfl, own4⟩, s4⟩
  obtain ⟨A4, c4, rfl, f1, f2, f3⟩ := own_form own4
  have rd4 : Reads w4 w4.heap.size A4 L E := Reads.of_own own4
  clear own4 EO f1 f2 f3
  have s34 := Still.trans S3.out s4
  have S4 := Lib.hid (Still.trans MID.out.st s34)
  have MID2 := Lib.hid (show Blk w4 g0 26 ds.toArray ∧ Blk w4 g3 26 es.toArray from ⟨MID.out.b0.still s34, MID.out.b3.still s34⟩)
  have SB0 := Lib.hid (show ∀ W, Still w4 W → Calls Tryd.prog 8 #[.slice A3 L c3, .slice A4 L c4] W fun e w' => e = .returned (.bool true) ∧ Still W w' from fun W s => by
    have h := same_any A3 A4 L L c3 c4 E E W _ _ (RD3.out.still (Nat.le_refl _) (Still.trans s4 s)) (rd4.still (Nat.le_refl _) s) (by have := EL.out; omega) (by have := EL.out; omega)
    rw [show decide (E = E) = true by simp] at h
    exact h)
  have SV0 := Lib.hid (show ∀ W, Still w4 W → Calls Tryd.prog 9 #[.agg es.toArray, .agg ds.toArray] W fun e w' => e = .returned (.bool true) ∧ Still W w' from fun W s => by
    have h := rsameOK tx tx W _ _ _ _ (HasV.below (Still.trans s34 s) _ _ MID.out.v3) (HasV.below (Still.trans s34 s) _ _ MID.out.v0) (Still.trans s34 s).size (Still.trans s34 s).size
    rw [sameT_refl] at h
    exact h)
  have SB := SB0
  have SV := SV0
  clear SB0 SV0 rd4 s4 s34 RD3 S3 MID
  go_wp2_with fail
  refine (SB.out _ (Still.refl _)).mono ?_
  rintro e w5 ⟨rfl, t5⟩
  have B0 := Lib.hid (MID2.out.1.still t5)
  have B3 := Lib.hid (MID2.out.2.still t5)
  have SV5 := Lib.hid (SV.out _ t5)
  have T5 := Lib.hid t5
  clear t5 SV SB
  go_wp2_with (first
    | (guard_target =~ wpList _ _ _ (Oper.mk (some 31) _ _ _ _ _ :: _) _ _; go_must (refine load_rowG (by kernel_rfl) 26 (.tmp 3) rfl g3 rfl _ _ _ _ B3.out HU.out rfl (by rw [sizeValue]; simp [E6.out]) ?_))
    | (guard_target =~ wpList _ _ _ (Oper.mk (some 32) _ _ _ _ _ :: _) _ _; go_must (refine load_rowG (by kernel_rfl) 26 (.tmp 1) rfl g0 rfl _ _ _ _ B0.out HU.out rfl (by rw [sizeValue]; simp [D6.out]) ?_)))
  refine SV5.out.mono ?_
  rintro e w6 ⟨rfl, s6⟩
  have T6 := Lib.hid (Still.trans T5.out s6)
  clear s6 SV5 B0 B3
  go_wp2_with fail
  refine (LV.out _).mono ?_
  rintro e w7 ⟨rfl, s7⟩
  have T7 := Lib.hid (Still.trans T6.out s7)
  clear s7
  go_wp2_with fail
  go_ret
  exact ⟨rfl, Still.trans S4.out T7.out⟩
end Go.Proofs.YtmjijajndeihaaaDoor
