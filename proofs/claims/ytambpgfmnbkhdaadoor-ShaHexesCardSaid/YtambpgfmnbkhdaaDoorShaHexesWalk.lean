/- The walk of ShaHexes: it returns true, and nothing that was there turns. -/
import Derived.Test.YtambpgfmnbkhdaaDoorShaFrom
import Derived.Test.YtambpgfmnbkhdaaDoorShaLaws
import Derived.ChangeSame
namespace Go.Proofs.YtambpgfmnbkhdaaDoor
open Go.RowKit
set_option linter.unusedVariables false
set_option linter.unusedSimpArgs false

/-- A sum that came in: 32 bytes. -/
theorem open_id {H : Type} {enc : TypeId × Value → H} {w w' : World} {base b0 : Nat} {spare : Nat → Bool} {held : Bool} {r : Reach} {v : Value} {d : DataW H} {p : List MemPlace}
    (hv : Value.okWide Tryd.prog w' r b0 26 v) (h : DataW.Trod enc Tryd.prog w base spare held 26 v d p) : ∃ l : List UInt8, v = .agg (bytesV l).toArray ∧ l.length = 32 := by
  have c26 : Tryd.prog.cellsOf 26 = 32 := by kernel_rfl
  have c5 : Tryd.prog.cellsOf 5 = 1 := by kernel_rfl
  simp only [Value.okWide, under32] at hv
  obtain ⟨cs, rfl, hs, _⟩ := hv
  obtain ⟨fuel, hf⟩ := h
  obtain ⟨xs, m, _, _, hl, hxl, hat⟩ := DataW.trod_array under32 hf
  obtain ⟨cs⟩ := cs
  simp only [Value.cells] at hl hat
  have hcl : cs.length = 32 := by rw [c26] at hl; simpa using hl
  have hone : ∀ i (h : i < cs.length), ∃ b : UInt8, cs[i] = .int .u8 (b.toNat : Int) := fun i h => by
    have h1 := hat i (by omega)
    rw [c5] at h1
    have hd : ((cs.drop (i * 1)).take 1) = [cs[i]] := by
      rw [Nat.mul_one, List.drop_eq_getElem_cons h]; rfl
    rw [hd, List.getElem?_eq_getElem (by omega)] at h1
    obtain ⟨a, ha, _, hw⟩ := DataW.trod_int Tryd.underlying5 h1
    have hb := bounds_u8 hw
    simp only [List.cons.injEq, and_true] at ha
    exact ⟨UInt8.ofNat a.toNat, by rw [ha, UInt8.toNat_ofNat']; congr 1; omega⟩
  refine ⟨cs.map fun v => match v with | .int _ a => UInt8.ofNat a.toNat | _ => 0, ?_, by simp [hcl]⟩
  congr 2
  unfold bytesV
  rw [List.map_map]
  apply List.ext_getElem (by simp)
  intro i h1 h2
  obtain ⟨b, hb⟩ := hone i h1
  rw [List.getElem_map]
  simp [hb]

/-- A sum laid into a variable of the call's own. -/
theorem laid_id {w wx : World} (st : Still w wx) (z : Array Value) (L : List UInt8) : Arr ((wx.alloc (.cells z 26)).setRow wx.heap.size (bytesV L).toArray) wx.heap.size L ∧ Still w ((wx.alloc (.cells z 26)).setRow wx.heap.size (bytesV L).toArray) ∧ Still wx ((wx.alloc (.cells z 26)).setRow wx.heap.size (bytesV L).toArray) :=
  ⟨setRow_heap _ _ _ _ _ _ (heap_alloc_last wx _), below_setRow (st.alloc st.size _) st.size _, below_setRow ((Still.refl wx).alloc (Nat.le_refl _) _) (Nat.le_refl _) _⟩
theorem arr_range {w : World} {g : Nat} {D : List UInt8} (h : Arr w g D) : w.rangeAt g 0 (bytesV D) := fun j v hv => by
  have hj : j < D.length := by
    have := (List.getElem?_eq_some_iff.1 hv).1
    rwa [bytesV_length] at this
  rw [bytesV_get D j hj] at hv
  rw [Nat.zero_add, h.cell j hj]
  exact hv

set_option maxRecDepth 100000 in
set_option maxHeartbeats 3200000 in
theorem shaHexes_walk (d : List UInt8) (hd : d.length = 32) (s : ByteArray) (hs : s.size ≤ maxLen) (w : World) (T : Tabs w) :
    Calls Tryd.prog 6 #[.agg (bytesV d).toArray, .string s] w fun e w' => e = .returned (.bool true) ∧ Below w.heap.size w w' := by
  unfold maxLen at hs
  have hz32 := zero32
  obtain ⟨zl, hzl⟩ : ∃ z, z = bytesV (List.replicate 32 0) := ⟨_, rfl⟩
  rw [← hzl] at hz32
  have hzs : zl.toArray.size = 32 := by rw [hzl]; simp [bytesV_length]
  obtain ⟨cd, hcd⟩ : ∃ c, c = bytesV d := ⟨_, rfl⟩
  have hcds : cd.toArray.size = 32 := by rw [hcd]; simp [bytesV_length, hd]
  have hcdall := byte_all d
  rw [← hcd] at hcdall ⊢
  obtain ⟨wA, hA⟩ : ∃ x, x = w.alloc (.cells cd.toArray 26) := ⟨_, rfl⟩
  have aA : Arr wA w.heap.size d := by rw [hA, hcd]; exact Arr.new _ _
  have sA : Still w wA := by rw [hA]; exact (Still.refl w).alloc (Nat.le_refl _) _
  have SH := Lib.hid (short_any s wA (by omega))
  have Z32 := Lib.hid hz32
  have ZS := Lib.hid hzs
  have HA := Lib.hid hA
  have AA := Lib.hid aA
  have SA := Lib.hid sA
  have TT := Lib.hid T
  have HCD := Lib.hid hcd
  have CDS := Lib.hid hcds
  have CDALL := Lib.hid hcdall
  have HD := Lib.hid hd
  clear hz32 hzl hzs hA aA sA T hcd hcds hcdall hs
  go_enter Tryd.func6, Tryd.ntmps6
  go_upto_region 0 with fail
  refine wp_region_lit ?_
  refine wpList_box_arr rfl 26 (.tmp 0) rfl (some 2) rfl _ rfl ?_
  rw [← HA.out]
  clear HA
  go_wp2_with fail
  refine SH.out.mono ?_
  rintro e w1 ⟨⟨t, rfl, ht⟩, rfl⟩
  have FR := Lib.hid (from_any t w1)
  clear SH
  obtain ⟨L, hL⟩ : ∃ L, L = fromL t.data.toList := ⟨_, rfl⟩
  obtain ⟨bt, hbt⟩ : ∃ b, b = isL t.data.toList := ⟨_, rfl⟩
  have hLl : L.length = 32 := by
    rw [hL]; unfold fromL; split <;> simp
  obtain ⟨cx, hcx⟩ : ∃ c, c = bytesV L := ⟨_, rfl⟩
  have hcxs : cx.toArray.size = 32 := by rw [hcx]; simp [bytesV_length, hLl]
  have hcxall := byte_all L
  rw [← hcx] at hcxall
  have told : ∀ {w e w'}, Told t.data.toList w e w' → e = .returned (.tuple #[.agg cx.toArray, .bool bt]) ∧ Still w w' := fun {w e w'} h => by
    unfold Told at h
    rw [← hL, ← hbt, ← hcx] at h
    exact h
  have TOLD := @told
  have CXS := Lib.hid hcxs
  have CXALL := Lib.hid hcxall
  have HCX := Lib.hid hcx
  have HLL := Lib.hid hLl
  clear told hcxs hcxall hL hbt hcx hLl ht
  have HTOLD : Hid (∀ (w : World) (e : Ending) (w' : World), Told t.data.toList w e w' → e = .returned (.tuple #[.agg cx.toArray, .bool bt]) ∧ Still w w') := Lib.hid fun w e w' h => TOLD h
  clear TOLD
  go_upto_region 2 with fail
  refine wp_region_lit ?_
  go_wp2_with fail
  refine FR.out.mono ?_
  intro e w2 h2
  obtain ⟨rfl, s2⟩ := HTOLD.out _ _ _ h2
  clear FR
  go_upto_region 3 with (first
    | (refine wpList_alloc_arr rfl 26 rfl (some 5) rfl _ _ Z32.out ?_)
    | (refine wpList_store_rowTo rfl 26 (.tmp 5) (.tmp 16) rfl rfl w2.heap.size cx.toArray rfl rfl 26 _ (heap_alloc_last w2 _) (by rw [size32, CXS.out]) (by rw [CXS.out, ZS.out]) CXALL.out ?_))
  have S2 := Lib.hid (SA.out.trans s2)
  have K3 := laid_id S2.out zl.toArray L
  rw [← HCX.out] at K3
  have A03 := Lib.hid ((AA.out.still s2).still K3.2.2)
  generalize (w2.alloc (.cells zl.toArray 26)).setRow w2.heap.size cx.toArray = w3 at *
  obtain ⟨g5, hg5⟩ : ∃ g, g = w2.heap.size := ⟨_, rfl⟩
  rw [← hg5] at K3 ⊢
  have A53 := Lib.hid K3.1
  have S3 := Lib.hid K3.2.1
  have FR := Lib.hid (rfrom_any t w3)
  clear K3 hg5 s2 h2 S2
  refine wp_region_lit ?_
  go_wp2_with fail
  refine FR.out.mono ?_
  intro e w4 h4
  obtain ⟨rfl, s4⟩ := HTOLD.out _ _ _ h4
  clear FR
  go_upto_region 4 with (first
    | (refine wpList_alloc_arr rfl 26 rfl (some 7) rfl _ _ Z32.out ?_)
    | (refine wpList_store_rowTo rfl 26 (.tmp 7) (.tmp 21) rfl rfl w4.heap.size cx.toArray rfl rfl 26 _ (heap_alloc_last w4 _) (by rw [size32, CXS.out]) (by rw [CXS.out, ZS.out]) CXALL.out ?_))
  have S4 := Lib.hid (S3.out.trans s4)
  have K5 := laid_id S4.out zl.toArray L
  rw [← HCX.out] at K5
  have A05 := Lib.hid ((A03.out.still s4).still K5.2.2)
  have A55 := Lib.hid ((A53.out.still s4).still K5.2.2)
  generalize (w4.alloc (.cells zl.toArray 26)).setRow w4.heap.size cx.toArray = w5 at *
  obtain ⟨g7, hg7⟩ : ∃ g, g = w4.heap.size := ⟨_, rfl⟩
  rw [← hg7] at K5 ⊢
  have A75 := Lib.hid K5.1
  have S5 := Lib.hid K5.2.1
  clear K5 hg7 s4 h4 S4 S3 A03 A53
  have HX := Lib.hid (fun w => hex_any d w HD.out)
  have RHX := Lib.hid (fun w => rhex_any d w HD.out)
  rw [← HCD.out] at HX RHX
  obtain ⟨st, hst⟩ : ∃ s : ByteArray, s = ⟨(hexL d).toArray⟩ := ⟨_, rfl⟩
  rw [← hst] at HX RHX
  have hsl : st.data.toList = hexL d := by rw [hst]
  have FR := Lib.hid (fun w => from_any st w)
  rw [hsl] at FR
  have HT2 : Hid (∀ (w : World) (e : Ending) (w' : World), Told (hexL d) w e w' → e = .returned (.tuple #[.agg cd.toArray, .bool true]) ∧ Still w w') := Lib.hid fun w e w' h => by
    unfold Told at h
    rw [fromL_hex d HD.out, isL_hex d HD.out, ← HCD.out] at h
    exact h
  clear hst hsl
  refine wp_region_lit ?_
  refine wpList_load_row rfl 26 (.tmp 2) rfl w.heap.size rfl _ cd.toArray _ _ (by rw [HCD.out]; exact A05.out) under32 rfl (by rw [size32, CDS.out]) ?_
  go_wp2_with fail
  refine (HX.out _).mono ?_
  rintro e w6 ⟨rfl, s6⟩
  go_wp2_with fail
  refine (FR.out _).mono ?_
  intro e w7 h7
  obtain ⟨rfl, s7⟩ := HT2.out _ _ _ h7
  go_upto_region 5 with (first
    | (refine wpList_alloc_arr rfl 26 rfl (some 9) rfl _ _ Z32.out ?_)
    | (refine wpList_store_rowTo rfl 26 (.tmp 9) (.tmp 27) rfl rfl w7.heap.size cd.toArray rfl rfl 26 _ (heap_alloc_last w7 _) (by rw [size32, CDS.out]) (by rw [CDS.out, ZS.out]) CDALL.out ?_))
  have S7 := Lib.hid ((S5.out.trans s6).trans s7)
  have K8 := laid_id S7.out zl.toArray d
  rw [← HCD.out] at K8
  have A08 := Lib.hid (((A05.out.still s6).still s7).still K8.2.2)
  have A58 := Lib.hid (((A55.out.still s6).still s7).still K8.2.2)
  have A78 := Lib.hid (((A75.out.still s6).still s7).still K8.2.2)
  generalize (w7.alloc (.cells zl.toArray 26)).setRow w7.heap.size cd.toArray = w8 at *
  obtain ⟨g9, hg9⟩ : ∃ g, g = w7.heap.size := ⟨_, rfl⟩
  rw [← hg9] at K8 ⊢
  have A98 := Lib.hid K8.1
  have S8 := Lib.hid K8.2.1
  clear K8 hg9 s6 s7 h7 S7 S5 A05 A55 A75 HT2 FR HTOLD
  obtain ⟨g0, hg0⟩ : ∃ g, g = w.heap.size := ⟨_, rfl⟩
  have AL : Hid (∀ W, Still w8 W → W.rangeAt g0 0 cd ∧ W.rangeAt g5 0 cx ∧ W.rangeAt g7 0 cx ∧ W.rangeAt g9 0 cd) := Lib.hid fun W s => by
    rw [hg0, HCD.out, HCX.out]
    exact ⟨arr_range (A08.out.still s), arr_range (A58.out.still s), arr_range (A78.out.still s), arr_range (A98.out.still s)⟩
  have LV : Hid (∀ W, Still w8 W → Calls Tryd.prog 14 #[] W fun e w' => e = .returned (.bool true) ∧ Still W w') := Lib.hid fun W s => lives_any W (TT.out.still (S8.out.trans s))
  have eqd : ∀ w : World, (binOp .eql 26 (.agg cd.toArray) (.agg cd.toArray)).run Tryd.prog w = .ok (.bool true) w := fun w => by
    rw [HCD.out, eql_ids w _ _ HD.out HD.out]; simp
  have eqx : ∀ w : World, (binOp .eql 26 (.agg cx.toArray) (.agg cx.toArray)).run Tryd.prog w = .ok (.bool true) w := fun w => by
    rw [HCX.out, eql_ids w _ _ HLL.out HLL.out]; simp
  have u26 := under32
  have z26d : (Tryd.prog.info? 26).map (·.size) = some cd.length := by rw [size32]; have := CDS.out; simp at this; rw [this]
  have z26x : (Tryd.prog.info? 26).map (·.size) = some cx.length := by rw [size32]; have := CXS.out; simp at this; rw [this]
  rw [← hg0]
  clear A08 A58 A78 A98 hg0
  refine wp_region_held_drew (S := fun w' => w'.rangeAt g0 0 cd ∧ w'.rangeAt g5 0 cx ∧ w'.rangeAt g7 0 cx ∧ w'.rangeAt g9 0 cd) (by kernel_rfl) ?_ (fun hHeld => ?_)
  · exact AL.out _ ((Still.refl _).drew)
  refine wpAnyH_take (i := 0) (v := .agg cd.toArray) rfl (by kernel_rfl) (by kernel_rfl) (by kernel_rfl) (fun _ _ _ h => h) ?hy0 (by assumption) ?_
  case hy0 =>
    refine yieldsIf_load_mid ?hw0 26 (.tmp 2) ?ho0 g0 0 ?hx0 cd (.array 32 5) (fun w h => h.1) u26 rfl z26d
    case hw0 => kernel_rfl
    case ho0 => rfl
    case hx0 => kernel_rfl
  simp only [Act.put, List.setIfInBounds_toArray, List.set_cons_zero, List.set_cons_succ]
  refine wpAnyH_take (i := 2) (v := .agg cd.toArray) rfl (by kernel_rfl) (by kernel_rfl) (by kernel_rfl) (fun _ _ _ h => h) ?hy2 (by assumption) ?_
  case hy2 =>
    refine yieldsIf_load_mid ?hw2 26 (.tmp 2) ?ho2 g0 0 ?hx2 cd (.array 32 5) (fun w h => h.1) u26 rfl z26d
    case hw2 => kernel_rfl
    case ho2 => rfl
    case hx2 => kernel_rfl
  simp only [Act.put, List.setIfInBounds_toArray, List.set_cons_zero, List.set_cons_succ]
  refine wpAnyH_ready (rs := [1]) (by kernel_rfl) (by simp) ?_
  refine AllReadyH.cons rfl (fun K hK => ?_) AllReadyH.nil
  go_simp
  go_wp2_with (go_at_call 24; refine (HX.out _).mono ?_; rintro e w9 ⟨rfl, s9⟩; have s9' : Still w8 w9 := Still.trans ((Still.refl w8).drew) s9)
  refine hK.out _ _ ?_ (fun hHeld => ?_)
  · exact AL.out _ s9'
  clear hK K
  try simp only [Act.put, List.setIfInBounds_toArray, List.set_cons_zero, List.set_cons_succ]
  refine wpAnyH_ready (rs := [3]) (by kernel_rfl) (by simp) ?_
  refine AllReadyH.cons rfl (fun K hK => ?_) AllReadyH.nil
  go_simp
  go_wp2_with (go_at_call 25; refine (RHX.out _).mono ?_; rintro e w10 ⟨rfl, s10⟩; have s10' : Still w8 w10 := Still.trans s9' s10)
  refine hK.out _ _ ?_ (fun hHeld => ?_)
  · exact AL.out _ s10'
  clear hK K
  try simp only [Act.put, List.setIfInBounds_toArray, List.set_cons_zero, List.set_cons_succ]
  refine wpAnyH_take (i := 4) (v := .bool true) rfl (by kernel_rfl) (by kernel_rfl) (by kernel_rfl) (fun _ _ _ h => h) (Or.inl ⟨by kernel_rfl, fun w _ => by go_simp⟩) (by assumption) ?_
  simp only [Act.put, List.setIfInBounds_toArray, List.set_cons_zero, List.set_cons_succ]
  refine wpAnyH_take (i := 5) (v := .bool true) rfl (by kernel_rfl) (by kernel_rfl) (by kernel_rfl) (fun _ _ _ h => h) (Or.inl ⟨by kernel_rfl, fun w _ => by go_simp⟩) (by assumption) ?_
  simp only [Act.put, List.setIfInBounds_toArray, List.set_cons_zero, List.set_cons_succ]
  refine wpAnyH_take (i := 6) (v := .agg cx.toArray) rfl (by kernel_rfl) (by kernel_rfl) (by kernel_rfl) (fun _ _ _ h => h) ?hy6 (by assumption) ?_
  case hy6 =>
    refine yieldsIf_load_mid ?hw6 26 (.tmp 5) ?ho6 g5 0 ?hx6 cx (.array 32 5) (fun w h => h.2.1) u26 rfl z26x
    case hw6 => kernel_rfl
    case ho6 => rfl
    case hx6 => kernel_rfl
  simp only [Act.put, List.setIfInBounds_toArray, List.set_cons_zero, List.set_cons_succ]
  refine wpAnyH_take (i := 7) (v := .agg cx.toArray) rfl (by kernel_rfl) (by kernel_rfl) (by kernel_rfl) (fun _ _ _ h => h) ?hy7 (by assumption) ?_
  case hy7 =>
    refine yieldsIf_load_mid ?hw7 26 (.tmp 7) ?ho7 g7 0 ?hx7 cx (.array 32 5) (fun w h => h.2.2.1) u26 rfl z26x
    case hw7 => kernel_rfl
    case ho7 => rfl
    case hx7 => kernel_rfl
  simp only [Act.put, List.setIfInBounds_toArray, List.set_cons_zero, List.set_cons_succ]
  refine wpAnyH_take (i := 8) (v := .bool true) rfl (by kernel_rfl) (by kernel_rfl) (by kernel_rfl) (fun _ _ _ h => h) (Or.inl ⟨by kernel_rfl, fun w _ => by go_simp⟩) (by assumption) ?_
  simp only [Act.put, List.setIfInBounds_toArray, List.set_cons_zero, List.set_cons_succ]
  refine wpAnyH_take (i := 9) (v := .bool true) rfl (by kernel_rfl) (by kernel_rfl) (by kernel_rfl) (fun _ _ _ h => h) (Or.inl ⟨by kernel_rfl, fun w _ => by go_simp⟩) (by assumption) ?_
  simp only [Act.put, List.setIfInBounds_toArray, List.set_cons_zero, List.set_cons_succ]
  refine wpAnyH_take (i := 10) (v := .bool true) rfl (by kernel_rfl) (by kernel_rfl) (by kernel_rfl) (fun _ _ _ h => h) (Or.inl ⟨by kernel_rfl, fun w _ => by go_simp⟩) (by assumption) ?_
  simp only [Act.put, List.setIfInBounds_toArray, List.set_cons_zero, List.set_cons_succ]
  refine wpAnyH_take (i := 11) (v := .bool bt) rfl (by kernel_rfl) (by kernel_rfl) (by kernel_rfl) (fun _ _ _ h => h) (Or.inl ⟨by kernel_rfl, fun w _ => by go_simp⟩) (by assumption) ?_
  simp only [Act.put, List.setIfInBounds_toArray, List.set_cons_zero, List.set_cons_succ]
  refine wpAnyH_take (i := 12) (v := .bool bt) rfl (by kernel_rfl) (by kernel_rfl) (by kernel_rfl) (fun _ _ _ h => h) (Or.inl ⟨by kernel_rfl, fun w _ => by go_simp⟩) (by assumption) ?_
  simp only [Act.put, List.setIfInBounds_toArray, List.set_cons_zero, List.set_cons_succ]
  refine wpAnyH_take (i := 13) (v := .bool true) rfl (by kernel_rfl) (by kernel_rfl) (by kernel_rfl) (fun _ _ _ h => h) (Or.inl ⟨by kernel_rfl, fun w _ => by go_simp⟩) (by assumption) ?_
  simp only [Act.put, List.setIfInBounds_toArray, List.set_cons_zero, List.set_cons_succ]
  refine wpAnyH_take (i := 14) (v := .bool true) rfl (by kernel_rfl) (by kernel_rfl) (by kernel_rfl) (fun _ _ _ h => h) (Or.inl ⟨by kernel_rfl, fun w _ => by go_simp⟩) (by assumption) ?_
  simp only [Act.put, List.setIfInBounds_toArray, List.set_cons_zero, List.set_cons_succ]
  refine wpAnyH_take (i := 15) (v := .bool true) rfl (by kernel_rfl) (by kernel_rfl) (by kernel_rfl) (fun _ _ _ h => h) (Or.inl ⟨by kernel_rfl, fun w _ => by go_simp⟩) (by assumption) ?_
  simp only [Act.put, List.setIfInBounds_toArray, List.set_cons_zero, List.set_cons_succ]
  refine wpAnyH_take (i := 16) (v := .agg cd.toArray) rfl (by kernel_rfl) (by kernel_rfl) (by kernel_rfl) (fun _ _ _ h => h) ?hy16 (by assumption) ?_
  case hy16 =>
    refine yieldsIf_load_mid ?hw16 26 (.tmp 9) ?ho16 g9 0 ?hx16 cd (.array 32 5) (fun w h => h.2.2.2) u26 rfl z26d
    case hw16 => kernel_rfl
    case ho16 => rfl
    case hx16 => kernel_rfl
  simp only [Act.put, List.setIfInBounds_toArray, List.set_cons_zero, List.set_cons_succ]
  refine wpAnyH_take (i := 17) (v := .agg cd.toArray) rfl (by kernel_rfl) (by kernel_rfl) (by kernel_rfl) (fun _ _ _ h => h) ?hy17 (by assumption) ?_
  case hy17 =>
    refine yieldsIf_load_mid ?hw17 26 (.tmp 2) ?ho17 g0 0 ?hx17 cd (.array 32 5) (fun w h => h.1) u26 rfl z26d
    case hw17 => kernel_rfl
    case ho17 => rfl
    case hx17 => kernel_rfl
  simp only [Act.put, List.setIfInBounds_toArray, List.set_cons_zero, List.set_cons_succ]
  refine wpAnyH_take (i := 18) (v := .bool true) rfl (by kernel_rfl) (by kernel_rfl) (by kernel_rfl) (fun _ _ _ h => h) (Or.inl ⟨by kernel_rfl, fun w _ => by go_simp⟩) (by assumption) ?_
  simp only [Act.put, List.setIfInBounds_toArray, List.set_cons_zero, List.set_cons_succ]
  refine wpAnyH_take (i := 19) (v := .bool true) rfl (by kernel_rfl) (by kernel_rfl) (by kernel_rfl) (fun _ _ _ h => h) (Or.inl ⟨by kernel_rfl, fun w _ => by go_simp⟩) (by assumption) ?_
  simp only [Act.put, List.setIfInBounds_toArray, List.set_cons_zero, List.set_cons_succ]
  refine wpAnyH_take (i := 20) (v := .bool true) rfl (by kernel_rfl) (by kernel_rfl) (by kernel_rfl) (fun _ _ _ h => h) (Or.inl ⟨by kernel_rfl, fun w _ => by go_simp⟩) (by assumption) ?_
  simp only [Act.put, List.setIfInBounds_toArray, List.set_cons_zero, List.set_cons_succ]
  refine wpAnyH_take (i := 21) (v := .bool true) rfl (by kernel_rfl) (by kernel_rfl) (by kernel_rfl) (fun _ _ _ h => h) (Or.inl ⟨by kernel_rfl, fun w _ => by go_simp⟩) (by assumption) ?_
  simp only [Act.put, List.setIfInBounds_toArray, List.set_cons_zero, List.set_cons_succ]
  refine wpAnyH_take (i := 22) (v := .bool true) rfl (by kernel_rfl) (by kernel_rfl) (by kernel_rfl) (fun _ _ _ h => h) (Or.inl ⟨by kernel_rfl, fun w _ => by go_simp⟩) (by assumption) ?_
  simp only [Act.put, List.setIfInBounds_toArray, List.set_cons_zero, List.set_cons_succ]
  refine wpAnyH_take (i := 23) (v := .bool true) rfl (by kernel_rfl) (by kernel_rfl) (by kernel_rfl) (fun _ _ _ h => h) (Or.inl ⟨by kernel_rfl, fun w _ => by go_simp⟩) (by assumption) ?_
  simp only [Act.put, List.setIfInBounds_toArray, List.set_cons_zero, List.set_cons_succ]
  refine wpAnyH_ready (rs := [24]) (by kernel_rfl) (by simp) ?_
  refine AllReadyH.cons rfl (fun K hK => ?_) AllReadyH.nil
  go_simp
  go_wp2_with (go_at_call 14; refine (LV.out _ s10').mono ?_; rintro e w11 ⟨rfl, s11⟩; have s11' : Still w8 w11 := Still.trans s10' s11)
  refine hK.out _ _ ?_ (fun hHeld => ?_)
  · exact AL.out _ s11'
  clear hK K
  try simp only [Act.put, List.setIfInBounds_toArray, List.set_cons_zero, List.set_cons_succ]
  refine wpAnyH_take (i := 25) (oi := Oper.mk (some 54) (.pick (.tmp 52) (.tmp 53) (.const (.bool false))) 4 "law.go:72" _ none) (v := .bool true) rfl (by kernel_rfl) (by kernel_rfl) (by kernel_rfl) (fun _ _ _ h => h) (Or.inl ⟨by kernel_rfl, fun w _ => by go_simp⟩) (by assumption) ?_
  simp only [Act.put, List.setIfInBounds_toArray, List.set_cons_zero, List.set_cons_succ]
  refine wpAnyH_take (i := 26) (oi := Oper.mk (some 4) (.assign (.tmp 54)) 4 "law.go:72" _ none) (v := .bool true) rfl (by kernel_rfl) (by kernel_rfl) (by kernel_rfl) (fun _ _ _ h => h) (Or.inl ⟨by kernel_rfl, fun w _ => by go_simp⟩) (by assumption) ?_
  simp only [Act.put, List.setIfInBounds_toArray, List.set_cons_zero, List.set_cons_succ]
  refine wpAnyH_done (by kernel_rfl) ?_ _
  go_wp2_with fail
  go_ret
  exact ⟨rfl, S8.out.trans s11'⟩
end Go.Proofs.YtambpgfmnbkhdaaDoor
