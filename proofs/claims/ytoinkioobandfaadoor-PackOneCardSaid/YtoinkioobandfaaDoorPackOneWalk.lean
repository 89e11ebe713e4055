/- The walk of PackOne: it returns true, and nothing that was there turns. -/
import Derived.Test.YtoinkioobandfaaDoorPackCutsWalk
import Derived.Deep.DeepCutAuto
namespace Go.Proofs.YtoinkioobandfaaDoor
open Go.RowKit
set_option linter.unusedVariables false
set_option linter.unusedSimpArgs false

mutual
theorem canT_less : ∀ (x : Tr) (d : Nat), canT (d + 1) x = true → canT d x = true
  | .mk k i b t ks l, d, h => by
    unfold canT at h ⊢
    simp only [Bool.and_eq_true, Bool.or_eq_true, decide_eq_true_eq] at h ⊢
    obtain ⟨⟨⟨⟨h1, h2⟩, h3⟩, h4⟩, h5⟩ := h
    exact ⟨⟨⟨⟨by omega, h2⟩, h3⟩, h4⟩, h5.imp id fun h => canL_less l (d + 1) h⟩
theorem canL_less : ∀ (l : List Tr) (d : Nat), canL (d + 1) l = true → canL d l = true
  | [], _, _ => by unfold canL; rfl
  | x :: r, d, h => by
    unfold canL at h ⊢
    simp only [Bool.and_eq_true] at h ⊢
    exact ⟨canT_less x d h.1, canL_less r d h.2⟩
end
theorem one_same (x y : Tr) (hx : canT 1 x = true) (hy : canT 1 y = true) (ix : inT x) (iy : inT y) (lx : (encT x).length ≤ 65536) (ly : (encT y).length ≤ 65536) :
    decide (encT x = encT y) = sameT x y ∧ sameT y x = sameT x y := by
  have h1 := encT_one x y (canT_less x 0 hx) (canT_less y 0 hy) ix iy lx ly
  have h2 := encT_one y x (canT_less y 0 hy) (canT_less x 0 hx) iy ix ly lx
  cases hs : sameT x y
  · have hn : encT x ≠ encT y := fun e => by rw [h1] at e; rw [hs] at e; exact absurd e (by decide)
    refine ⟨by simp [hn], ?_⟩
    cases hs' : sameT y x
    · rfl
    · exact absurd (h2.2 hs').symm hn
  · have he := h1.2 hs
    exact ⟨by simp [he], h2.1 he.symm⟩

theorem enc_some {w : World} {B : Nat} {x : Tr} {cs : Array Value} (h : HasV w B x cs) (hB : B ≤ w.heap.size) (T : Sizes w) :
    Calls Tryd.prog 11 #[.agg cs] w fun e w' => (∃ A n c er, e = .returned (.tuple #[.slice A n c, .int .i64 er])) ∧ Still w w' := by
  refine (encode_any x cs w B h hB T).mono ?_
  rintro e w' ⟨⟨v, rfl, own⟩, s⟩
  obtain ⟨A, c, rfl, _⟩ := own_form own
  exact ⟨⟨A, _, c, _, rfl⟩, s⟩

/-- Behind both values were made small. -/
structure OneMid (w wx : World) (g0 : Nat) (tx ty : Tr) (ds es : List Value) : Prop where
  st : Still w wx
  b1 : Blk wx g0 26 ds.toArray
  b2 : Blk wx (g0 + 1) 26 es.toArray
  v1 : HasV wx wx.heap.size tx ds.toArray
  v2 : HasV wx wx.heap.size ty es.toArray
  d6 : ds.length = 6
  e6 : es.length = 6
theorem one_mid {w wA W : World} {g0 : Nat} {tx ty : Tr} {ds es : List Value} {old1 old2 : Array Value} (hg : g0 = w.heap.size) (hA : wA.heap.size = w.heap.size + 2) (sA : Still w wA) (K : Still wA W) (b1 : Blk W g0 26 old1) (b2 : Blk (W.setRow g0 ds.toArray) (g0 + 1) 26 old2)
    (v1 : HasW W (fun b => wA.heap.size ≤ b) tx ds.toArray) (v2 : HasW W (fun b => wA.heap.size ≤ b) ty es.toArray) (d6 : ds.length = 6) (e6 : es.length = 6) (dall : ds.toArray.all (·.oneCell') = true) (eall : es.toArray.all (·.oneCell') = true) (h1 : smT tx) (h2 : smT ty) :
    OneMid w ((W.setRow g0 ds.toArray).setRow (g0 + 1) es.toArray) g0 tx ty ds es := by
  have z := K.size
  have o : ∀ q, wA.heap.size ≤ q → ((W.setRow g0 ds.toArray).setRow (g0 + 1) es.toArray).heap[q]? = W.heap[q]? := fun q hq => by
    rw [setRow_other _ (g0 + 1) q _ (by omega), setRow_other W g0 q _ (by omega)]
  have hz : W.heap.size ≤ ((W.setRow g0 ds.toArray).setRow (g0 + 1) es.toArray).heap.size := by simp [World.setRow]
  exact
  { st := below_setRow (below_setRow (Still.trans sA K) (by omega) _) (by omega) _
    b1 := (setRow_other _ (g0 + 1) g0 _ (by omega)).trans (setRow_heap _ _ _ _ _ _ b1)
    b2 := setRow_heap _ _ _ _ _ _ b2
    v1 := HasW.toV (P := fun b => wA.heap.size ≤ b) (fun b _ h => h) _ _ h1 (HasW.keep (fun b hb _ => o b hb) hz (fun b hb _ => hb) _ _ v1)
    v2 := HasW.toV (P := fun b => wA.heap.size ≤ b) (fun b _ h => h) _ _ h2 (HasW.keep (fun b hb _ => o b hb) hz (fun b hb _ => hb) _ _ v2)
    d6 := d6
    e6 := e6 }

set_option maxRecDepth 100000 in
set_option maxHeartbeats 6400000 in
theorem packOne_walk (x0 : Tr) (cs0 : Array Value) (x1 : Tr) (cs1 : Array Value) (w : World) (w0 : HasW w (fun _ => True) x0 cs0) (w1 : HasW w (fun _ => True) x1 cs1) (T : Sizes w) :
    Calls Tryd.prog 6 #[.agg cs0, .agg cs1] w fun e w' => e = .returned (.bool true) ∧ Below w.heap.size w w' := by
  have h6 := HasW.size _ _ w0
  have h7 := HasW.size _ _ w1
  obtain ⟨lx⟩ := cs0
  obtain ⟨ly⟩ := cs1
  obtain ⟨wA, hA, sA, b1, b2⟩ := two_boxes w lx.toArray ly.toArray
  have SX0 := Lib.hid (show ∀ W, Still wA W → Calls Tryd.prog 10 #[.agg lx.toArray] W fun e w' => (∃ ds : List Value, e = .returned (.agg ds.toArray) ∧ ds.length = 6 ∧ ds.toArray.all (·.oneCell') = true ∧ HasW w' (fun b => W.heap.size ≤ b) (smallT x0) ds.toArray) ∧ Still W w' from fun W s => small_any x0 W (fun b => b < w.heap.size) lx.toArray (HasW.keep (fun b _ hl => Below.block (Still.trans sA s) b hl) (Still.trans sA s).size (fun b _ hl => hl) _ _ w0))
  have SY0 := Lib.hid (show ∀ W, Still wA W → Calls Tryd.prog 10 #[.agg ly.toArray] W fun e w' => (∃ ds : List Value, e = .returned (.agg ds.toArray) ∧ ds.length = 6 ∧ ds.toArray.all (·.oneCell') = true ∧ HasW w' (fun b => W.heap.size ≤ b) (smallT x1) ds.toArray) ∧ Still W w' from fun W s => small_any x1 W (fun b => b < w.heap.size) ly.toArray (HasW.keep (fun b _ hl => Below.block (Still.trans sA s) b hl) (Still.trans sA s).size (fun b _ hl => hl) _ _ w1))
  have hsx := smallT_sm x0
  have hsy := smallT_sm x1
  obtain ⟨tx, htx⟩ : ∃ tx, tx = smallT x0 := ⟨_, rfl⟩
  obtain ⟨ty, hty⟩ : ∃ ty, ty = smallT x1 := ⟨_, rfl⟩
  rw [← htx] at SX0 hsx
  rw [← hty] at SY0 hsy
  have SX := SX0
  have SY := SY0
  clear SX0 SY0
  have HSX := Lib.hid hsx
  have HSY := Lib.hid hsy
  have HT := Lib.hid (fun W (s : Still w W) => T.still s)
  have X6 := Lib.hid (show lx.length = 6 by simpa using h6)
  have Y6 := Lib.hid (show ly.length = 6 by simpa using h7)
  have HA := Lib.hid hA
  have SA := Lib.hid sA
  have WAS := Lib.hid (show wA.heap.size = w.heap.size + 2 by rw [hA]; simp)
  obtain ⟨fs, hu⟩ := underValue
  have HU := Lib.hid hu
  obtain ⟨g0, hg0⟩ : ∃ g0, g0 = w.heap.size := ⟨_, rfl⟩
  have G0 := Lib.hid hg0
  rw [← hg0] at b1 b2
  have B1 := Lib.hid b1
  have B2 := Lib.hid b2
  have LV := Lib.hid (fun w => lives_any w)
  clear w0 w1 h6 h7 hA sA b1 b2 hsx hsy htx hty T hu hg0
  go_enter Tryd.func6, Tryd.ntmps6
  go_upto_region 0 with fail
  refine wp_region_lit ?_
  refine wpList_box_arr rfl 26 (.tmp 0) rfl (some 2) rfl _ rfl ?_
  refine wpList_box_arr rfl 26 (.tmp 1) rfl (some 3) rfl _ rfl ?_
  go_upto_region 1 with fail
  rw [show ((w.alloc (.cells lx.toArray 26)).alloc (.cells ly.toArray 26)) = wA from HA.out.symm, ← G0.out]
  go_cut [2] (fun s2 wx => s2 = .pointer (some ⟨g0, 0, none⟩) ∧ ∃ ds es, Hid (OneMid w wx g0 tx ty ds es))
  case first =>
    go_wp2_with fail
    refine wp_region_held_drew (S := fun _ => True) (by kernel_rfl) trivial (fun hHeld => ?_)
    have K0 := Lib.hid (show Still wA wA.drew from (Still.refl wA).drew)
    obtain ⟨wa, hwa⟩ : ∃ wa, wa = wA.drew := ⟨_, rfl⟩
    rw [← hwa] at K0 ⊢
    clear hwa
    try simp only [Act.put, List.setIfInBounds_toArray, List.set_cons_zero, List.set_cons_succ]
    refine wpAnyH_ready (rs := [0, 2]) (by kernel_rfl) (by simp) ?_
    refine AllReadyH.cons rfl (fun K hK => ?_) (AllReadyH.cons rfl (fun K hK => ?_) AllReadyH.nil)
    · skip
      rw [if_pos (by kernel_rfl)]
      refine wp_load_row 26 (.tmp 2) rfl g0 (by kernel_rfl) _ _ _ _ (B1.out.still K0.out) HU.out rfl (by rw [sizeValue]; simp [X6.out]) ?_
      refine hK.out _ _ trivial (fun hHeld => ?_)
      clear hK K
      try simp only [Act.put, List.setIfInBounds_toArray, List.set_cons_zero, List.set_cons_succ]
      refine wpAnyH_ready (rs := [1, 2]) (by kernel_rfl) (by simp) ?_
      refine AllReadyH.cons rfl (fun K hK => ?_) (AllReadyH.cons rfl (fun K hK => ?_) AllReadyH.nil)
      · skip
        go_simp
        go_wp2_with (go_at_call 10; refine (SX.out _ K0.out).mono ?_; rintro e wz2 ⟨⟨ds, rfl, q6, qall, qv⟩, qs⟩)
        have D6 := Lib.hid q6
        have DALL := Lib.hid qall
        have K2 := Lib.hid (Still.trans K0.out qs)
        have VX0 := Lib.hid (HasW.keep (Q := fun b => wA.heap.size ≤ b) (fun _ _ _ => rfl) (Nat.le_refl _) (fun b hb _ => by have := K0.out.size; omega) _ _ qv)
        clear q6 qall qv qs
        refine hK.out _ _ trivial (fun hHeld => ?_)
        clear hK K
        try simp only [Act.put, List.setIfInBounds_toArray, List.set_cons_zero, List.set_cons_succ]
        refine wpAnyH_ready (rs := [2]) (by kernel_rfl) (by simp) ?_
        refine AllReadyH.cons rfl (fun K hK => ?_) AllReadyH.nil
        rw [if_pos (by kernel_rfl)]
        refine wp_load_row 26 (.tmp 3) rfl (g0 + 1) (by kernel_rfl) _ _ _ _ (B2.out.still K2.out) HU.out rfl (by rw [sizeValue]; simp [Y6.out]) ?_
        refine hK.out _ _ trivial (fun hHeld => ?_)
        clear hK K
        try simp only [Act.put, List.setIfInBounds_toArray, List.set_cons_zero, List.set_cons_succ]
        refine wpAnyH_ready (rs := [3]) (by kernel_rfl) (by simp) ?_
        refine AllReadyH.cons rfl (fun K hK => ?_) AllReadyH.nil
        go_simp
        go_wp2_with (go_at_call 10; refine (SY.out _ K2.out).mono ?_; rintro e wz4 ⟨⟨es, rfl, q6, qall, qv⟩, qs⟩)
        have E6 := Lib.hid q6
        have EALL := Lib.hid qall
        have K4 := Lib.hid (Still.trans K2.out qs)
        have VY := Lib.hid (HasW.keep (Q := fun b => wA.heap.size ≤ b) (fun _ _ _ => rfl) (Nat.le_refl _) (fun b hb _ => by have := K2.out.size; omega) _ _ qv)
        have VX := Lib.hid (HasW.keep (fun b _ hl => Below.block qs b hl) qs.size (fun _ h _ => h) _ _ VX0.out)
        clear q6 qall qv qs
        refine hK.out _ _ trivial (fun hHeld => ?_)
        clear hK K
        try simp only [Act.put, List.setIfInBounds_toArray, List.set_cons_zero, List.set_cons_succ]
        refine wpAnyH_ready (rs := [4]) (by kernel_rfl) (by simp) ?_
        refine AllReadyH.cons rfl (fun K hK => ?_) AllReadyH.nil
        rw [if_pos (by kernel_rfl)]
        have BX1 := Lib.hid (B1.out.still K4.out)
        refine step_storeV wz4 (.tmp 2) (.tmp 10) (by kernel_rfl) g0 ds.toArray (by kernel_rfl) (by kernel_rfl) lx.toArray BX1.out (by simp [D6.out]) (by simp [X6.out]) DALL.out ?_
        refine hK.out _ _ trivial (fun hHeld => ?_)
        clear hK K
        try simp only [Act.put, List.setIfInBounds_toArray, List.set_cons_zero, List.set_cons_succ]
        have BX2 := Lib.hid (show Blk (wz4.setRow g0 ds.toArray) (g0 + 1) 26 ly.toArray from (setRow_other wz4 g0 (g0 + 1) _ (by omega)).trans (B2.out.still K4.out))
        refine wpAnyH_ready (rs := [5]) (by kernel_rfl) (by simp) ?_
        refine AllReadyH.cons rfl (fun K hK => ?_) AllReadyH.nil
        rw [if_pos (by kernel_rfl)]
        refine step_storeV _ (.tmp 3) (.tmp 12) (by kernel_rfl) (g0 + 1) es.toArray (by kernel_rfl) (by kernel_rfl) ly.toArray BX2.out (by simp [E6.out]) (by simp [Y6.out]) EALL.out ?_
        refine hK.out _ _ trivial (fun hHeld => ?_)
        clear hK K
        try simp only [Act.put, List.setIfInBounds_toArray, List.set_cons_zero, List.set_cons_succ]
        refine wpAnyH_done (by kernel_rfl) ?_ _
        have FIN := Lib.hid (one_mid G0.out WAS.out SA.out K4.out BX1.out BX2.out VX.out VY.out D6.out E6.out DALL.out EALL.out HSX.out HSY.out)
        go_wp2_with fail
        go_meet
        case rel => exact ⟨rfl, ds, es, FIN⟩
      · skip
        rw [if_pos (by kernel_rfl)]
        refine wp_load_row 26 (.tmp 3) rfl (g0 + 1) (by kernel_rfl) _ _ _ _ (B2.out.still K0.out) HU.out rfl (by rw [sizeValue]; simp [Y6.out]) ?_
        refine hK.out _ _ trivial (fun hHeld => ?_)
        clear hK K
        try simp only [Act.put, List.setIfInBounds_toArray, List.set_cons_zero, List.set_cons_succ]
        refine wpAnyH_ready (rs := [1]) (by kernel_rfl) (by simp) ?_
        refine AllReadyH.cons rfl (fun K hK => ?_) AllReadyH.nil
        go_simp
        go_wp2_with (go_at_call 10; refine (SX.out _ K0.out).mono ?_; rintro e wz3 ⟨⟨ds, rfl, q6, qall, qv⟩, qs⟩)
        have D6 := Lib.hid q6
        have DALL := Lib.hid qall
        have K3 := Lib.hid (Still.trans K0.out qs)
        have VX0 := Lib.hid (HasW.keep (Q := fun b => wA.heap.size ≤ b) (fun _ _ _ => rfl) (Nat.le_refl _) (fun b hb _ => by have := K0.out.size; omega) _ _ qv)
        clear q6 qall qv qs
        refine hK.out _ _ trivial (fun hHeld => ?_)
        clear hK K
        try simp only [Act.put, List.setIfInBounds_toArray, List.set_cons_zero, List.set_cons_succ]
        refine wpAnyH_ready (rs := [3]) (by kernel_rfl) (by simp) ?_
        refine AllReadyH.cons rfl (fun K hK => ?_) AllReadyH.nil
        go_simp
        go_wp2_with (go_at_call 10; refine (SY.out _ K3.out).mono ?_; rintro e wz4 ⟨⟨es, rfl, q6, qall, qv⟩, qs⟩)
        have E6 := Lib.hid q6
        have EALL := Lib.hid qall
        have K4 := Lib.hid (Still.trans K3.out qs)
        have VY := Lib.hid (HasW.keep (Q := fun b => wA.heap.size ≤ b) (fun _ _ _ => rfl) (Nat.le_refl _) (fun b hb _ => by have := K3.out.size; omega) _ _ qv)
        have VX := Lib.hid (HasW.keep (fun b _ hl => Below.block qs b hl) qs.size (fun _ h _ => h) _ _ VX0.out)
        clear q6 qall qv qs
        refine hK.out _ _ trivial (fun hHeld => ?_)
        clear hK K
        try simp only [Act.put, List.setIfInBounds_toArray, List.set_cons_zero, List.set_cons_succ]
        refine wpAnyH_ready (rs := [4]) (by kernel_rfl) (by simp) ?_
        refine AllReadyH.cons rfl (fun K hK => ?_) AllReadyH.nil
        rw [if_pos (by kernel_rfl)]
        have BX1 := Lib.hid (B1.out.still K4.out)
        refine step_storeV wz4 (.tmp 2) (.tmp 10) (by kernel_rfl) g0 ds.toArray (by kernel_rfl) (by kernel_rfl) lx.toArray BX1.out (by simp [D6.out]) (by simp [X6.out]) DALL.out ?_
        refine hK.out _ _ trivial (fun hHeld => ?_)
        clear hK K
        try simp only [Act.put, List.setIfInBounds_toArray, List.set_cons_zero, List.set_cons_succ]
        have BX2 := Lib.hid (show Blk (wz4.setRow g0 ds.toArray) (g0 + 1) 26 ly.toArray from (setRow_other wz4 g0 (g0 + 1) _ (by omega)).trans (B2.out.still K4.out))
        refine wpAnyH_ready (rs := [5]) (by kernel_rfl) (by simp) ?_
        refine AllReadyH.cons rfl (fun K hK => ?_) AllReadyH.nil
        rw [if_pos (by kernel_rfl)]
        refine step_storeV _ (.tmp 3) (.tmp 12) (by kernel_rfl) (g0 + 1) es.toArray (by kernel_rfl) (by kernel_rfl) ly.toArray BX2.out (by simp [E6.out]) (by simp [Y6.out]) EALL.out ?_
        refine hK.out _ _ trivial (fun hHeld => ?_)
        clear hK K
        try simp only [Act.put, List.setIfInBounds_toArray, List.set_cons_zero, List.set_cons_succ]
        refine wpAnyH_done (by kernel_rfl) ?_ _
        have FIN := Lib.hid (one_mid G0.out WAS.out SA.out K4.out BX1.out BX2.out VX.out VY.out D6.out E6.out DALL.out EALL.out HSX.out HSY.out)
        go_wp2_with fail
        go_meet
        case rel => exact ⟨rfl, ds, es, FIN⟩
    · skip
      rw [if_pos (by kernel_rfl)]
      refine wp_load_row 26 (.tmp 3) rfl (g0 + 1) (by kernel_rfl) _ _ _ _ (B2.out.still K0.out) HU.out rfl (by rw [sizeValue]; simp [Y6.out]) ?_
      refine hK.out _ _ trivial (fun hHeld => ?_)
      clear hK K
      try simp only [Act.put, List.setIfInBounds_toArray, List.set_cons_zero, List.set_cons_succ]
      refine wpAnyH_ready (rs := [0]) (by kernel_rfl) (by simp) ?_
      refine AllReadyH.cons rfl (fun K hK => ?_) AllReadyH.nil
      rw [if_pos (by kernel_rfl)]
      refine wp_load_row 26 (.tmp 2) rfl g0 (by kernel_rfl) _ _ _ _ (B1.out.still K0.out) HU.out rfl (by rw [sizeValue]; simp [X6.out]) ?_
      refine hK.out _ _ trivial (fun hHeld => ?_)
      clear hK K
      try simp only [Act.put, List.setIfInBounds_toArray, List.set_cons_zero, List.set_cons_succ]
      refine wpAnyH_ready (rs := [1]) (by kernel_rfl) (by simp) ?_
      refine AllReadyH.cons rfl (fun K hK => ?_) AllReadyH.nil
      go_simp
      go_wp2_with (go_at_call 10; refine (SX.out _ K0.out).mono ?_; rintro e wz3 ⟨⟨ds, rfl, q6, qall, qv⟩, qs⟩)
      have D6 := Lib.hid q6
      have DALL := Lib.hid qall
      have K3 := Lib.hid (Still.trans K0.out qs)
      have VX0 := Lib.hid (HasW.keep (Q := fun b => wA.heap.size ≤ b) (fun _ _ _ => rfl) (Nat.le_refl _) (fun b hb _ => by have := K0.out.size; omega) _ _ qv)
      clear q6 qall qv qs
      refine hK.out _ _ trivial (fun hHeld => ?_)
      clear hK K
      try simp only [Act.put, List.setIfInBounds_toArray, List.set_cons_zero, List.set_cons_succ]
      refine wpAnyH_ready (rs := [3]) (by kernel_rfl) (by simp) ?_
      refine AllReadyH.cons rfl (fun K hK => ?_) AllReadyH.nil
      go_simp
      go_wp2_with (go_at_call 10; refine (SY.out _ K3.out).mono ?_; rintro e wz4 ⟨⟨es, rfl, q6, qall, qv⟩, qs⟩)
      have E6 := Lib.hid q6
      have EALL := Lib.hid qall
      have K4 := Lib.hid (Still.trans K3.out qs)
      have VY := Lib.hid (HasW.keep (Q := fun b => wA.heap.size ≤ b) (fun _ _ _ => rfl) (Nat.le_refl _) (fun b hb _ => by have := K3.out.size; omega) _ _ qv)
      have VX := Lib.hid (HasW.keep (fun b _ hl => Below.block qs b hl) qs.size (fun _ h _ => h) _ _ VX0.out)
      clear q6 qall qv qs
      refine hK.out _ _ trivial (fun hHeld => ?_)
      clear hK K
      try simp only [Act.put, List.setIfInBounds_toArray, List.set_cons_zero, List.set_cons_succ]
      refine wpAnyH_ready (rs := [4]) (by kernel_rfl) (by simp) ?_
      refine AllReadyH.cons rfl (fun K hK => ?_) AllReadyH.nil
      rw [if_pos (by kernel_rfl)]
      have BX1 := Lib.hid (B1.out.still K4.out)
      refine step_storeV wz4 (.tmp 2) (.tmp 10) (by kernel_rfl) g0 ds.toArray (by kernel_rfl) (by kernel_rfl) lx.toArray BX1.out (by simp [D6.out]) (by simp [X6.out]) DALL.out ?_
      refine hK.out _ _ trivial (fun hHeld => ?_)
      clear hK K
      try simp only [Act.put, List.setIfInBounds_toArray, List.set_cons_zero, List.set_cons_succ]
      have BX2 := Lib.hid (show Blk (wz4.setRow g0 ds.toArray) (g0 + 1) 26 ly.toArray from (setRow_other wz4 g0 (g0 + 1) _ (by omega)).trans (B2.out.still K4.out))
      refine wpAnyH_ready (rs := [5]) (by kernel_rfl) (by simp) ?_
      refine AllReadyH.cons rfl (fun K hK => ?_) AllReadyH.nil
      rw [if_pos (by kernel_rfl)]
      refine step_storeV _ (.tmp 3) (.tmp 12) (by kernel_rfl) (g0 + 1) es.toArray (by kernel_rfl) (by kernel_rfl) ly.toArray BX2.out (by simp [E6.out]) (by simp [Y6.out]) EALL.out ?_
      refine hK.out _ _ trivial (fun hHeld => ?_)
      clear hK K
      try simp only [Act.put, List.setIfInBounds_toArray, List.set_cons_zero, List.set_cons_succ]
      refine wpAnyH_done (by kernel_rfl) ?_ _
      have FIN := Lib.hid (one_mid G0.out WAS.out SA.out K4.out BX1.out BX2.out VX.out VY.out D6.out E6.out DALL.out EALL.out HSX.out HSY.out)
      go_wp2_with fail
      go_meet
      case rel => exact ⟨rfl, ds, es, FIN⟩
  case rest =>
    obtain ⟨rfl, ds, es, MID⟩ := hcut
    have D6 := Lib.hid MID.out.d6
    have E6 := Lib.hid MID.out.e6
    have EX := Lib.hid (encR_cases tx)
    have EY := Lib.hid (encR_cases ty)
    clear SX SY HSX HSY B1 B2 X6 Y6 HA SA WAS
    go_upto_region 2 with fail
    refine wp_region_lit ?_
    refine wpList_load_row rfl 26 (.tmp 2) rfl g0 rfl _ _ _ _ MID.out.b1 HU.out rfl (by rw [sizeValue]; simp [D6.out]) ?_
    rcases EX.out with ⟨hc, hl, he⟩ | ⟨er, her, he⟩
    · have ENC := Lib.hid (enc_ok MID.out.v1 (Nat.le_refl _) (HT.out _ MID.out.st) he)
      have HC := Lib.hid hc
      have HL := Lib.hid hl
      have HIN := Lib.hid (hasV_in _ _ MID.out.v1)
      obtain ⟨E, hE⟩ : ∃ E, E = encT tx := ⟨_, rfl⟩
      have HE := Lib.hid hE
      rw [← hE] at ENC
      obtain ⟨L, hL⟩ : ∃ L, L = E.length := ⟨_, rfl⟩
      have HLL := Lib.hid hL
      rw [← hL] at ENC
      clear hc hl he hE hL
      go_wp2_with fail
      refine ENC.out.mono ?_
      rintro e w3 ⟨⟨A3, c3, rfl, rd3, na3⟩, s3⟩
      have S3 := Lib.hid s3
      have RD3 := Lib.hid rd3
      clear rd3 na3 s3 ENC
      go_upto_region 3 with fail
      refine wp_region_lit ?_
      refine wpList_load_row rfl 26 (.tmp 3) rfl (g0 + 1) rfl _ _ _ _ (MID.out.b2.still S3.out) HU.out rfl (by rw [sizeValue]; simp [E6.out]) ?_
      have VY3 := Lib.hid (HasV.more S3.out.size _ _ (HasV.below S3.out _ _ MID.out.v2))
      rcases EY.out with ⟨hc, hl, he⟩ | ⟨er, her, he⟩
      · have ENC := Lib.hid (enc_ok VY3.out (Nat.le_refl _) (HT.out _ (Still.trans MID.out.st S3.out)) he)
        have ONE := Lib.hid (one_same tx ty HC.out hc HIN.out (hasV_in _ _ VY3.out) HL.out hl)
        have HLY := Lib.hid hl
        obtain ⟨F, hF⟩ : ∃ F, F = encT ty := ⟨_, rfl⟩
        rw [← hF] at ENC ONE HLY
        rw [← HE.out] at ONE HL
        obtain ⟨M, hM⟩ : ∃ M, M = F.length := ⟨_, rfl⟩
        rw [← hM] at ENC HLY
        rw [← HLL.out] at HL
        clear hc hl he hF hM
        go_wp2_with fail
        refine ENC.out.mono ?_
        rintro e w4 ⟨⟨A4, c4, rfl, rd4, na4⟩, s4⟩
        have s34 := Still.trans S3.out s4
        have S4 := Lib.hid (Still.trans MID.out.st s34)
        have SOK := Lib.hid (show ∀ W, Still w4 W → W.rangeAt g0 0 ds ∧ W.rangeAt (g0 + 1) 0 es from fun W s => ⟨box_range (MID.out.b1.still (Still.trans s34 s)), box_range (MID.out.b2.still (Still.trans s34 s))⟩)
        have SB0 := Lib.hid (show ∀ W, Still w4 W → Calls Tryd.prog 13 #[.slice A3 L c3, .slice A4 M c4] W fun e w' => e = .returned (.bool (decide (E = F))) ∧ Still W w' from fun W s => same_any A3 A4 L M c3 c4 E F W _ _ (RD3.out.still (Nat.le_refl _) (Still.trans s4 s)) (rd4.still (Nat.le_refl _) s) (by have := HL.out; omega) (by have := HLY.out; omega))
        have SV0 := Lib.hid (show ∀ W, Still w4 W → Calls Tryd.prog 21 #[.agg ds.toArray, .agg es.toArray] W fun e w' => e = .returned (.bool (sameT tx ty)) ∧ Still W w' from fun W s => sameOK tx ty W _ _ _ _ (HasV.below (Still.trans s34 s) _ _ MID.out.v1) (HasV.below (Still.trans s34 s) _ _ MID.out.v2) (Still.trans s34 s).size (Still.trans s34 s).size)
        have SW0 := Lib.hid (show ∀ W, Still w4 W → Calls Tryd.prog 21 #[.agg es.toArray, .agg ds.toArray] W fun e w' => e = .returned (.bool (sameT ty tx)) ∧ Still W w' from fun W s => sameOK ty tx W _ _ _ _ (HasV.below (Still.trans s34 s) _ _ MID.out.v2) (HasV.below (Still.trans s34 s) _ _ MID.out.v1) (Still.trans s34 s).size (Still.trans s34 s).size)
        rw [ONE.out.1] at SB0
        rw [ONE.out.2] at SW0
        generalize sameT tx ty = q at SB0 SV0 SW0
        have SB := SB0
        have SV := SV0
        have SW := SW0
        clear SB0 SV0 SW0 rd4 na4 s4 s34 ENC ONE EX EY VY3 RD3 S3 HE HLL HC HL HLY HIN MID
        cases q
        all_goals
          go_wp2_with fail
          refine wp_region_held_drew (S := fun W => W.rangeAt g0 0 ds ∧ W.rangeAt (g0 + 1) 0 es) (by kernel_rfl) ?_ (fun hHeld => ?_)
          · exact SOK.out _ ((Still.refl w4).drew)
          refine wpAnyH_take (i := 0) (v := .slice A3 L c3) rfl (by kernel_rfl) (by kernel_rfl) (by kernel_rfl) (fun _ _ _ h => h) (Or.inl ⟨by kernel_rfl, fun w _ => by go_simp⟩) (by assumption) ?_
          simp only [Act.put, List.setIfInBounds_toArray, List.set_cons_zero, List.set_cons_succ]
          refine wpAnyH_take (i := 1) (v := .slice A4 M c4) rfl (by kernel_rfl) (by kernel_rfl) (by kernel_rfl) (fun _ _ _ h => h) (Or.inl ⟨by kernel_rfl, fun w _ => by go_simp⟩) (by assumption) ?_
          simp only [Act.put, List.setIfInBounds_toArray, List.set_cons_zero, List.set_cons_succ]
          refine wpAnyH_take (i := 3) (v := .agg ds.toArray) rfl (by kernel_rfl) (by kernel_rfl) (by kernel_rfl) (fun _ _ _ h => h) ?hy3 (by assumption) ?_
          case hy3 =>
            refine yieldsIf_load_mid ?hw3 26 (.tmp 2) ?ho3 g0 0 ?hx3 ds _ (fun w h => h.1) (Tryd.underlying26) ?hd3 (by rw [sizeValue]; simp [D6.out])
            case hw3 => kernel_rfl
            case ho3 => rfl
            case hx3 => kernel_rfl
            case hd3 => rfl
          simp only [Act.put, List.setIfInBounds_toArray, List.set_cons_zero, List.set_cons_succ]
          refine wpAnyH_take (i := 4) (v := .agg es.toArray) rfl (by kernel_rfl) (by kernel_rfl) (by kernel_rfl) (fun _ _ _ h => h) ?hy4 (by assumption) ?_
          case hy4 =>
            refine yieldsIf_load_mid ?hw4 26 (.tmp 3) ?ho4 (g0 + 1) 0 ?hx4 es _ (fun w h => h.2) (Tryd.underlying26) ?hd4 (by rw [sizeValue]; simp [E6.out])
            case hw4 => kernel_rfl
            case ho4 => rfl
            case hx4 => kernel_rfl
            case hd4 => rfl
          simp only [Act.put, List.setIfInBounds_toArray, List.set_cons_zero, List.set_cons_succ]
          refine wpAnyH_ready (rs := [2]) (by kernel_rfl) (by simp) ?_
          refine AllReadyH.cons rfl (fun K hK => ?_) AllReadyH.nil
          go_simp
          go_wp2_with (go_at_call 13; refine (SB.out _ ((Still.refl w4).drew)).mono ?_; rintro e w5 ⟨rfl, s5⟩; have t5 : Still w4 w5 := Still.trans ((Still.refl w4).drew) s5)
          refine hK.out _ _ (SOK.out _ t5) (fun hHeld => ?_)
          clear hK K
          try simp only [Act.put, List.setIfInBounds_toArray, List.set_cons_zero, List.set_cons_succ]
          refine wpAnyH_ready (rs := [5]) (by kernel_rfl) (by simp) ?_
          refine AllReadyH.cons rfl (fun K hK => ?_) AllReadyH.nil
          go_simp
          go_wp2_with (go_at_call 21; refine (SV.out _ t5).mono ?_; rintro e w6 ⟨rfl, s6⟩; have t6 : Still w4 w6 := Still.trans t5 s6)
          refine hK.out _ _ (SOK.out _ t6) (fun hHeld => ?_)
          clear hK K
          try simp only [Act.put, List.setIfInBounds_toArray, List.set_cons_zero, List.set_cons_succ]
          refine wpAnyH_take (i := 6) (v := .bool true) rfl (by kernel_rfl) (by kernel_rfl) (by kernel_rfl) (fun _ _ _ h => h) (Or.inl ⟨by kernel_rfl, fun w _ => by go_simp⟩) (by assumption) ?_
          simp only [Act.put, List.setIfInBounds_toArray, List.set_cons_zero, List.set_cons_succ]
          refine wpAnyH_take (i := 7) (v := .bool true) rfl (by kernel_rfl) (by kernel_rfl) (by kernel_rfl) (fun _ _ _ h => h) (Or.inl ⟨by kernel_rfl, fun w _ => by go_simp⟩) (by assumption) ?_
          simp only [Act.put, List.setIfInBounds_toArray, List.set_cons_zero, List.set_cons_succ]
          refine wpAnyH_take (i := 8) (v := .agg ds.toArray) rfl (by kernel_rfl) (by kernel_rfl) (by kernel_rfl) (fun _ _ _ h => h) ?hy8 (by assumption) ?_
          case hy8 =>
            refine yieldsIf_load_mid ?hw8 26 (.tmp 2) ?ho8 g0 0 ?hx8 ds _ (fun w h => h.1) (Tryd.underlying26) ?hd8 (by rw [sizeValue]; simp [D6.out])
            case hw8 => kernel_rfl
            case ho8 => rfl
            case hx8 => kernel_rfl
            case hd8 => rfl
          simp only [Act.put, List.setIfInBounds_toArray, List.set_cons_zero, List.set_cons_succ]
          refine wpAnyH_take (i := 9) (v := .agg es.toArray) rfl (by kernel_rfl) (by kernel_rfl) (by kernel_rfl) (fun _ _ _ h => h) ?hy9 (by assumption) ?_
          case hy9 =>
            refine yieldsIf_load_mid ?hw9 26 (.tmp 3) ?ho9 (g0 + 1) 0 ?hx9 es _ (fun w h => h.2) (Tryd.underlying26) ?hd9 (by rw [sizeValue]; simp [E6.out])
            case hw9 => kernel_rfl
            case ho9 => rfl
            case hx9 => kernel_rfl
            case hd9 => rfl
          simp only [Act.put, List.setIfInBounds_toArray, List.set_cons_zero, List.set_cons_succ]
          refine wpAnyH_take (i := 11) (oi := ⟨some 41, .load 26 (.tmp 3), _, _, _, some (7, true)⟩) (v := .agg es.toArray) rfl (by kernel_rfl) (by kernel_rfl) (by kernel_rfl) (fun _ _ _ h => h) ?hy11 (by assumption) ?_
          case hy11 =>
            refine yieldsIf_load_mid ?hw11 26 (.tmp 3) ?ho11 (g0 + 1) 0 ?hx11 es _ (fun w h => h.2) (Tryd.underlying26) ?hd11 (by rw [sizeValue]; simp [E6.out])
            case hw11 => kernel_rfl
            case ho11 => rfl
            case hx11 => kernel_rfl
            case hd11 => rfl
          simp only [Act.put, List.setIfInBounds_toArray, List.set_cons_zero, List.set_cons_succ]
          refine wpAnyH_take (i := 12) (oi := ⟨some 42, .load 26 (.tmp 2), _, _, _, some (7, true)⟩) (v := .agg ds.toArray) rfl (by kernel_rfl) (by kernel_rfl) (by kernel_rfl) (fun _ _ _ h => h) ?hy12 (by assumption) ?_
          case hy12 =>
            refine yieldsIf_load_mid ?hw12 26 (.tmp 2) ?ho12 g0 0 ?hx12 ds _ (fun w h => h.1) (Tryd.underlying26) ?hd12 (by rw [sizeValue]; simp [D6.out])
            case hw12 => kernel_rfl
            case ho12 => rfl
            case hx12 => kernel_rfl
            case hd12 => rfl
          simp only [Act.put, List.setIfInBounds_toArray, List.set_cons_zero, List.set_cons_succ]
          refine wpAnyH_ready (rs := [10]) (by kernel_rfl) (by simp) ?_
          refine AllReadyH.cons (o := ⟨some 40, .call { callee := .value (.func 21), args := #[.tmp 38, .tmp 39], argTypes := #[26, 26] }, _, _, _, some (7, true)⟩) rfl (fun K hK => ?_) AllReadyH.nil
          go_simp
          go_wp2_with (go_at_call 21; refine (SV.out _ t6).mono ?_; rintro e w7 ⟨rfl, s7⟩; have t7 : Still w4 w7 := Still.trans t6 s7)
          refine hK.out _ _ (SOK.out _ t7) (fun hHeld => ?_)
          clear hK K
          try simp only [Act.put, List.setIfInBounds_toArray, List.set_cons_zero, List.set_cons_succ]
          refine wpAnyH_ready (rs := [13]) (by kernel_rfl) (by simp) ?_
          refine AllReadyH.cons (o := ⟨some 43, .call { callee := .value (.func 21), args := #[.tmp 41, .tmp 42], argTypes := #[26, 26] }, _, _, _, some (7, true)⟩) rfl (fun K hK => ?_) AllReadyH.nil
          go_simp
          go_wp2_with (go_at_call 21; refine (SW.out _ t7).mono ?_; rintro e w8 ⟨rfl, s8⟩; have t8 : Still w4 w8 := Still.trans t7 s8)
          refine hK.out _ _ (SOK.out _ t8) (fun hHeld => ?_)
          clear hK K
          try simp only [Act.put, List.setIfInBounds_toArray, List.set_cons_zero, List.set_cons_succ]
          refine wpAnyH_take (i := 14) (oi := ⟨some 44, .binOp .eql 4 (.tmp 40) (.tmp 43) 4, _, _, _, some (7, true)⟩) (v := .bool true) rfl (by kernel_rfl) (by kernel_rfl) (by kernel_rfl) (fun _ _ _ h => h) (Or.inl ⟨by kernel_rfl, fun w _ => by go_simp⟩) (by assumption) ?_
          simp only [Act.put, List.setIfInBounds_toArray, List.set_cons_zero, List.set_cons_succ]
          refine wpAnyH_take (i := 15) (oi := ⟨some 45, .pick (.tmp 37) (.tmp 44) (.const (.bool false)), _, _, _, none⟩) (v := .bool true) rfl (by kernel_rfl) (by kernel_rfl) (by kernel_rfl) (fun _ _ _ h => h) (Or.inl ⟨by kernel_rfl, fun w _ => by go_simp⟩) (by assumption) ?_
          simp only [Act.put, List.setIfInBounds_toArray, List.set_cons_zero, List.set_cons_succ]
          refine wpAnyH_take (i := 16) (oi := ⟨some 46, .move (.tmp 45), _, _, _, none⟩) (v := .bool true) rfl (by kernel_rfl) (by kernel_rfl) (by kernel_rfl) (fun _ _ _ h => h) (Or.inl ⟨by kernel_rfl, fun w _ => by go_simp⟩) (by assumption) ?_
          simp only [Act.put, List.setIfInBounds_toArray, List.set_cons_zero, List.set_cons_succ]
          refine wpAnyH_ready (rs := [17]) (by kernel_rfl) (by simp) ?_
          refine AllReadyH.cons (o := ⟨some 47, .call { callee := .value (.func 15), args := #[], argTypes := #[] }, _, _, _, some (16, true)⟩) rfl (fun K hK => ?_) AllReadyH.nil
          go_simp
          go_wp2_with (go_at_call 15; refine (LV.out _).mono ?_; rintro e w9 ⟨rfl, s9⟩; have t9 : Still w4 w9 := Still.trans t8 s9)
          refine hK.out _ _ (SOK.out _ t9) (fun hHeld => ?_)
          clear hK K
          try simp only [Act.put, List.setIfInBounds_toArray, List.set_cons_zero, List.set_cons_succ]
          refine wpAnyH_take (i := 18) (oi := ⟨some 48, .pick (.tmp 46) (.tmp 47) (.const (.bool false)), _, _, _, none⟩) (v := .bool true) rfl (by kernel_rfl) (by kernel_rfl) (by kernel_rfl) (fun _ _ _ h => h) (Or.inl ⟨by kernel_rfl, fun w _ => by go_simp⟩) (by assumption) ?_
          simp only [Act.put, List.setIfInBounds_toArray, List.set_cons_zero, List.set_cons_succ]
          refine wpAnyH_take (i := 19) (oi := ⟨some 4, .assign (.tmp 48), _, _, _, none⟩) (v := .bool true) rfl (by kernel_rfl) (by kernel_rfl) (by kernel_rfl) (fun _ _ _ h => h) (Or.inl ⟨by kernel_rfl, fun w _ => by go_simp⟩) (by assumption) ?_
          simp only [Act.put, List.setIfInBounds_toArray, List.set_cons_zero, List.set_cons_succ]
          refine wpAnyH_done (by kernel_rfl) ?_ _
          go_wp2_with fail
          go_ret
          exact ⟨rfl, Still.trans S4.out t9⟩
      · have ENC := Lib.hid (enc_no VY3.out (Nat.le_refl _) (HT.out _ (Still.trans MID.out.st S3.out)) er he)
        have d3 : (er == 0) = false := by simpa using her
        have d4 : (er != 0) = true := by simpa using her
        clear her he
        go_wp2_with fail
        refine ENC.out.mono ?_
        rintro e w4 ⟨⟨A4, c4, rfl⟩, s4⟩
        have S4 := Lib.hid (Still.trans (Still.trans MID.out.st S3.out) s4)
        clear s4 ENC VY3 EX EY
        go_wp2_with fail
        refine (LV.out _).mono ?_
        rintro e w5 ⟨rfl, s5⟩
        have S5 := Lib.hid (Still.trans (show Still w w4 from S4.out) s5)
        go_wp2_with fail
        go_ret
        exact ⟨rfl, S5.out⟩
    · have ENC := Lib.hid (enc_no MID.out.v1 (Nat.le_refl _) (HT.out _ MID.out.st) er he)
      have d3 : (er == 0) = false := by simpa using her
      have d4 : (er != 0) = true := by simpa using her
      clear her he
      go_wp2_with fail
      refine ENC.out.mono ?_
      rintro e w3 ⟨⟨A3, c3, rfl⟩, s3⟩
      have S3 := Lib.hid s3
      clear s3 ENC
      go_upto_region 3 with fail
      refine wp_region_lit ?_
      refine wpList_load_row rfl 26 (.tmp 3) rfl (g0 + 1) rfl _ _ _ _ (MID.out.b2.still S3.out) HU.out rfl (by rw [sizeValue]; simp [E6.out]) ?_
      have VY3 := Lib.hid (HasV.more S3.out.size _ _ (HasV.below S3.out _ _ MID.out.v2))
      have ENY := Lib.hid (enc_some VY3.out (Nat.le_refl _) (HT.out _ (Still.trans MID.out.st S3.out)))
      go_wp2_with fail
      refine ENY.out.mono ?_
      rintro e w4 ⟨⟨A4, n4, c4, e4, rfl⟩, s4⟩
      have S4 := Lib.hid (Still.trans (Still.trans MID.out.st S3.out) s4)
      clear s4 ENY VY3 EX EY
      go_wp2_with fail
      refine (LV.out _).mono ?_
      rintro e w5 ⟨rfl, s5⟩
      have S5 := Lib.hid (Still.trans (show Still w w4 from S4.out) s5)
      go_wp2_with fail
      go_ret
      exact ⟨rfl, S5.out⟩
end Go.Proofs.YtoinkioobandfaaDoor
