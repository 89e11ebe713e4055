/- The walk of CutMeets: it returns true, and nothing that was there turns. -/
import Derived.Test.YtjihnagoebhinaaCtFrom
import Derived.Test.YtjihnagoebhinaaCtWrite
import Derived.Test.YtjihnagoebhinaaLate
namespace Go.Proofs.Ytjihnagoebhinaa
open Go.RowKit
set_option linter.unusedVariables false
set_option linter.unusedSimpArgs false

theorem RowsR.cutk {w : World} {O P : Nat → Prop} {A : Option Addr} {n c k : Nat} {L : List (List UInt8)} (h : RowsR w O P A n c L) (hk : k ≤ n) : RowsR w O P (if c = k then A else A.map (·.add k)) (n - k) (c - k) (L.drop k) := by
  by_cases e : c = k
  · rw [if_pos e]
    have := h.fit
    rw [show n - k = 0 by omega, show c - k = 0 by omega]
    exact h.endk (by omega)
  · rw [if_neg e]
    exact h.dropk hk
theorem RowsR.cute {w : World} {O P : Nat → Prop} {A : Option Addr} {n c k : Nat} {L : List (List UInt8)} (h : RowsR w O P A n c L) (hk : k ≤ n) (e : c = k) : RowsR w O P A (n - k) 0 (L.drop k) := by
  have := h.fit
  rw [show n - k = 0 by omega]
  exact h.endk (by omega)
theorem chunks_at (s : Shp) (a r : List UInt8) (p : Nat) (h : ((chunks s (a ++ r)).take p).flatten.length = a.length) : (chunks s (a ++ r)).drop p = chunks s r := by
  rw [chunks_from, h, List.drop_left]
theorem cut_rowN {w : World} {W : World} {A : Option Addr} {n0 c0 : Nat} {z : List Int} (h : RowIn .u8 w A n0 c0 z) (st : Still w W) (k : Nat) (hk : 1 ≤ k) :
    ∃ n l, RowS w w.heap.size A n c0 l ∧ n ≤ k ∧ Calls Try.prog 10 #[.slice A n0 c0, .int .i64 k] W fun e w' => e = .returned (.slice A n c0) ∧ W = w' := by
  obtain ⟨l0, r0, hc0, hm0, hA0⟩ := reads_of_row h
  exact ⟨_, _, ⟨r0.take k, by omega, hm0, fun e => ⟨by have := (hA0 e).1; omega, (hA0 e).2⟩⟩, by omega, cut_any A n0 c0 k l0 W _ (r0.still (Nat.le_refl _) st) hc0 hm0 hk⟩
set_option maxRecDepth 100000 in
set_option maxHeartbeats 6400000 in
theorem cutMeets_walk (x y z u sd : Int) (A1 : Option Addr) (len1 cap1 : Nat) (z1 : List Int) (A2 : Option Addr) (len2 cap2 : Nat) (z2 : List Int) (A3 : Option Addr) (len3 cap3 : Nat) (z3 : List Int) (w : World) (hsd : 0 ≤ sd ∧ sd ≤ 4294967295) (h1 : RowIn .u8 w A1 len1 cap1 z1) (h2 : RowIn .u8 w A2 len2 cap2 z2) (h3 : RowIn .u8 w A3 len3 cap3 z3) :
    Calls Try.prog 7 #[.agg #[.int .i64 x, .int .i64 y, .int .i64 z, .int .i64 u, .int .u32 sd], .slice A1 len1 cap1, .slice A2 len2 cap2, .slice A3 len3 cap3] w fun e w' => e = .returned (.bool true) ∧ Below w.heap.size w w' := by
  have st := (Still.refl w).alloc (Nat.le_refl _) (.cells #[.int .i64 x, .int .i64 y, .int .i64 z, .int .i64 u, .int .u32 sd] 24)
  have hb := Blk.new w 24 #[.int .i64 x, .int .i64 y, .int .i64 z, .int .i64 u, .int .u32 sd]
  obtain ⟨n1, l1, rs1, hn1, HC1⟩ := cut_rowN h1 st 1000 (by omega)
  obtain ⟨n2, l2, rs2, hn2, HC2⟩ := cut_rowN h2 st 1000 (by omega)
  obtain ⟨n3, l3, rs3, hn3, HC3⟩ := cut_rowN h3 st 1500 (by omega)
  have BX5 := Lib.hid (fun (W : World) (t : Still (w.alloc (.cells #[.int .i64 x, .int .i64 y, .int .i64 z, .int .i64 u, .int .u32 sd] 24)) W) => (show W.cell? ⟨w.heap.size, 0, none⟩ = some (.int .i64 x) ∧ W.cell? ⟨w.heap.size, 1, none⟩ = some (.int .i64 y) ∧ W.cell? ⟨w.heap.size, 2, none⟩ = some (.int .i64 z) ∧ W.cell? ⟨w.heap.size, 3, none⟩ = some (.int .i64 u) ∧ W.cell? ⟨w.heap.size, 4, none⟩ = some (.int .u32 sd) from ⟨(hb.still t).cell 0, (hb.still t).cell 1, (hb.still t).cell 2, (hb.still t).cell 3, (hb.still t).cell 4⟩))
  have RS1 := Lib.hid rs1
  have RS2 := Lib.hid rs2
  have RS3 := Lib.hid rs3
  have C1 := Lib.hid HC1
  have C2 := Lib.hid HC2
  have C3 := Lib.hid HC3
  have ST := Lib.hid st
  have LV := Lib.hid (fun W => lives_any W)
  clear st hb h1 h2 h3 rs1 rs2 rs3 HC1 HC2 HC3
  by_cases hok : okZ x y z u = true
  · obtain ⟨s, hs, rfl, rfl, rfl, rfl, rfl⟩ := shp_of hok hsd.1 hsd.2
    have OK := Lib.hid hs
    clear hs hok hsd
    go_enter Try.func7, Try.ntmps7
    go_wp2_with fail
    refine C1.out.mono ?_
    rintro e w1 ⟨rfl, rfl⟩
    go_wp2_with fail
    refine C2.out.mono ?_
    rintro e w1 ⟨rfl, rfl⟩
    go_wp2_with fail
    refine C3.out.mono ?_
    rintro e w1 ⟨rfl, rfl⟩
    go_wp2_with fail
    clear C1 C2 C3
    generalize w.alloc (.cells #[.int .i64 (s.lt : Nat), .int .i64 (s.mt : Nat), .int .i64 (s.k : Nat), .int .i64 (s.n : Nat), .int .u32 (s.seed : Nat)] 24) = wb at *
    have wbT := Lib.hid (Still.refl wb)
    have HSX : (wb.drew).cell? ⟨w.heap.size, 0, none⟩ = some (.int .i64 (s.lt : Nat)) ∧ (wb.drew).cell? ⟨w.heap.size, 1, none⟩ = some (.int .i64 (s.mt : Nat)) ∧ (wb.drew).cell? ⟨w.heap.size, 2, none⟩ = some (.int .i64 (s.k : Nat)) ∧ (wb.drew).cell? ⟨w.heap.size, 3, none⟩ = some (.int .i64 (s.n : Nat)) ∧ (wb.drew).cell? ⟨w.heap.size, 4, none⟩ = some (.int .u32 (s.seed : Nat)) := BX5.out _ (Still.trans wbT.out ((Still.refl _).drew))
    refine wp_region_late (S := fun W => W.cell? ⟨w.heap.size, 0, none⟩ = some (.int .i64 (s.lt : Nat)) ∧ W.cell? ⟨w.heap.size, 1, none⟩ = some (.int .i64 (s.mt : Nat)) ∧ W.cell? ⟨w.heap.size, 2, none⟩ = some (.int .i64 (s.k : Nat)) ∧ W.cell? ⟨w.heap.size, 3, none⟩ = some (.int .i64 (s.n : Nat)) ∧ W.cell? ⟨w.heap.size, 4, none⟩ = some (.int .u32 (s.seed : Nat))) [] (by kernel_rfl) HSX (fun hHeld => ?_)
    clear HSX
    try simp only [Act.put, List.setIfInBounds_toArray, List.set_cons_zero, List.set_cons_succ]
    have HCP := Lib.hid (copy_any A1 n1 cap1 l1 wb.drew w.heap.size (RS1.out.reads.still (Nat.le_refl _) (Still.trans ST.out (Still.trans wbT.out ((Still.refl _).drew)))) (by omega) (fun e => RS1.out.nil e))
    refine wpLate_pure (i := 1) (v := .slice A1 n1 cap1) rfl (by kernel_rfl) (by kernel_rfl) (by kernel_rfl) (by kernel_rfl) (fun _ _ _ h => h) (Or.inl ⟨by kernel_rfl, fun w _ => by go_simp⟩) ?_
    try simp only [Act.put, List.setIfInBounds_toArray, List.set_cons_zero, List.set_cons_succ]
    refine wpLate_pure (i := 3) (v := .slice A3 n3 cap3) rfl (by kernel_rfl) (by kernel_rfl) (by kernel_rfl) (by kernel_rfl) (fun _ _ _ h => h) (Or.inl ⟨by kernel_rfl, fun w _ => by go_simp⟩) ?_
    try simp only [Act.put, List.setIfInBounds_toArray, List.set_cons_zero, List.set_cons_succ]
    refine wpLate_take (i := 0) (v := .agg #[.int .i64 (s.lt : Nat), .int .i64 (s.mt : Nat), .int .i64 (s.k : Nat), .int .i64 (s.n : Nat), .int .u32 (s.seed : Nat)]) [] rfl (by kernel_rfl) (by kernel_rfl) (by kernel_rfl) (by kernel_rfl) (by kernel_rfl) (by decide) (fun _ _ _ h => h) (Or.inl ⟨by kernel_rfl, fun w hS => by obtain ⟨h0, h1, h2, h3, h4⟩ := hS; go_simp⟩) (by assumption) (fun hHeld => ?_)
    try simp only [Act.put, List.setIfInBounds_toArray, List.set_cons_zero, List.set_cons_succ]
    refine wpLate_one (i := 2) (o := ⟨some 26, .call { callee := .value (.func 11), args := #[.tmp 25], argTypes := #[25] }, _, _, _, none⟩) (by kernel_rfl) rfl (fun K' hK' => ?_)
    go_simp
    go_wp2_with (go_at_call 11; refine HCP.out.mono ?_; rintro e wpa ⟨⟨wpv, rfl, o1⟩, t1⟩)
    have wpaT := Lib.hid (Still.trans wbT.out (Still.trans ((Still.refl _).drew) t1))
    have wpaO := Lib.hid (own_base o1 (lo := w.heap.size) (Nat.le_trans ST.out.size (Still.trans wbT.out ((Still.refl _).drew)).size))
    have wpaS := Lib.hid (And.intro t1 (Nat.le_trans ST.out.size (Still.trans wbT.out ((Still.refl _).drew)).size))
    have wpaP := Lib.hid o1
    clear HCP t1 o1
    refine hK'.out _ _ (fun _ _ => BX5.out _ wpaT.out) ?_
    clear hK' K'
    try simp only [Act.put, List.setIfInBounds_toArray, List.set_cons_zero, List.set_cons_succ]
    refine wpLate_one (i := 4) (o := ⟨some 28, .call { callee := .builtin .append, args := #[.tmp 26, .tmp 27], argTypes := #[25, 25] }, _, _, _, none⟩) (by kernel_rfl) rfl (fun K' hK' => ?_)
    rw [if_pos (by kernel_rfl)]
    have HXN : n1 + n3 ≤ 140737488355328 := by omega
    have HXS := wpaS.out.1.size
    with_reducible refine step_adds_at wpa (.tmp 26) (.tmp 27) (by kernel_rfl) wb.drew.heap.size wpv n1 l1 (by kernel_rfl) wpaP.out A3 n3 cap3 w.heap.size l3 (by kernel_rfl) (RS3.out.reads.still (Nat.le_refl _) (Still.trans ST.out wpaT.out)) (fun e => (RS3.out.nil e).2) HXN HXS ?_
    intro wpx wpb o2 g2 _
    obtain ⟨wpA, wpc, rfl, hx1, hx2, hx3⟩ := own_form o2
    have wpbT := Lib.hid (Still.trans wbT.out (Still.trans ((Still.refl _).drew) (wpaS.out.1.grown g2 HXS (fun k hk => own_block_ge wpaP.out k hk))))
    have wpbS := Lib.hid (Still.trans ((Still.refl wb).drew) (wpaS.out.1.grown g2 HXS (fun k hk => own_block_ge wpaP.out k hk)))
    have wpbR := Lib.hid (RowP.of_own o2)
    clear o2 g2 HXN HXS hx1 hx2 hx3
    refine hK'.out _ _ (fun _ _ => BX5.out _ wpbT.out) ?_
    clear hK' K'
    try simp only [Act.put, List.setIfInBounds_toArray, List.set_cons_zero, List.set_cons_succ]
    have HSP := Lib.hid (split_yes s OK.out wpA (n1 + n3) wpc (l1 ++ l3) wpb (wpbR.out.mono (fun _ _ _ => trivial)) (by omega))
    refine wpLate_one (i := 5) (o := ⟨some 29, .call { callee := .value (.func 12), args := #[.tmp 24, .tmp 28], argTypes := #[24, 25] }, _, _, _, none⟩) (by kernel_rfl) rfl (fun K' hK' => ?_)
    go_simp
    go_wp2_with (go_at_call 12; refine HSP.out.mono ?_; rintro e wp ⟨wpl, xs, rfl, o3, r3, t3⟩)
    obtain ⟨wpG, wpk, rfl, hx1, hx2, hx3⟩ := own_formB o3
    have wpT := Lib.hid (Still.trans wpbT.out t3)
    have wpS := Lib.hid (Still.trans wpbS.out t3)
    have wpL := Lib.hid (RowsR.of_own o3 r3)
    clear o3 r3 t3 HSP hx1 hx2
    refine hK'.out _ _ (fun _ _ => BX5.out _ wpT.out) ?_
    clear hK' K'
    try simp only [Act.put, List.setIfInBounds_toArray, List.set_cons_zero, List.set_cons_succ]
    refine wpLate_pure (i := 6) (v := .tuple #[.slice wpG (chunks s (l1 ++ l3)).length wpk, .int .i64 0]) rfl (by kernel_rfl) (by kernel_rfl) (by kernel_rfl) (by kernel_rfl) (fun _ _ _ h => h) (Or.inl ⟨by kernel_rfl, fun w _ => by go_simp⟩) ?_
    try simp only [Act.put, List.setIfInBounds_toArray, List.set_cons_zero, List.set_cons_succ]
    refine wpLate_pure (i := 7) (v := .slice wpG (chunks s (l1 ++ l3)).length wpk) rfl (by kernel_rfl) (by kernel_rfl) (by kernel_rfl) (by kernel_rfl) (fun _ _ _ h => h) (Or.inl ⟨by kernel_rfl, fun w _ => by go_simp⟩) ?_
    try simp only [Act.put, List.setIfInBounds_toArray, List.set_cons_zero, List.set_cons_succ]
    refine wpLate_pure (i := 8) (v := .int .i64 0) rfl (by kernel_rfl) (by kernel_rfl) (by kernel_rfl) (by kernel_rfl) (fun _ _ _ h => h) (Or.inl ⟨by kernel_rfl, fun w _ => by go_simp⟩) ?_
    try simp only [Act.put, List.setIfInBounds_toArray, List.set_cons_zero, List.set_cons_succ]
    refine wpLate_pure (i := 9) (v := .slice wpG (chunks s (l1 ++ l3)).length wpk) rfl (by kernel_rfl) (by kernel_rfl) (by kernel_rfl) (by kernel_rfl) (fun _ _ _ h => h) (Or.inl ⟨by kernel_rfl, fun w _ => by go_simp⟩) ?_
    try simp only [Act.put, List.setIfInBounds_toArray, List.set_cons_zero, List.set_cons_succ]
    refine wpLate_pure (i := 10) (v := .int .i64 0) rfl (by kernel_rfl) (by kernel_rfl) (by kernel_rfl) (by kernel_rfl) (fun _ _ _ h => h) (Or.inl ⟨by kernel_rfl, fun w _ => by go_simp⟩) ?_
    try simp only [Act.put, List.setIfInBounds_toArray, List.set_cons_zero, List.set_cons_succ]
    refine wpLate_done (by kernel_rfl) ?_ _
    clear hHeld
    go_simp
    go_wp2_with fail
    have HSX : (wp.drew).cell? ⟨w.heap.size, 0, none⟩ = some (.int .i64 (s.lt : Nat)) ∧ (wp.drew).cell? ⟨w.heap.size, 1, none⟩ = some (.int .i64 (s.mt : Nat)) ∧ (wp.drew).cell? ⟨w.heap.size, 2, none⟩ = some (.int .i64 (s.k : Nat)) ∧ (wp.drew).cell? ⟨w.heap.size, 3, none⟩ = some (.int .i64 (s.n : Nat)) ∧ (wp.drew).cell? ⟨w.heap.size, 4, none⟩ = some (.int .u32 (s.seed : Nat)) := BX5.out _ (Still.trans wpT.out ((Still.refl _).drew))
    refine wp_region_late (S := fun W => W.cell? ⟨w.heap.size, 0, none⟩ = some (.int .i64 (s.lt : Nat)) ∧ W.cell? ⟨w.heap.size, 1, none⟩ = some (.int .i64 (s.mt : Nat)) ∧ W.cell? ⟨w.heap.size, 2, none⟩ = some (.int .i64 (s.k : Nat)) ∧ W.cell? ⟨w.heap.size, 3, none⟩ = some (.int .i64 (s.n : Nat)) ∧ W.cell? ⟨w.heap.size, 4, none⟩ = some (.int .u32 (s.seed : Nat))) [] (by kernel_rfl) HSX (fun hHeld => ?_)
    clear HSX
    try simp only [Act.put, List.setIfInBounds_toArray, List.set_cons_zero, List.set_cons_succ]
    have HCP := Lib.hid (copy_any A2 n2 cap2 l2 wp.drew w.heap.size (RS2.out.reads.still (Nat.le_refl _) (Still.trans ST.out (Still.trans wpT.out ((Still.refl _).drew)))) (by omega) (fun e => RS2.out.nil e))
    refine wpLate_pure (i := 1) (v := .slice A2 n2 cap2) rfl (by kernel_rfl) (by kernel_rfl) (by kernel_rfl) (by kernel_rfl) (fun _ _ _ h => h) (Or.inl ⟨by kernel_rfl, fun w _ => by go_simp⟩) ?_
    try simp only [Act.put, List.setIfInBounds_toArray, List.set_cons_zero, List.set_cons_succ]
    refine wpLate_pure (i := 3) (v := .slice A3 n3 cap3) rfl (by kernel_rfl) (by kernel_rfl) (by kernel_rfl) (by kernel_rfl) (fun _ _ _ h => h) (Or.inl ⟨by kernel_rfl, fun w _ => by go_simp⟩) ?_
    try simp only [Act.put, List.setIfInBounds_toArray, List.set_cons_zero, List.set_cons_succ]
    refine wpLate_take (i := 0) (v := .agg #[.int .i64 (s.lt : Nat), .int .i64 (s.mt : Nat), .int .i64 (s.k : Nat), .int .i64 (s.n : Nat), .int .u32 (s.seed : Nat)]) [] rfl (by kernel_rfl) (by kernel_rfl) (by kernel_rfl) (by kernel_rfl) (by kernel_rfl) (by decide) (fun _ _ _ h => h) (Or.inl ⟨by kernel_rfl, fun w hS => by obtain ⟨h0, h1, h2, h3, h4⟩ := hS; go_simp⟩) (by assumption) (fun hHeld => ?_)
    try simp only [Act.put, List.setIfInBounds_toArray, List.set_cons_zero, List.set_cons_succ]
    refine wpLate_one (i := 2) (o := ⟨some 35, .call { callee := .value (.func 11), args := #[.tmp 34], argTypes := #[25] }, _, _, _, none⟩) (by kernel_rfl) rfl (fun K' hK' => ?_)
    go_simp
    go_wp2_with (go_at_call 11; refine HCP.out.mono ?_; rintro e wqa ⟨⟨wqv, rfl, o1⟩, t1⟩)
    have wqaT := Lib.hid (Still.trans wpT.out (Still.trans ((Still.refl _).drew) t1))
    have wqaO := Lib.hid (own_base o1 (lo := w.heap.size) (Nat.le_trans ST.out.size (Still.trans wpT.out ((Still.refl _).drew)).size))
    have wqaS := Lib.hid (And.intro t1 (Nat.le_trans ST.out.size (Still.trans wpT.out ((Still.refl _).drew)).size))
    have wqaP := Lib.hid o1
    clear HCP t1 o1
    refine hK'.out _ _ (fun _ _ => BX5.out _ wqaT.out) ?_
    clear hK' K'
    try simp only [Act.put, List.setIfInBounds_toArray, List.set_cons_zero, List.set_cons_succ]
    refine wpLate_one (i := 4) (o := ⟨some 37, .call { callee := .builtin .append, args := #[.tmp 35, .tmp 36], argTypes := #[25, 25] }, _, _, _, none⟩) (by kernel_rfl) rfl (fun K' hK' => ?_)
    rw [if_pos (by kernel_rfl)]
    have HXN : n2 + n3 ≤ 140737488355328 := by omega
    have HXS := wqaS.out.1.size
    with_reducible refine step_adds_at wqa (.tmp 35) (.tmp 36) (by kernel_rfl) wp.drew.heap.size wqv n2 l2 (by kernel_rfl) wqaP.out A3 n3 cap3 w.heap.size l3 (by kernel_rfl) (RS3.out.reads.still (Nat.le_refl _) (Still.trans ST.out wqaT.out)) (fun e => (RS3.out.nil e).2) HXN HXS ?_
    intro wqx wqb o2 g2 _
    obtain ⟨wqA, wqc, rfl, hx1, hx2, hx3⟩ := own_form o2
    have wqbT := Lib.hid (Still.trans wpT.out (Still.trans ((Still.refl _).drew) (wqaS.out.1.grown g2 HXS (fun k hk => own_block_ge wqaP.out k hk))))
    have wqbS := Lib.hid (Still.trans ((Still.refl wp).drew) (wqaS.out.1.grown g2 HXS (fun k hk => own_block_ge wqaP.out k hk)))
    have wqbR := Lib.hid (RowP.of_own o2)
    clear o2 g2 HXN HXS hx1 hx2 hx3
    refine hK'.out _ _ (fun _ _ => BX5.out _ wqbT.out) ?_
    clear hK' K'
    try simp only [Act.put, List.setIfInBounds_toArray, List.set_cons_zero, List.set_cons_succ]
    have HSP := Lib.hid (split_yes s OK.out wqA (n2 + n3) wqc (l2 ++ l3) wqb (wqbR.out.mono (fun _ _ _ => trivial)) (by omega))
    refine wpLate_one (i := 5) (o := ⟨some 38, .call { callee := .value (.func 12), args := #[.tmp 33, .tmp 37], argTypes := #[24, 25] }, _, _, _, none⟩) (by kernel_rfl) rfl (fun K' hK' => ?_)
    go_simp
    go_wp2_with (go_at_call 12; refine HSP.out.mono ?_; rintro e wq ⟨wql, xs, rfl, o3, r3, t3⟩)
    obtain ⟨wqG, wqk, rfl, hx1, hx2, hx3⟩ := own_formB o3
    have wqT := Lib.hid (Still.trans wqbT.out t3)
    have wqS := Lib.hid (Still.trans wqbS.out t3)
    have wqL := Lib.hid (RowsR.of_own o3 r3)
    clear o3 r3 t3 HSP hx1 hx2
    refine hK'.out _ _ (fun _ _ => BX5.out _ wqT.out) ?_
    clear hK' K'
    try simp only [Act.put, List.setIfInBounds_toArray, List.set_cons_zero, List.set_cons_succ]
    refine wpLate_pure (i := 6) (v := .tuple #[.slice wqG (chunks s (l2 ++ l3)).length wqk, .int .i64 0]) rfl (by kernel_rfl) (by kernel_rfl) (by kernel_rfl) (by kernel_rfl) (fun _ _ _ h => h) (Or.inl ⟨by kernel_rfl, fun w _ => by go_simp⟩) ?_
    try simp only [Act.put, List.setIfInBounds_toArray, List.set_cons_zero, List.set_cons_succ]
    refine wpLate_pure (i := 7) (v := .slice wqG (chunks s (l2 ++ l3)).length wqk) rfl (by kernel_rfl) (by kernel_rfl) (by kernel_rfl) (by kernel_rfl) (fun _ _ _ h => h) (Or.inl ⟨by kernel_rfl, fun w _ => by go_simp⟩) ?_
    try simp only [Act.put, List.setIfInBounds_toArray, List.set_cons_zero, List.set_cons_succ]
    refine wpLate_pure (i := 8) (v := .int .i64 0) rfl (by kernel_rfl) (by kernel_rfl) (by kernel_rfl) (by kernel_rfl) (fun _ _ _ h => h) (Or.inl ⟨by kernel_rfl, fun w _ => by go_simp⟩) ?_
    try simp only [Act.put, List.setIfInBounds_toArray, List.set_cons_zero, List.set_cons_succ]
    refine wpLate_pure (i := 9) (v := .slice wqG (chunks s (l2 ++ l3)).length wqk) rfl (by kernel_rfl) (by kernel_rfl) (by kernel_rfl) (by kernel_rfl) (fun _ _ _ h => h) (Or.inl ⟨by kernel_rfl, fun w _ => by go_simp⟩) ?_
    try simp only [Act.put, List.setIfInBounds_toArray, List.set_cons_zero, List.set_cons_succ]
    refine wpLate_pure (i := 10) (v := .int .i64 0) rfl (by kernel_rfl) (by kernel_rfl) (by kernel_rfl) (by kernel_rfl) (fun _ _ _ h => h) (Or.inl ⟨by kernel_rfl, fun w _ => by go_simp⟩) ?_
    try simp only [Act.put, List.setIfInBounds_toArray, List.set_cons_zero, List.set_cons_succ]
    refine wpLate_done (by kernel_rfl) ?_ _
    clear hHeld
    go_simp
    have ⟨b0, b1, b2, b3, b4⟩ := BX5.out _ wqT.out
    go_wp2_with fail
    refine (split_yes s OK.out A3 n3 cap3 l3 wq (((RowP.of_rowS RS3.out (Nat.le_refl _)).still (Still.trans ST.out wqT.out)).mono (fun _ _ _ => trivial)) (by omega)).mono ?_
    rintro e wr ⟨wrl, xs, rfl, o3, r3, t3⟩
    obtain ⟨wrG, wrk, rfl, hx1, hx2, hx3⟩ := own_formB o3
    have wrT := Lib.hid (Still.trans wqT.out t3)
    have wrL := Lib.hid (RowsR.of_own o3 r3)
    have wpL' := Lib.hid (wpL.out.still (Still.trans wqS.out t3))
    have wqL' := Lib.hid (wqL.out.still t3)
    clear o3 r3 t3 hx1 hx2 wpL wqL
    clear b0 b1 b2 b3 b4
    have SH3 := Lib.hid (chunks_short s l3 (by have := RS3.out.reads.1; omega))
    have HL1 : (chunks s (l1 ++ l3)).length ≤ 2500 := by have := chunks_len s (l1 ++ l3); have := RS1.out.reads.1; have := RS3.out.reads.1; simp only [List.length_append] at *; omega
    have HL2 : (chunks s (l2 ++ l3)).length ≤ 2500 := by have := chunks_len s (l2 ++ l3); have := RS2.out.reads.1; have := RS3.out.reads.1; simp only [List.length_append] at *; omega
    have HL3 : (chunks s l3).length ≤ 2500 := by have := chunks_len s l3; have := RS3.out.reads.1; omega
    have FP := Lib.hid (fun W (t : Still wr W) => from_any _ _ _ _ n1 W (wpL'.out.still t) (by omega) (by rw [chunks_join]; have := RS1.out.reads.1; have := RS3.out.reads.1; simp only [List.length_append]; omega) (by omega))
    have FQ := Lib.hid (fun W (t : Still wr W) => from_any _ _ _ _ n2 W (wqL'.out.still t) (by omega) (by rw [chunks_join]; have := RS2.out.reads.1; have := RS3.out.reads.1; simp only [List.length_append]; omega) (by omega))
    go_wp2_with fail
    refine (FP.out _ (Still.refl _)).mono ?_
    rintro e wr ⟨⟨rp, rfl, hp⟩, rfl⟩
    have HPP := Lib.hid hp
    clear hp
    go_wp2_with fail
    refine (FQ.out _ (Still.refl _)).mono ?_
    rintro e wr ⟨⟨rq, rfl, hq⟩, rfl⟩
    have hp := HPP.out
    clear HPP FP FQ
    rcases hp with rfl | ⟨p, rfl, hp1, hp2⟩
    · rcases hq with rfl | ⟨q, rfl, hq1, hq2⟩
      · have wq0 := wrT
        have wvT := Lib.hid (Still.refl wr)
        go_wp2_with fail
        refine wp_region_late (S := fun _ => True) [] (by kernel_rfl) trivial (fun hHeld => ?_)
        try simp only [Act.put, List.setIfInBounds_toArray, List.set_cons_zero, List.set_cons_succ]
        refine wpLate_pure (i := 0) (v := .int .i64 (-1)) rfl (by kernel_rfl) (by kernel_rfl) (by kernel_rfl) (by kernel_rfl) (fun _ _ _ h => h) (Or.inl ⟨by kernel_rfl, fun w _ => by go_simp⟩) ?_
        try simp only [Act.put, List.setIfInBounds_toArray, List.set_cons_zero, List.set_cons_succ]
        refine wpLate_pure (i := 1) (v := .bool true) rfl (by kernel_rfl) (by kernel_rfl) (by kernel_rfl) (by kernel_rfl) (fun _ _ _ h => h) (Or.inl ⟨by kernel_rfl, fun w _ => by go_simp⟩) ?_
        try simp only [Act.put, List.setIfInBounds_toArray, List.set_cons_zero, List.set_cons_succ]
        refine wpLate_pure (i := 2) (v := .bool true) rfl (by kernel_rfl) (by kernel_rfl) (by kernel_rfl) (by kernel_rfl) (fun _ _ _ h => h) (Or.inl ⟨by kernel_rfl, fun w _ => by go_simp⟩) ?_
        try simp only [Act.put, List.setIfInBounds_toArray, List.set_cons_zero, List.set_cons_succ]
        refine wpLate_pure (i := 3) (v := undef) rfl (by kernel_rfl) (by kernel_rfl) (by kernel_rfl) (by kernel_rfl) (fun _ _ _ h => h) (Or.inr ⟨by kernel_rfl, rfl⟩) ?_
        try simp only [Act.put, List.setIfInBounds_toArray, List.set_cons_zero, List.set_cons_succ]
        refine wpLate_pure (i := 4) (v := undef) rfl (by kernel_rfl) (by kernel_rfl) (by kernel_rfl) (by kernel_rfl) (fun _ _ _ h => h) (Or.inr ⟨by kernel_rfl, rfl⟩) ?_
        try simp only [Act.put, List.setIfInBounds_toArray, List.set_cons_zero, List.set_cons_succ]
        refine wpLate_pure (i := 5) (v := .bool true) rfl (by kernel_rfl) (by kernel_rfl) (by kernel_rfl) (by kernel_rfl) (fun _ _ _ h => h) (Or.inl ⟨by kernel_rfl, fun w _ => by go_simp⟩) ?_
        try simp only [Act.put, List.setIfInBounds_toArray, List.set_cons_zero, List.set_cons_succ]
        refine wpLate_pure (i := 6) (v := .bool true) rfl (by kernel_rfl) (by kernel_rfl) (by kernel_rfl) (by kernel_rfl) (fun _ _ _ h => h) (Or.inl ⟨by kernel_rfl, fun w _ => by go_simp⟩) ?_
        try simp only [Act.put, List.setIfInBounds_toArray, List.set_cons_zero, List.set_cons_succ]
        refine wpLate_pure (i := 7) (v := undef) rfl (by kernel_rfl) (by kernel_rfl) (by kernel_rfl) (by kernel_rfl) (fun _ _ _ h => h) (Or.inr ⟨by kernel_rfl, rfl⟩) ?_
        try simp only [Act.put, List.setIfInBounds_toArray, List.set_cons_zero, List.set_cons_succ]
        refine wpLate_pure (i := 8) (v := undef) rfl (by kernel_rfl) (by kernel_rfl) (by kernel_rfl) (by kernel_rfl) (fun _ _ _ h => h) (Or.inr ⟨by kernel_rfl, rfl⟩) ?_
        try simp only [Act.put, List.setIfInBounds_toArray, List.set_cons_zero, List.set_cons_succ]
        refine wpLate_pure (i := 9) (v := undef) rfl (by kernel_rfl) (by kernel_rfl) (by kernel_rfl) (by kernel_rfl) (fun _ _ _ h => h) (Or.inr ⟨by kernel_rfl, rfl⟩) ?_
        try simp only [Act.put, List.setIfInBounds_toArray, List.set_cons_zero, List.set_cons_succ]
        refine wpLate_pure (i := 10) (v := undef) rfl (by kernel_rfl) (by kernel_rfl) (by kernel_rfl) (by kernel_rfl) (fun _ _ _ h => h) (Or.inr ⟨by kernel_rfl, rfl⟩) ?_
        try simp only [Act.put, List.setIfInBounds_toArray, List.set_cons_zero, List.set_cons_succ]
        refine wpLate_pure (i := 11) (v := undef) rfl (by kernel_rfl) (by kernel_rfl) (by kernel_rfl) (by kernel_rfl) (fun _ _ _ h => h) (Or.inr ⟨by kernel_rfl, rfl⟩) ?_
        try simp only [Act.put, List.setIfInBounds_toArray, List.set_cons_zero, List.set_cons_succ]
        refine wpLate_pure (i := 12) (v := undef) rfl (by kernel_rfl) (by kernel_rfl) (by kernel_rfl) (by kernel_rfl) (fun _ _ _ h => h) (Or.inr ⟨by kernel_rfl, rfl⟩) ?_
        try simp only [Act.put, List.setIfInBounds_toArray, List.set_cons_zero, List.set_cons_succ]
        refine wpLate_pure (i := 13) (v := undef) rfl (by kernel_rfl) (by kernel_rfl) (by kernel_rfl) (by kernel_rfl) (fun _ _ _ h => h) (Or.inr ⟨by kernel_rfl, rfl⟩) ?_
        try simp only [Act.put, List.setIfInBounds_toArray, List.set_cons_zero, List.set_cons_succ]
        refine wpLate_pure (i := 14) (v := .bool true) rfl (by kernel_rfl) (by kernel_rfl) (by kernel_rfl) (by kernel_rfl) (fun _ _ _ h => h) (Or.inl ⟨by kernel_rfl, fun w _ => by go_simp⟩) ?_
        try simp only [Act.put, List.setIfInBounds_toArray, List.set_cons_zero, List.set_cons_succ]
        refine wpLate_pure (i := 15) (v := .bool true) rfl (by kernel_rfl) (by kernel_rfl) (by kernel_rfl) (by kernel_rfl) (fun _ _ _ h => h) (Or.inl ⟨by kernel_rfl, fun w _ => by go_simp⟩) ?_
        try simp only [Act.put, List.setIfInBounds_toArray, List.set_cons_zero, List.set_cons_succ]
        refine wpLate_one (i := 16) (o := ⟨some 114, .call { callee := .value (.func 16), args := #[], argTypes := #[] }, _, _, _, some (15, true)⟩) (by kernel_rfl) rfl (fun K' hK' => ?_)
        rw [if_pos (by kernel_rfl)]
        go_simp
        go_wp2_with (go_at_call 16; refine (LV.out _).mono ?_; rintro e wl ⟨rfl, tl⟩)
        have wlT := Lib.hid (Still.trans ST.out (Still.trans wrT.out (Still.trans wvT.out (Still.trans ((Still.refl _).drew) tl))))
        clear tl
        refine hK'.out _ _ (fun _ _ => trivial) ?_
        clear hK' K'
        try simp only [Act.put, List.setIfInBounds_toArray, List.set_cons_zero, List.set_cons_succ]
        refine wpLate_pure (i := 17) (v := .bool true) rfl (by kernel_rfl) (by kernel_rfl) (by kernel_rfl) (by kernel_rfl) (fun _ _ _ h => h) (Or.inl ⟨by kernel_rfl, fun w _ => by go_simp⟩) ?_
        try simp only [Act.put, List.setIfInBounds_toArray, List.set_cons_zero, List.set_cons_succ]
        refine wpLate_pure (i := 18) (v := .bool true) rfl (by kernel_rfl) (by kernel_rfl) (by kernel_rfl) (by kernel_rfl) (fun _ _ _ h => h) (Or.inl ⟨by kernel_rfl, fun w _ => by go_simp⟩) ?_
        try simp only [Act.put, List.setIfInBounds_toArray, List.set_cons_zero, List.set_cons_succ]
        refine wpLate_done (by kernel_rfl) ?_ _
        go_simp
        go_wp2_with fail
        go_ret
        exact ⟨rfl, wlT.out⟩
      · by_cases hcq : wqk = q
        · have wq0 := wrT
          have EQ := chunks_at s l2 l3 q (hq2.trans RS2.out.reads.1.symm)
          have zq1 : (0 : Int) ≤ (q : Int) := by omega
          have zq2 : (q : Int) ≤ ((chunks s (l2 ++ l3)).length : Int) := by omega
          have zq3 : (q : Int) ≤ (wqk : Int) := by have := wqL'.out.fit; omega
          have RQ := Lib.hid (wqL'.out.cute hq1 hcq)
          have HQS := Lib.hid (fun W (t : Still wr W) => rows_same _ _ _ _ _ _ _ _ W (RQ.out.still t) (wrL.out.still t) (by omega) (by omega) (by rw [EQ]; exact SH3.out) SH3.out)
          rw [decide_eq_true EQ] at HQS
          have HEQ := Lib.hid EQ
          have HQ1 := Lib.hid hq1
          clear EQ hq2 hq1
          subst hcq
          have wvT := Lib.hid (Still.refl wr)
          go_wp2_with fail
          refine (HQS.out _ wvT.out).mono ?_
          rintro e wy ⟨rfl, mc, hwy⟩
          have wvT := Lib.hid (show Still wr wy from hwy ▸ still_drewN wvT.out mc)
          clear hwy
          go_wp2_with fail
          refine wp_region_late (S := fun _ => True) [] (by kernel_rfl) trivial (fun hHeld => ?_)
          try simp only [Act.put, List.setIfInBounds_toArray, List.set_cons_zero, List.set_cons_succ]
          refine wpLate_pure (i := 0) (v := .int .i64 (-1)) rfl (by kernel_rfl) (by kernel_rfl) (by kernel_rfl) (by kernel_rfl) (fun _ _ _ h => h) (Or.inl ⟨by kernel_rfl, fun w _ => by go_simp⟩) ?_
          try simp only [Act.put, List.setIfInBounds_toArray, List.set_cons_zero, List.set_cons_succ]
          refine wpLate_pure (i := 1) (v := .bool true) rfl (by kernel_rfl) (by kernel_rfl) (by kernel_rfl) (by kernel_rfl) (fun _ _ _ h => h) (Or.inl ⟨by kernel_rfl, fun w _ => by go_simp⟩) ?_
          try simp only [Act.put, List.setIfInBounds_toArray, List.set_cons_zero, List.set_cons_succ]
          refine wpLate_pure (i := 2) (v := .bool true) rfl (by kernel_rfl) (by kernel_rfl) (by kernel_rfl) (by kernel_rfl) (fun _ _ _ h => h) (Or.inl ⟨by kernel_rfl, fun w _ => by go_simp⟩) ?_
          try simp only [Act.put, List.setIfInBounds_toArray, List.set_cons_zero, List.set_cons_succ]
          refine wpLate_pure (i := 3) (v := undef) rfl (by kernel_rfl) (by kernel_rfl) (by kernel_rfl) (by kernel_rfl) (fun _ _ _ h => h) (Or.inr ⟨by kernel_rfl, rfl⟩) ?_
          try simp only [Act.put, List.setIfInBounds_toArray, List.set_cons_zero, List.set_cons_succ]
          refine wpLate_pure (i := 4) (v := undef) rfl (by kernel_rfl) (by kernel_rfl) (by kernel_rfl) (by kernel_rfl) (fun _ _ _ h => h) (Or.inr ⟨by kernel_rfl, rfl⟩) ?_
          try simp only [Act.put, List.setIfInBounds_toArray, List.set_cons_zero, List.set_cons_succ]
          refine wpLate_pure (i := 5) (v := .bool true) rfl (by kernel_rfl) (by kernel_rfl) (by kernel_rfl) (by kernel_rfl) (fun _ _ _ h => h) (Or.inl ⟨by kernel_rfl, fun w _ => by go_simp⟩) ?_
          try simp only [Act.put, List.setIfInBounds_toArray, List.set_cons_zero, List.set_cons_succ]
          refine wpLate_pure (i := 6) (v := .bool true) rfl (by kernel_rfl) (by kernel_rfl) (by kernel_rfl) (by kernel_rfl) (fun _ _ _ h => h) (Or.inl ⟨by kernel_rfl, fun w _ => by go_simp⟩) ?_
          try simp only [Act.put, List.setIfInBounds_toArray, List.set_cons_zero, List.set_cons_succ]
          refine wpLate_pure (i := 7) (v := undef) rfl (by kernel_rfl) (by kernel_rfl) (by kernel_rfl) (by kernel_rfl) (fun _ _ _ h => h) (Or.inr ⟨by kernel_rfl, rfl⟩) ?_
          try simp only [Act.put, List.setIfInBounds_toArray, List.set_cons_zero, List.set_cons_succ]
          refine wpLate_pure (i := 8) (v := undef) rfl (by kernel_rfl) (by kernel_rfl) (by kernel_rfl) (by kernel_rfl) (fun _ _ _ h => h) (Or.inr ⟨by kernel_rfl, rfl⟩) ?_
          try simp only [Act.put, List.setIfInBounds_toArray, List.set_cons_zero, List.set_cons_succ]
          refine wpLate_pure (i := 9) (v := undef) rfl (by kernel_rfl) (by kernel_rfl) (by kernel_rfl) (by kernel_rfl) (fun _ _ _ h => h) (Or.inr ⟨by kernel_rfl, rfl⟩) ?_
          try simp only [Act.put, List.setIfInBounds_toArray, List.set_cons_zero, List.set_cons_succ]
          refine wpLate_pure (i := 10) (v := undef) rfl (by kernel_rfl) (by kernel_rfl) (by kernel_rfl) (by kernel_rfl) (fun _ _ _ h => h) (Or.inr ⟨by kernel_rfl, rfl⟩) ?_
          try simp only [Act.put, List.setIfInBounds_toArray, List.set_cons_zero, List.set_cons_succ]
          refine wpLate_pure (i := 11) (v := undef) rfl (by kernel_rfl) (by kernel_rfl) (by kernel_rfl) (by kernel_rfl) (fun _ _ _ h => h) (Or.inr ⟨by kernel_rfl, rfl⟩) ?_
          try simp only [Act.put, List.setIfInBounds_toArray, List.set_cons_zero, List.set_cons_succ]
          refine wpLate_pure (i := 12) (v := undef) rfl (by kernel_rfl) (by kernel_rfl) (by kernel_rfl) (by kernel_rfl) (fun _ _ _ h => h) (Or.inr ⟨by kernel_rfl, rfl⟩) ?_
          try simp only [Act.put, List.setIfInBounds_toArray, List.set_cons_zero, List.set_cons_succ]
          refine wpLate_pure (i := 13) (v := undef) rfl (by kernel_rfl) (by kernel_rfl) (by kernel_rfl) (by kernel_rfl) (fun _ _ _ h => h) (Or.inr ⟨by kernel_rfl, rfl⟩) ?_
          try simp only [Act.put, List.setIfInBounds_toArray, List.set_cons_zero, List.set_cons_succ]
          refine wpLate_pure (i := 14) (v := .bool true) rfl (by kernel_rfl) (by kernel_rfl) (by kernel_rfl) (by kernel_rfl) (fun _ _ _ h => h) (Or.inl ⟨by kernel_rfl, fun w _ => by go_simp⟩) ?_
          try simp only [Act.put, List.setIfInBounds_toArray, List.set_cons_zero, List.set_cons_succ]
          refine wpLate_pure (i := 15) (v := .bool true) rfl (by kernel_rfl) (by kernel_rfl) (by kernel_rfl) (by kernel_rfl) (fun _ _ _ h => h) (Or.inl ⟨by kernel_rfl, fun w _ => by go_simp⟩) ?_
          try simp only [Act.put, List.setIfInBounds_toArray, List.set_cons_zero, List.set_cons_succ]
          refine wpLate_one (i := 16) (o := ⟨some 114, .call { callee := .value (.func 16), args := #[], argTypes := #[] }, _, _, _, some (15, true)⟩) (by kernel_rfl) rfl (fun K' hK' => ?_)
          rw [if_pos (by kernel_rfl)]
          go_simp
          go_wp2_with (go_at_call 16; refine (LV.out _).mono ?_; rintro e wl ⟨rfl, tl⟩)
          have wlT := Lib.hid (Still.trans ST.out (Still.trans wrT.out (Still.trans wvT.out (Still.trans ((Still.refl _).drew) tl))))
          clear tl
          refine hK'.out _ _ (fun _ _ => trivial) ?_
          clear hK' K'
          try simp only [Act.put, List.setIfInBounds_toArray, List.set_cons_zero, List.set_cons_succ]
          refine wpLate_pure (i := 17) (v := .bool true) rfl (by kernel_rfl) (by kernel_rfl) (by kernel_rfl) (by kernel_rfl) (fun _ _ _ h => h) (Or.inl ⟨by kernel_rfl, fun w _ => by go_simp⟩) ?_
          try simp only [Act.put, List.setIfInBounds_toArray, List.set_cons_zero, List.set_cons_succ]
          refine wpLate_pure (i := 18) (v := .bool true) rfl (by kernel_rfl) (by kernel_rfl) (by kernel_rfl) (by kernel_rfl) (fun _ _ _ h => h) (Or.inl ⟨by kernel_rfl, fun w _ => by go_simp⟩) ?_
          try simp only [Act.put, List.setIfInBounds_toArray, List.set_cons_zero, List.set_cons_succ]
          refine wpLate_done (by kernel_rfl) ?_ _
          go_simp
          go_wp2_with fail
          go_ret
          exact ⟨rfl, wlT.out⟩
        · have wq0 := wrT
          have EQ := chunks_at s l2 l3 q (hq2.trans RS2.out.reads.1.symm)
          have zq1 : (0 : Int) ≤ (q : Int) := by omega
          have zq2 : (q : Int) ≤ ((chunks s (l2 ++ l3)).length : Int) := by omega
          have zq3 : (q : Int) ≤ (wqk : Int) := by have := wqL'.out.fit; omega
          have RQ := Lib.hid (wqL'.out.dropk hq1)
          have HQS := Lib.hid (fun W (t : Still wr W) => rows_same _ _ _ _ _ _ _ _ W (RQ.out.still t) (wrL.out.still t) (by omega) (by omega) (by rw [EQ]; exact SH3.out) SH3.out)
          rw [decide_eq_true EQ] at HQS
          have HEQ := Lib.hid EQ
          have HQ1 := Lib.hid hq1
          clear EQ hq2 hq1
          have wvT := Lib.hid (Still.refl wr)
          go_wp2_with fail
          refine (HQS.out _ wvT.out).mono ?_
          rintro e wy ⟨rfl, mc, hwy⟩
          have wvT := Lib.hid (show Still wr wy from hwy ▸ still_drewN wvT.out mc)
          clear hwy
          go_wp2_with fail
          refine wp_region_late (S := fun _ => True) [] (by kernel_rfl) trivial (fun hHeld => ?_)
          try simp only [Act.put, List.setIfInBounds_toArray, List.set_cons_zero, List.set_cons_succ]
          refine wpLate_pure (i := 0) (v := .int .i64 (-1)) rfl (by kernel_rfl) (by kernel_rfl) (by kernel_rfl) (by kernel_rfl) (fun _ _ _ h => h) (Or.inl ⟨by kernel_rfl, fun w _ => by go_simp⟩) ?_
          try simp only [Act.put, List.setIfInBounds_toArray, List.set_cons_zero, List.set_cons_succ]
          refine wpLate_pure (i := 1) (v := .bool true) rfl (by kernel_rfl) (by kernel_rfl) (by kernel_rfl) (by kernel_rfl) (fun _ _ _ h => h) (Or.inl ⟨by kernel_rfl, fun w _ => by go_simp⟩) ?_
          try simp only [Act.put, List.setIfInBounds_toArray, List.set_cons_zero, List.set_cons_succ]
          refine wpLate_pure (i := 2) (v := .bool true) rfl (by kernel_rfl) (by kernel_rfl) (by kernel_rfl) (by kernel_rfl) (fun _ _ _ h => h) (Or.inl ⟨by kernel_rfl, fun w _ => by go_simp⟩) ?_
          try simp only [Act.put, List.setIfInBounds_toArray, List.set_cons_zero, List.set_cons_succ]
          refine wpLate_pure (i := 3) (v := undef) rfl (by kernel_rfl) (by kernel_rfl) (by kernel_rfl) (by kernel_rfl) (fun _ _ _ h => h) (Or.inr ⟨by kernel_rfl, rfl⟩) ?_
          try simp only [Act.put, List.setIfInBounds_toArray, List.set_cons_zero, List.set_cons_succ]
          refine wpLate_pure (i := 4) (v := undef) rfl (by kernel_rfl) (by kernel_rfl) (by kernel_rfl) (by kernel_rfl) (fun _ _ _ h => h) (Or.inr ⟨by kernel_rfl, rfl⟩) ?_
          try simp only [Act.put, List.setIfInBounds_toArray, List.set_cons_zero, List.set_cons_succ]
          refine wpLate_pure (i := 5) (v := .bool true) rfl (by kernel_rfl) (by kernel_rfl) (by kernel_rfl) (by kernel_rfl) (fun _ _ _ h => h) (Or.inl ⟨by kernel_rfl, fun w _ => by go_simp⟩) ?_
          try simp only [Act.put, List.setIfInBounds_toArray, List.set_cons_zero, List.set_cons_succ]
          refine wpLate_pure (i := 6) (v := .bool true) rfl (by kernel_rfl) (by kernel_rfl) (by kernel_rfl) (by kernel_rfl) (fun _ _ _ h => h) (Or.inl ⟨by kernel_rfl, fun w _ => by go_simp⟩) ?_
          try simp only [Act.put, List.setIfInBounds_toArray, List.set_cons_zero, List.set_cons_succ]
          refine wpLate_pure (i := 7) (v := undef) rfl (by kernel_rfl) (by kernel_rfl) (by kernel_rfl) (by kernel_rfl) (fun _ _ _ h => h) (Or.inr ⟨by kernel_rfl, rfl⟩) ?_
          try simp only [Act.put, List.setIfInBounds_toArray, List.set_cons_zero, List.set_cons_succ]
          refine wpLate_pure (i := 8) (v := undef) rfl (by kernel_rfl) (by kernel_rfl) (by kernel_rfl) (by kernel_rfl) (fun _ _ _ h => h) (Or.inr ⟨by kernel_rfl, rfl⟩) ?_
          try simp only [Act.put, List.setIfInBounds_toArray, List.set_cons_zero, List.set_cons_succ]
          refine wpLate_pure (i := 9) (v := undef) rfl (by kernel_rfl) (by kernel_rfl) (by kernel_rfl) (by kernel_rfl) (fun _ _ _ h => h) (Or.inr ⟨by kernel_rfl, rfl⟩) ?_
          try simp only [Act.put, List.setIfInBounds_toArray, List.set_cons_zero, List.set_cons_succ]
          refine wpLate_pure (i := 10) (v := undef) rfl (by kernel_rfl) (by kernel_rfl) (by kernel_rfl) (by kernel_rfl) (fun _ _ _ h => h) (Or.inr ⟨by kernel_rfl, rfl⟩) ?_
          try simp only [Act.put, List.setIfInBounds_toArray, List.set_cons_zero, List.set_cons_succ]
          refine wpLate_pure (i := 11) (v := undef) rfl (by kernel_rfl) (by kernel_rfl) (by kernel_rfl) (by kernel_rfl) (fun _ _ _ h => h) (Or.inr ⟨by kernel_rfl, rfl⟩) ?_
          try simp only [Act.put, List.setIfInBounds_toArray, List.set_cons_zero, List.set_cons_succ]
          refine wpLate_pure (i := 12) (v := undef) rfl (by kernel_rfl) (by kernel_rfl) (by kernel_rfl) (by kernel_rfl) (fun _ _ _ h => h) (Or.inr ⟨by kernel_rfl, rfl⟩) ?_
          try simp only [Act.put, List.setIfInBounds_toArray, List.set_cons_zero, List.set_cons_succ]
          refine wpLate_pure (i := 13) (v := undef) rfl (by kernel_rfl) (by kernel_rfl) (by kernel_rfl) (by kernel_rfl) (fun _ _ _ h => h) (Or.inr ⟨by kernel_rfl, rfl⟩) ?_
          try simp only [Act.put, List.setIfInBounds_toArray, List.set_cons_zero, List.set_cons_succ]
          refine wpLate_pure (i := 14) (v := .bool true) rfl (by kernel_rfl) (by kernel_rfl) (by kernel_rfl) (by kernel_rfl) (fun _ _ _ h => h) (Or.inl ⟨by kernel_rfl, fun w _ => by go_simp⟩) ?_
          try simp only [Act.put, List.setIfInBounds_toArray, List.set_cons_zero, List.set_cons_succ]
          refine wpLate_pure (i := 15) (v := .bool true) rfl (by kernel_rfl) (by kernel_rfl) (by kernel_rfl) (by kernel_rfl) (fun _ _ _ h => h) (Or.inl ⟨by kernel_rfl, fun w _ => by go_simp⟩) ?_
          try simp only [Act.put, List.setIfInBounds_toArray, List.set_cons_zero, List.set_cons_succ]
          refine wpLate_one (i := 16) (o := ⟨some 114, .call { callee := .value (.func 16), args := #[], argTypes := #[] }, _, _, _, some (15, true)⟩) (by kernel_rfl) rfl (fun K' hK' => ?_)
          rw [if_pos (by kernel_rfl)]
          go_simp
          go_wp2_with (go_at_call 16; refine (LV.out _).mono ?_; rintro e wl ⟨rfl, tl⟩)
          have wlT := Lib.hid (Still.trans ST.out (Still.trans wrT.out (Still.trans wvT.out (Still.trans ((Still.refl _).drew) tl))))
          clear tl
          refine hK'.out _ _ (fun _ _ => trivial) ?_
          clear hK' K'
          try simp only [Act.put, List.setIfInBounds_toArray, List.set_cons_zero, List.set_cons_succ]
          refine wpLate_pure (i := 17) (v := .bool true) rfl (by kernel_rfl) (by kernel_rfl) (by kernel_rfl) (by kernel_rfl) (fun _ _ _ h => h) (Or.inl ⟨by kernel_rfl, fun w _ => by go_simp⟩) ?_
          try simp only [Act.put, List.setIfInBounds_toArray, List.set_cons_zero, List.set_cons_succ]
          refine wpLate_pure (i := 18) (v := .bool true) rfl (by kernel_rfl) (by kernel_rfl) (by kernel_rfl) (by kernel_rfl) (fun _ _ _ h => h) (Or.inl ⟨by kernel_rfl, fun w _ => by go_simp⟩) ?_
          try simp only [Act.put, List.setIfInBounds_toArray, List.set_cons_zero, List.set_cons_succ]
          refine wpLate_done (by kernel_rfl) ?_ _
          go_simp
          go_wp2_with fail
          go_ret
          exact ⟨rfl, wlT.out⟩
    · by_cases hcp : wpk = p
      · rcases hq with rfl | ⟨q, rfl, hq1, hq2⟩
        · have wq0 := wrT
          have EP := chunks_at s l1 l3 p (hp2.trans RS1.out.reads.1.symm)
          have zp1 : (0 : Int) ≤ (p : Int) := by omega
          have zp2 : (p : Int) ≤ ((chunks s (l1 ++ l3)).length : Int) := by omega
          have zp3 : (p : Int) ≤ (wpk : Int) := by have := wpL'.out.fit; omega
          have RP := Lib.hid (wpL'.out.cute hp1 hcp)
          have HPS := Lib.hid (fun W (t : Still wr W) => rows_same _ _ _ _ _ _ _ _ W (RP.out.still t) (wrL.out.still t) (by omega) (by omega) (by rw [EP]; exact SH3.out) SH3.out)
          rw [decide_eq_true EP] at HPS
          have HEP := Lib.hid EP
          have HP1 := Lib.hid hp1
          clear EP hp2 hp1
          subst hcp
          have wvT := Lib.hid (Still.refl wr)
          go_wp2_with fail
          refine (HPS.out _ wvT.out).mono ?_
          rintro e wz ⟨rfl, ma, hwz⟩
          have wvT := Lib.hid (show Still wr wz from hwz ▸ still_drewN wvT.out ma)
          clear hwz
          go_wp2_with fail
          refine wp_region_late (S := fun _ => True) [] (by kernel_rfl) trivial (fun hHeld => ?_)
          try simp only [Act.put, List.setIfInBounds_toArray, List.set_cons_zero, List.set_cons_succ]
          refine wpLate_pure (i := 0) (v := .int .i64 (wpk : Nat)) rfl (by kernel_rfl) (by kernel_rfl) (by kernel_rfl) (by kernel_rfl) (fun _ _ _ h => h) (Or.inl ⟨by kernel_rfl, fun w _ => by go_simp⟩) ?_
          try simp only [Act.put, List.setIfInBounds_toArray, List.set_cons_zero, List.set_cons_succ]
          refine wpLate_pure (i := 1) (v := .bool false) rfl (by kernel_rfl) (by kernel_rfl) (by kernel_rfl) (by kernel_rfl) (fun _ _ _ h => h) (Or.inl ⟨by kernel_rfl, fun w _ => by go_simp⟩) ?_
          try simp only [Act.put, List.setIfInBounds_toArray, List.set_cons_zero, List.set_cons_succ]
          refine wpLate_pure (i := 2) (v := .bool false) rfl (by kernel_rfl) (by kernel_rfl) (by kernel_rfl) (by kernel_rfl) (fun _ _ _ h => h) (Or.inl ⟨by kernel_rfl, fun w _ => by go_simp⟩) ?_
          try simp only [Act.put, List.setIfInBounds_toArray, List.set_cons_zero, List.set_cons_succ]
          refine wpLate_pure (i := 3) (v := .int .i64 (-1)) rfl (by kernel_rfl) (by kernel_rfl) (by kernel_rfl) (by kernel_rfl) (fun _ _ _ h => h) (Or.inl ⟨by kernel_rfl, fun w _ => by go_simp⟩) ?_
          try simp only [Act.put, List.setIfInBounds_toArray, List.set_cons_zero, List.set_cons_succ]
          refine wpLate_pure (i := 4) (v := .bool true) rfl (by kernel_rfl) (by kernel_rfl) (by kernel_rfl) (by kernel_rfl) (fun _ _ _ h => h) (Or.inl ⟨by kernel_rfl, fun w _ => by go_simp⟩) ?_
          try simp only [Act.put, List.setIfInBounds_toArray, List.set_cons_zero, List.set_cons_succ]
          refine wpLate_pure (i := 5) (v := .bool true) rfl (by kernel_rfl) (by kernel_rfl) (by kernel_rfl) (by kernel_rfl) (fun _ _ _ h => h) (Or.inl ⟨by kernel_rfl, fun w _ => by go_simp⟩) ?_
          try simp only [Act.put, List.setIfInBounds_toArray, List.set_cons_zero, List.set_cons_succ]
          refine wpLate_pure (i := 6) (v := .bool true) rfl (by kernel_rfl) (by kernel_rfl) (by kernel_rfl) (by kernel_rfl) (fun _ _ _ h => h) (Or.inl ⟨by kernel_rfl, fun w _ => by go_simp⟩) ?_
          try simp only [Act.put, List.setIfInBounds_toArray, List.set_cons_zero, List.set_cons_succ]
          refine wpLate_pure (i := 7) (v := undef) rfl (by kernel_rfl) (by kernel_rfl) (by kernel_rfl) (by kernel_rfl) (fun _ _ _ h => h) (Or.inr ⟨by kernel_rfl, rfl⟩) ?_
          try simp only [Act.put, List.setIfInBounds_toArray, List.set_cons_zero, List.set_cons_succ]
          refine wpLate_pure (i := 8) (v := undef) rfl (by kernel_rfl) (by kernel_rfl) (by kernel_rfl) (by kernel_rfl) (fun _ _ _ h => h) (Or.inr ⟨by kernel_rfl, rfl⟩) ?_
          try simp only [Act.put, List.setIfInBounds_toArray, List.set_cons_zero, List.set_cons_succ]
          refine wpLate_pure (i := 9) (v := undef) rfl (by kernel_rfl) (by kernel_rfl) (by kernel_rfl) (by kernel_rfl) (fun _ _ _ h => h) (Or.inr ⟨by kernel_rfl, rfl⟩) ?_
          try simp only [Act.put, List.setIfInBounds_toArray, List.set_cons_zero, List.set_cons_succ]
          refine wpLate_pure (i := 10) (v := undef) rfl (by kernel_rfl) (by kernel_rfl) (by kernel_rfl) (by kernel_rfl) (fun _ _ _ h => h) (Or.inr ⟨by kernel_rfl, rfl⟩) ?_
          try simp only [Act.put, List.setIfInBounds_toArray, List.set_cons_zero, List.set_cons_succ]
          refine wpLate_pure (i := 11) (v := undef) rfl (by kernel_rfl) (by kernel_rfl) (by kernel_rfl) (by kernel_rfl) (fun _ _ _ h => h) (Or.inr ⟨by kernel_rfl, rfl⟩) ?_
          try simp only [Act.put, List.setIfInBounds_toArray, List.set_cons_zero, List.set_cons_succ]
          refine wpLate_pure (i := 12) (v := undef) rfl (by kernel_rfl) (by kernel_rfl) (by kernel_rfl) (by kernel_rfl) (fun _ _ _ h => h) (Or.inr ⟨by kernel_rfl, rfl⟩) ?_
          try simp only [Act.put, List.setIfInBounds_toArray, List.set_cons_zero, List.set_cons_succ]
          refine wpLate_pure (i := 13) (v := undef) rfl (by kernel_rfl) (by kernel_rfl) (by kernel_rfl) (by kernel_rfl) (fun _ _ _ h => h) (Or.inr ⟨by kernel_rfl, rfl⟩) ?_
          try simp only [Act.put, List.setIfInBounds_toArray, List.set_cons_zero, List.set_cons_succ]
          refine wpLate_pure (i := 14) (v := .bool true) rfl (by kernel_rfl) (by kernel_rfl) (by kernel_rfl) (by kernel_rfl) (fun _ _ _ h => h) (Or.inl ⟨by kernel_rfl, fun w _ => by go_simp⟩) ?_
          try simp only [Act.put, List.setIfInBounds_toArray, List.set_cons_zero, List.set_cons_succ]
          refine wpLate_pure (i := 15) (v := .bool true) rfl (by kernel_rfl) (by kernel_rfl) (by kernel_rfl) (by kernel_rfl) (fun _ _ _ h => h) (Or.inl ⟨by kernel_rfl, fun w _ => by go_simp⟩) ?_
          try simp only [Act.put, List.setIfInBounds_toArray, List.set_cons_zero, List.set_cons_succ]
          refine wpLate_one (i := 16) (o := ⟨some 114, .call { callee := .value (.func 16), args := #[], argTypes := #[] }, _, _, _, some (15, true)⟩) (by kernel_rfl) rfl (fun K' hK' => ?_)
          rw [if_pos (by kernel_rfl)]
          go_simp
          go_wp2_with (go_at_call 16; refine (LV.out _).mono ?_; rintro e wl ⟨rfl, tl⟩)
          have wlT := Lib.hid (Still.trans ST.out (Still.trans wrT.out (Still.trans wvT.out (Still.trans ((Still.refl _).drew) tl))))
          clear tl
          refine hK'.out _ _ (fun _ _ => trivial) ?_
          clear hK' K'
          try simp only [Act.put, List.setIfInBounds_toArray, List.set_cons_zero, List.set_cons_succ]
          refine wpLate_pure (i := 17) (v := .bool true) rfl (by kernel_rfl) (by kernel_rfl) (by kernel_rfl) (by kernel_rfl) (fun _ _ _ h => h) (Or.inl ⟨by kernel_rfl, fun w _ => by go_simp⟩) ?_
          try simp only [Act.put, List.setIfInBounds_toArray, List.set_cons_zero, List.set_cons_succ]
          refine wpLate_pure (i := 18) (v := .bool true) rfl (by kernel_rfl) (by kernel_rfl) (by kernel_rfl) (by kernel_rfl) (fun _ _ _ h => h) (Or.inl ⟨by kernel_rfl, fun w _ => by go_simp⟩) ?_
          try simp only [Act.put, List.setIfInBounds_toArray, List.set_cons_zero, List.set_cons_succ]
          refine wpLate_done (by kernel_rfl) ?_ _
          go_simp
          go_wp2_with fail
          go_ret
          exact ⟨rfl, wlT.out⟩
        · by_cases hcq : wqk = q
          · have wq0 := wrT
            have EP := chunks_at s l1 l3 p (hp2.trans RS1.out.reads.1.symm)
            have zp1 : (0 : Int) ≤ (p : Int) := by omega
            have zp2 : (p : Int) ≤ ((chunks s (l1 ++ l3)).length : Int) := by omega
            have zp3 : (p : Int) ≤ (wpk : Int) := by have := wpL'.out.fit; omega
            have RP := Lib.hid (wpL'.out.cute hp1 hcp)
            have HPS := Lib.hid (fun W (t : Still wr W) => rows_same _ _ _ _ _ _ _ _ W (RP.out.still t) (wrL.out.still t) (by omega) (by omega) (by rw [EP]; exact SH3.out) SH3.out)
            rw [decide_eq_true EP] at HPS
            have HEP := Lib.hid EP
            have HP1 := Lib.hid hp1
            clear EP hp2 hp1
            have EQ := chunks_at s l2 l3 q (hq2.trans RS2.out.reads.1.symm)
            have zq1 : (0 : Int) ≤ (q : Int) := by omega
            have zq2 : (q : Int) ≤ ((chunks s (l2 ++ l3)).length : Int) := by omega
            have zq3 : (q : Int) ≤ (wqk : Int) := by have := wqL'.out.fit; omega
            have RQ := Lib.hid (wqL'.out.cute hq1 hcq)
            have HQS := Lib.hid (fun W (t : Still wr W) => rows_same _ _ _ _ _ _ _ _ W (RQ.out.still t) (wrL.out.still t) (by omega) (by omega) (by rw [EQ]; exact SH3.out) SH3.out)
            rw [decide_eq_true EQ] at HQS
            have HEQ := Lib.hid EQ
            have HQ1 := Lib.hid hq1
            clear EQ hq2 hq1
            have HSM := Lib.hid (fun W (t : Still wr W) => rows_same _ _ _ _ _ _ _ _ W (RP.out.still t) (RQ.out.still t) (by omega) (by omega) (by rw [HEP.out]; exact SH3.out) (by rw [HEQ.out]; exact SH3.out))
            rw [decide_eq_true (HEP.out.trans HEQ.out.symm)] at HSM
            subst hcp
            subst hcq
            have wvT := Lib.hid (Still.refl wr)
            go_wp2_with fail
            refine (HPS.out _ wvT.out).mono ?_
            rintro e wz ⟨rfl, ma, hwz⟩
            have wvT := Lib.hid (show Still wr wz from hwz ▸ still_drewN wvT.out ma)
            clear hwz
            go_wp2_with fail
            refine (HQS.out _ wvT.out).mono ?_
            rintro e wy ⟨rfl, mc, hwy⟩
            have wvT := Lib.hid (show Still wr wy from hwy ▸ still_drewN wvT.out mc)
            clear hwy
            go_wp2_with fail
            refine wp_region_late (S := fun _ => True) [] (by kernel_rfl) trivial (fun hHeld => ?_)
            try simp only [Act.put, List.setIfInBounds_toArray, List.set_cons_zero, List.set_cons_succ]
            refine wpLate_pure (i := 0) (v := .int .i64 (wpk : Nat)) rfl (by kernel_rfl) (by kernel_rfl) (by kernel_rfl) (by kernel_rfl) (fun _ _ _ h => h) (Or.inl ⟨by kernel_rfl, fun w _ => by go_simp⟩) ?_
            try simp only [Act.put, List.setIfInBounds_toArray, List.set_cons_zero, List.set_cons_succ]
            refine wpLate_pure (i := 1) (v := .bool false) rfl (by kernel_rfl) (by kernel_rfl) (by kernel_rfl) (by kernel_rfl) (fun _ _ _ h => h) (Or.inl ⟨by kernel_rfl, fun w _ => by go_simp⟩) ?_
            try simp only [Act.put, List.setIfInBounds_toArray, List.set_cons_zero, List.set_cons_succ]
            refine wpLate_pure (i := 2) (v := .bool false) rfl (by kernel_rfl) (by kernel_rfl) (by kernel_rfl) (by kernel_rfl) (fun _ _ _ h => h) (Or.inl ⟨by kernel_rfl, fun w _ => by go_simp⟩) ?_
            try simp only [Act.put, List.setIfInBounds_toArray, List.set_cons_zero, List.set_cons_succ]
            refine wpLate_pure (i := 3) (v := .int .i64 (wqk : Nat)) rfl (by kernel_rfl) (by kernel_rfl) (by kernel_rfl) (by kernel_rfl) (fun _ _ _ h => h) (Or.inl ⟨by kernel_rfl, fun w _ => by go_simp⟩) ?_
            try simp only [Act.put, List.setIfInBounds_toArray, List.set_cons_zero, List.set_cons_succ]
            refine wpLate_pure (i := 4) (v := .bool false) rfl (by kernel_rfl) (by kernel_rfl) (by kernel_rfl) (by kernel_rfl) (fun _ _ _ h => h) (Or.inl ⟨by kernel_rfl, fun w _ => by go_simp⟩) ?_
            try simp only [Act.put, List.setIfInBounds_toArray, List.set_cons_zero, List.set_cons_succ]
            refine wpLate_pure (i := 5) (v := .bool false) rfl (by kernel_rfl) (by kernel_rfl) (by kernel_rfl) (by kernel_rfl) (fun _ _ _ h => h) (Or.inl ⟨by kernel_rfl, fun w _ => by go_simp⟩) ?_
            try simp only [Act.put, List.setIfInBounds_toArray, List.set_cons_zero, List.set_cons_succ]
            refine wpLate_pure (i := 6) (v := .bool false) rfl (by kernel_rfl) (by kernel_rfl) (by kernel_rfl) (by kernel_rfl) (fun _ _ _ h => h) (Or.inl ⟨by kernel_rfl, fun w _ => by go_simp⟩) ?_
            try simp only [Act.put, List.setIfInBounds_toArray, List.set_cons_zero, List.set_cons_succ]
            refine wpLate_pure (i := 7) (v := .slice wpG (chunks s (l1 ++ l3)).length wpk) rfl (by kernel_rfl) (by kernel_rfl) (by kernel_rfl) (by kernel_rfl) (fun _ _ _ h => h) (Or.inl ⟨by kernel_rfl, fun w _ => by go_simp⟩) ?_
            try simp only [Act.put, List.setIfInBounds_toArray, List.set_cons_zero, List.set_cons_succ]
            refine wpLate_pure (i := 8) (v := .int .i64 (wpk : Nat)) rfl (by kernel_rfl) (by kernel_rfl) (by kernel_rfl) (by kernel_rfl) (fun _ _ _ h => h) (Or.inl ⟨by kernel_rfl, fun w _ => by go_simp⟩) ?_
            try simp only [Act.put, List.setIfInBounds_toArray, List.set_cons_zero, List.set_cons_succ]
            refine wpLate_pure (i := 9) (v := .slice wpG ((chunks s (l1 ++ l3)).length - wpk) 0) rfl (by kernel_rfl) (by kernel_rfl) (by kernel_rfl) (by kernel_rfl) (fun _ _ _ h => h) (Or.inl ⟨by kernel_rfl, fun w _ => by go_simp⟩) ?_
            try simp only [Act.put, List.setIfInBounds_toArray, List.set_cons_zero, List.set_cons_succ]
            refine wpLate_pure (i := 10) (v := .slice wqG (chunks s (l2 ++ l3)).length wqk) rfl (by kernel_rfl) (by kernel_rfl) (by kernel_rfl) (by kernel_rfl) (fun _ _ _ h => h) (Or.inl ⟨by kernel_rfl, fun w _ => by go_simp⟩) ?_
            try simp only [Act.put, List.setIfInBounds_toArray, List.set_cons_zero, List.set_cons_succ]
            refine wpLate_pure (i := 11) (v := .int .i64 (wqk : Nat)) rfl (by kernel_rfl) (by kernel_rfl) (by kernel_rfl) (by kernel_rfl) (fun _ _ _ h => h) (Or.inl ⟨by kernel_rfl, fun w _ => by go_simp⟩) ?_
            try simp only [Act.put, List.setIfInBounds_toArray, List.set_cons_zero, List.set_cons_succ]
            refine wpLate_pure (i := 12) (v := .slice wqG ((chunks s (l2 ++ l3)).length - wqk) 0) rfl (by kernel_rfl) (by kernel_rfl) (by kernel_rfl) (by kernel_rfl) (fun _ _ _ h => h) (Or.inl ⟨by kernel_rfl, fun w _ => by go_simp⟩) ?_
            try simp only [Act.put, List.setIfInBounds_toArray, List.set_cons_zero, List.set_cons_succ]
            refine wpLate_one (i := 13) (o := ⟨some 111, .call { callee := .value (.func 18), args := #[.tmp 107, .tmp 110], argTypes := #[28, 28] }, _, _, _, some (6, false)⟩) (by kernel_rfl) rfl (fun K' hK' => ?_)
            rw [if_pos (by kernel_rfl)]
            go_simp
            go_wp2_with (go_at_call 18; refine (HSM.out _ (Still.trans wvT.out ((Still.refl _).drew))).mono ?_; rintro e wx ⟨rfl, mx, rfl⟩)
            refine hK'.out _ _ (fun _ _ => trivial) ?_
            clear hK' K'
            try simp only [Act.put, List.setIfInBounds_toArray, List.set_cons_zero, List.set_cons_succ]
            refine wpLate_pure (i := 14) (v := .bool true) rfl (by kernel_rfl) (by kernel_rfl) (by kernel_rfl) (by kernel_rfl) (fun _ _ _ h => h) (Or.inl ⟨by kernel_rfl, fun w _ => by go_simp⟩) ?_
            try simp only [Act.put, List.setIfInBounds_toArray, List.set_cons_zero, List.set_cons_succ]
            refine wpLate_pure (i := 15) (v := .bool true) rfl (by kernel_rfl) (by kernel_rfl) (by kernel_rfl) (by kernel_rfl) (fun _ _ _ h => h) (Or.inl ⟨by kernel_rfl, fun w _ => by go_simp⟩) ?_
            try simp only [Act.put, List.setIfInBounds_toArray, List.set_cons_zero, List.set_cons_succ]
            refine wpLate_one (i := 16) (o := ⟨some 114, .call { callee := .value (.func 16), args := #[], argTypes := #[] }, _, _, _, some (15, true)⟩) (by kernel_rfl) rfl (fun K' hK' => ?_)
            rw [if_pos (by kernel_rfl)]
            go_simp
            go_wp2_with (go_at_call 16; refine (LV.out _).mono ?_; rintro e wl ⟨rfl, tl⟩)
            have wlT := Lib.hid (Still.trans ST.out (Still.trans wrT.out (Still.trans (still_drewN wvT.out (1 + mx)) tl)))
            clear tl
            refine hK'.out _ _ (fun _ _ => trivial) ?_
            clear hK' K'
            try simp only [Act.put, List.setIfInBounds_toArray, List.set_cons_zero, List.set_cons_succ]
            refine wpLate_pure (i := 17) (v := .bool true) rfl (by kernel_rfl) (by kernel_rfl) (by kernel_rfl) (by kernel_rfl) (fun _ _ _ h => h) (Or.inl ⟨by kernel_rfl, fun w _ => by go_simp⟩) ?_
            try simp only [Act.put, List.setIfInBounds_toArray, List.set_cons_zero, List.set_cons_succ]
            refine wpLate_pure (i := 18) (v := .bool true) rfl (by kernel_rfl) (by kernel_rfl) (by kernel_rfl) (by kernel_rfl) (fun _ _ _ h => h) (Or.inl ⟨by kernel_rfl, fun w _ => by go_simp⟩) ?_
            try simp only [Act.put, List.setIfInBounds_toArray, List.set_cons_zero, List.set_cons_succ]
            refine wpLate_done (by kernel_rfl) ?_ _
            go_simp
            go_wp2_with fail
            go_ret
            exact ⟨rfl, wlT.out⟩
          · have wq0 := wrT
            have EP := chunks_at s l1 l3 p (hp2.trans RS1.out.reads.1.symm)
            have zp1 : (0 : Int) ≤ (p : Int) := by omega
            have zp2 : (p : Int) ≤ ((chunks s (l1 ++ l3)).length : Int) := by omega
            have zp3 : (p : Int) ≤ (wpk : Int) := by have := wpL'.out.fit; omega
            have RP := Lib.hid (wpL'.out.cute hp1 hcp)
            have HPS := Lib.hid (fun W (t : Still wr W) => rows_same _ _ _ _ _ _ _ _ W (RP.out.still t) (wrL.out.still t) (by omega) (by omega) (by rw [EP]; exact SH3.out) SH3.out)
            rw [decide_eq_true EP] at HPS
            have HEP := Lib.hid EP
            have HP1 := Lib.hid hp1
            clear EP hp2 hp1
            have EQ := chunks_at s l2 l3 q (hq2.trans RS2.out.reads.1.symm)
            have zq1 : (0 : Int) ≤ (q : Int) := by omega
            have zq2 : (q : Int) ≤ ((chunks s (l2 ++ l3)).length : Int) := by omega
            have zq3 : (q : Int) ≤ (wqk : Int) := by have := wqL'.out.fit; omega
            have RQ := Lib.hid (wqL'.out.dropk hq1)
            have HQS := Lib.hid (fun W (t : Still wr W) => rows_same _ _ _ _ _ _ _ _ W (RQ.out.still t) (wrL.out.still t) (by omega) (by omega) (by rw [EQ]; exact SH3.out) SH3.out)
            rw [decide_eq_true EQ] at HQS
            have HEQ := Lib.hid EQ
            have HQ1 := Lib.hid hq1
            clear EQ hq2 hq1
            have HSM := Lib.hid (fun W (t : Still wr W) => rows_same _ _ _ _ _ _ _ _ W (RP.out.still t) (RQ.out.still t) (by omega) (by omega) (by rw [HEP.out]; exact SH3.out) (by rw [HEQ.out]; exact SH3.out))
            rw [decide_eq_true (HEP.out.trans HEQ.out.symm)] at HSM
            subst hcp
            have wvT := Lib.hid (Still.refl wr)
            go_wp2_with fail
            refine (HPS.out _ wvT.out).mono ?_
            rintro e wz ⟨rfl, ma, hwz⟩
            have wvT := Lib.hid (show Still wr wz from hwz ▸ still_drewN wvT.out ma)
            clear hwz
            go_wp2_with fail
            refine (HQS.out _ wvT.out).mono ?_
            rintro e wy ⟨rfl, mc, hwy⟩
            have wvT := Lib.hid (show Still wr wy from hwy ▸ still_drewN wvT.out mc)
            clear hwy
            go_wp2_with fail
            refine wp_region_late (S := fun _ => True) [] (by kernel_rfl) trivial (fun hHeld => ?_)
            try simp only [Act.put, List.setIfInBounds_toArray, List.set_cons_zero, List.set_cons_succ]
            refine wpLate_pure (i := 0) (v := .int .i64 (wpk : Nat)) rfl (by kernel_rfl) (by kernel_rfl) (by kernel_rfl) (by kernel_rfl) (fun _ _ _ h => h) (Or.inl ⟨by kernel_rfl, fun w _ => by go_simp⟩) ?_
            try simp only [Act.put, List.setIfInBounds_toArray, List.set_cons_zero, List.set_cons_succ]
            refine wpLate_pure (i := 1) (v := .bool false) rfl (by kernel_rfl) (by kernel_rfl) (by kernel_rfl) (by kernel_rfl) (fun _ _ _ h => h) (Or.inl ⟨by kernel_rfl, fun w _ => by go_simp⟩) ?_
            try simp only [Act.put, List.setIfInBounds_toArray, List.set_cons_zero, List.set_cons_succ]
            refine wpLate_pure (i := 2) (v := .bool false) rfl (by kernel_rfl) (by kernel_rfl) (by kernel_rfl) (by kernel_rfl) (fun _ _ _ h => h) (Or.inl ⟨by kernel_rfl, fun w _ => by go_simp⟩) ?_
            try simp only [Act.put, List.setIfInBounds_toArray, List.set_cons_zero, List.set_cons_succ]
            refine wpLate_pure (i := 3) (v := .int .i64 (q : Nat)) rfl (by kernel_rfl) (by kernel_rfl) (by kernel_rfl) (by kernel_rfl) (fun _ _ _ h => h) (Or.inl ⟨by kernel_rfl, fun w _ => by go_simp⟩) ?_
            try simp only [Act.put, List.setIfInBounds_toArray, List.set_cons_zero, List.set_cons_succ]
            refine wpLate_pure (i := 4) (v := .bool false) rfl (by kernel_rfl) (by kernel_rfl) (by kernel_rfl) (by kernel_rfl) (fun _ _ _ h => h) (Or.inl ⟨by kernel_rfl, fun w _ => by go_simp⟩) ?_
            try simp only [Act.put, List.setIfInBounds_toArray, List.set_cons_zero, List.set_cons_succ]
            refine wpLate_pure (i := 5) (v := .bool false) rfl (by kernel_rfl) (by kernel_rfl) (by kernel_rfl) (by kernel_rfl) (fun _ _ _ h => h) (Or.inl ⟨by kernel_rfl, fun w _ => by go_simp⟩) ?_
            try simp only [Act.put, List.setIfInBounds_toArray, List.set_cons_zero, List.set_cons_succ]
            refine wpLate_pure (i := 6) (v := .bool false) rfl (by kernel_rfl) (by kernel_rfl) (by kernel_rfl) (by kernel_rfl) (fun _ _ _ h => h) (Or.inl ⟨by kernel_rfl, fun w _ => by go_simp⟩) ?_
            try simp only [Act.put, List.setIfInBounds_toArray, List.set_cons_zero, List.set_cons_succ]
            refine wpLate_pure (i := 7) (v := .slice wpG (chunks s (l1 ++ l3)).length wpk) rfl (by kernel_rfl) (by kernel_rfl) (by kernel_rfl) (by kernel_rfl) (fun _ _ _ h => h) (Or.inl ⟨by kernel_rfl, fun w _ => by go_simp⟩) ?_
            try simp only [Act.put, List.setIfInBounds_toArray, List.set_cons_zero, List.set_cons_succ]
            refine wpLate_pure (i := 8) (v := .int .i64 (wpk : Nat)) rfl (by kernel_rfl) (by kernel_rfl) (by kernel_rfl) (by kernel_rfl) (fun _ _ _ h => h) (Or.inl ⟨by kernel_rfl, fun w _ => by go_simp⟩) ?_
            try simp only [Act.put, List.setIfInBounds_toArray, List.set_cons_zero, List.set_cons_succ]
            refine wpLate_pure (i := 9) (v := .slice wpG ((chunks s (l1 ++ l3)).length - wpk) 0) rfl (by kernel_rfl) (by kernel_rfl) (by kernel_rfl) (by kernel_rfl) (fun _ _ _ h => h) (Or.inl ⟨by kernel_rfl, fun w _ => by go_simp⟩) ?_
            try simp only [Act.put, List.setIfInBounds_toArray, List.set_cons_zero, List.set_cons_succ]
            refine wpLate_pure (i := 10) (v := .slice wqG (chunks s (l2 ++ l3)).length wqk) rfl (by kernel_rfl) (by kernel_rfl) (by kernel_rfl) (by kernel_rfl) (fun _ _ _ h => h) (Or.inl ⟨by kernel_rfl, fun w _ => by go_simp⟩) ?_
            try simp only [Act.put, List.setIfInBounds_toArray, List.set_cons_zero, List.set_cons_succ]
            refine wpLate_pure (i := 11) (v := .int .i64 (q : Nat)) rfl (by kernel_rfl) (by kernel_rfl) (by kernel_rfl) (by kernel_rfl) (fun _ _ _ h => h) (Or.inl ⟨by kernel_rfl, fun w _ => by go_simp⟩) ?_
            try simp only [Act.put, List.setIfInBounds_toArray, List.set_cons_zero, List.set_cons_succ]
            refine wpLate_pure (i := 12) (v := .slice (wqG.map (fun x => x.add q)) ((chunks s (l2 ++ l3)).length - q) (wqk - q)) rfl (by kernel_rfl) (by kernel_rfl) (by kernel_rfl) (by kernel_rfl) (fun _ _ _ h => h) (Or.inl ⟨by kernel_rfl, fun w _ => by go_simp⟩) ?_
            try simp only [Act.put, List.setIfInBounds_toArray, List.set_cons_zero, List.set_cons_succ]
            refine wpLate_one (i := 13) (o := ⟨some 111, .call { callee := .value (.func 18), args := #[.tmp 107, .tmp 110], argTypes := #[28, 28] }, _, _, _, some (6, false)⟩) (by kernel_rfl) rfl (fun K' hK' => ?_)
            rw [if_pos (by kernel_rfl)]
            go_simp
            go_wp2_with (go_at_call 18; refine (HSM.out _ (Still.trans wvT.out ((Still.refl _).drew))).mono ?_; rintro e wx ⟨rfl, mx, rfl⟩)
            refine hK'.out _ _ (fun _ _ => trivial) ?_
            clear hK' K'
            try simp only [Act.put, List.setIfInBounds_toArray, List.set_cons_zero, List.set_cons_succ]
            refine wpLate_pure (i := 14) (v := .bool true) rfl (by kernel_rfl) (by kernel_rfl) (by kernel_rfl) (by kernel_rfl) (fun _ _ _ h => h) (Or.inl ⟨by kernel_rfl, fun w _ => by go_simp⟩) ?_
            try simp only [Act.put, List.setIfInBounds_toArray, List.set_cons_zero, List.set_cons_succ]
            refine wpLate_pure (i := 15) (v := .bool true) rfl (by kernel_rfl) (by kernel_rfl) (by kernel_rfl) (by kernel_rfl) (fun _ _ _ h => h) (Or.inl ⟨by kernel_rfl, fun w _ => by go_simp⟩) ?_
            try simp only [Act.put, List.setIfInBounds_toArray, List.set_cons_zero, List.set_cons_succ]
            refine wpLate_one (i := 16) (o := ⟨some 114, .call { callee := .value (.func 16), args := #[], argTypes := #[] }, _, _, _, some (15, true)⟩) (by kernel_rfl) rfl (fun K' hK' => ?_)
            rw [if_pos (by kernel_rfl)]
            go_simp
            go_wp2_with (go_at_call 16; refine (LV.out _).mono ?_; rintro e wl ⟨rfl, tl⟩)
            have wlT := Lib.hid (Still.trans ST.out (Still.trans wrT.out (Still.trans (still_drewN wvT.out (1 + mx)) tl)))
            clear tl
            refine hK'.out _ _ (fun _ _ => trivial) ?_
            clear hK' K'
            try simp only [Act.put, List.setIfInBounds_toArray, List.set_cons_zero, List.set_cons_succ]
            refine wpLate_pure (i := 17) (v := .bool true) rfl (by kernel_rfl) (by kernel_rfl) (by kernel_rfl) (by kernel_rfl) (fun _ _ _ h => h) (Or.inl ⟨by kernel_rfl, fun w _ => by go_simp⟩) ?_
            try simp only [Act.put, List.setIfInBounds_toArray, List.set_cons_zero, List.set_cons_succ]
            refine wpLate_pure (i := 18) (v := .bool true) rfl (by kernel_rfl) (by kernel_rfl) (by kernel_rfl) (by kernel_rfl) (fun _ _ _ h => h) (Or.inl ⟨by kernel_rfl, fun w _ => by go_simp⟩) ?_
            try simp only [Act.put, List.setIfInBounds_toArray, List.set_cons_zero, List.set_cons_succ]
            refine wpLate_done (by kernel_rfl) ?_ _
            go_simp
            go_wp2_with fail
            go_ret
            exact ⟨rfl, wlT.out⟩
      · rcases hq with rfl | ⟨q, rfl, hq1, hq2⟩
        · have wq0 := wrT
          have EP := chunks_at s l1 l3 p (hp2.trans RS1.out.reads.1.symm)
          have zp1 : (0 : Int) ≤ (p : Int) := by omega
          have zp2 : (p : Int) ≤ ((chunks s (l1 ++ l3)).length : Int) := by omega
          have zp3 : (p : Int) ≤ (wpk : Int) := by have := wpL'.out.fit; omega
          have RP := Lib.hid (wpL'.out.dropk hp1)
          have HPS := Lib.hid (fun W (t : Still wr W) => rows_same _ _ _ _ _ _ _ _ W (RP.out.still t) (wrL.out.still t) (by omega) (by omega) (by rw [EP]; exact SH3.out) SH3.out)
          rw [decide_eq_true EP] at HPS
          have HEP := Lib.hid EP
          have HP1 := Lib.hid hp1
          clear EP hp2 hp1
          have wvT := Lib.hid (Still.refl wr)
          go_wp2_with fail
          refine (HPS.out _ wvT.out).mono ?_
          rintro e wz ⟨rfl, ma, hwz⟩
          have wvT := Lib.hid (show Still wr wz from hwz ▸ still_drewN wvT.out ma)
          clear hwz
          go_wp2_with fail
          refine wp_region_late (S := fun _ => True) [] (by kernel_rfl) trivial (fun hHeld => ?_)
          try simp only [Act.put, List.setIfInBounds_toArray, List.set_cons_zero, List.set_cons_succ]
          refine wpLate_pure (i := 0) (v := .int .i64 (p : Nat)) rfl (by kernel_rfl) (by kernel_rfl) (by kernel_rfl) (by kernel_rfl) (fun _ _ _ h => h) (Or.inl ⟨by kernel_rfl, fun w _ => by go_simp⟩) ?_
          try simp only [Act.put, List.setIfInBounds_toArray, List.set_cons_zero, List.set_cons_succ]
          refine wpLate_pure (i := 1) (v := .bool false) rfl (by kernel_rfl) (by kernel_rfl) (by kernel_rfl) (by kernel_rfl) (fun _ _ _ h => h) (Or.inl ⟨by kernel_rfl, fun w _ => by go_simp⟩) ?_
          try simp only [Act.put, List.setIfInBounds_toArray, List.set_cons_zero, List.set_cons_succ]
          refine wpLate_pure (i := 2) (v := .bool false) rfl (by kernel_rfl) (by kernel_rfl) (by kernel_rfl) (by kernel_rfl) (fun _ _ _ h => h) (Or.inl ⟨by kernel_rfl, fun w _ => by go_simp⟩) ?_
          try simp only [Act.put, List.setIfInBounds_toArray, List.set_cons_zero, List.set_cons_succ]
          refine wpLate_pure (i := 3) (v := .int .i64 (-1)) rfl (by kernel_rfl) (by kernel_rfl) (by kernel_rfl) (by kernel_rfl) (fun _ _ _ h => h) (Or.inl ⟨by kernel_rfl, fun w _ => by go_simp⟩) ?_
          try simp only [Act.put, List.setIfInBounds_toArray, List.set_cons_zero, List.set_cons_succ]
          refine wpLate_pure (i := 4) (v := .bool true) rfl (by kernel_rfl) (by kernel_rfl) (by kernel_rfl) (by kernel_rfl) (fun _ _ _ h => h) (Or.inl ⟨by kernel_rfl, fun w _ => by go_simp⟩) ?_
          try simp only [Act.put, List.setIfInBounds_toArray, List.set_cons_zero, List.set_cons_succ]
          refine wpLate_pure (i := 5) (v := .bool true) rfl (by kernel_rfl) (by kernel_rfl) (by kernel_rfl) (by kernel_rfl) (fun _ _ _ h => h) (Or.inl ⟨by kernel_rfl, fun w _ => by go_simp⟩) ?_
          try simp only [Act.put, List.setIfInBounds_toArray, List.set_cons_zero, List.set_cons_succ]
          refine wpLate_pure (i := 6) (v := .bool true) rfl (by kernel_rfl) (by kernel_rfl) (by kernel_rfl) (by kernel_rfl) (fun _ _ _ h => h) (Or.inl ⟨by kernel_rfl, fun w _ => by go_simp⟩) ?_
          try simp only [Act.put, List.setIfInBounds_toArray, List.set_cons_zero, List.set_cons_succ]
          refine wpLate_pure (i := 7) (v := undef) rfl (by kernel_rfl) (by kernel_rfl) (by kernel_rfl) (by kernel_rfl) (fun _ _ _ h => h) (Or.inr ⟨by kernel_rfl, rfl⟩) ?_
          try simp only [Act.put, List.setIfInBounds_toArray, List.set_cons_zero, List.set_cons_succ]
          refine wpLate_pure (i := 8) (v := undef) rfl (by kernel_rfl) (by kernel_rfl) (by kernel_rfl) (by kernel_rfl) (fun _ _ _ h => h) (Or.inr ⟨by kernel_rfl, rfl⟩) ?_
          try simp only [Act.put, List.setIfInBounds_toArray, List.set_cons_zero, List.set_cons_succ]
          refine wpLate_pure (i := 9) (v := undef) rfl (by kernel_rfl) (by kernel_rfl) (by kernel_rfl) (by kernel_rfl) (fun _ _ _ h => h) (Or.inr ⟨by kernel_rfl, rfl⟩) ?_
          try simp only [Act.put, List.setIfInBounds_toArray, List.set_cons_zero, List.set_cons_succ]
          refine wpLate_pure (i := 10) (v := undef) rfl (by kernel_rfl) (by kernel_rfl) (by kernel_rfl) (by kernel_rfl) (fun _ _ _ h => h) (Or.inr ⟨by kernel_rfl, rfl⟩) ?_
          try simp only [Act.put, List.setIfInBounds_toArray, List.set_cons_zero, List.set_cons_succ]
          refine wpLate_pure (i := 11) (v := undef) rfl (by kernel_rfl) (by kernel_rfl) (by kernel_rfl) (by kernel_rfl) (fun _ _ _ h => h) (Or.inr ⟨by kernel_rfl, rfl⟩) ?_
          try simp only [Act.put, List.setIfInBounds_toArray, List.set_cons_zero, List.set_cons_succ]
          refine wpLate_pure (i := 12) (v := undef) rfl (by kernel_rfl) (by kernel_rfl) (by kernel_rfl) (by kernel_rfl) (fun _ _ _ h => h) (Or.inr ⟨by kernel_rfl, rfl⟩) ?_
          try simp only [Act.put, List.setIfInBounds_toArray, List.set_cons_zero, List.set_cons_succ]
          refine wpLate_pure (i := 13) (v := undef) rfl (by kernel_rfl) (by kernel_rfl) (by kernel_rfl) (by kernel_rfl) (fun _ _ _ h => h) (Or.inr ⟨by kernel_rfl, rfl⟩) ?_
          try simp only [Act.put, List.setIfInBounds_toArray, List.set_cons_zero, List.set_cons_succ]
          refine wpLate_pure (i := 14) (v := .bool true) rfl (by kernel_rfl) (by kernel_rfl) (by kernel_rfl) (by kernel_rfl) (fun _ _ _ h => h) (Or.inl ⟨by kernel_rfl, fun w _ => by go_simp⟩) ?_
          try simp only [Act.put, List.setIfInBounds_toArray, List.set_cons_zero, List.set_cons_succ]
          refine wpLate_pure (i := 15) (v := .bool true) rfl (by kernel_rfl) (by kernel_rfl) (by kernel_rfl) (by kernel_rfl) (fun _ _ _ h => h) (Or.inl ⟨by kernel_rfl, fun w _ => by go_simp⟩) ?_
          try simp only [Act.put, List.setIfInBounds_toArray, List.set_cons_zero, List.set_cons_succ]
          refine wpLate_one (i := 16) (o := ⟨some 114, .call { callee := .value (.func 16), args := #[], argTypes := #[] }, _, _, _, some (15, true)⟩) (by kernel_rfl) rfl (fun K' hK' => ?_)
          rw [if_pos (by kernel_rfl)]
          go_simp
          go_wp2_with (go_at_call 16; refine (LV.out _).mono ?_; rintro e wl ⟨rfl, tl⟩)
          have wlT := Lib.hid (Still.trans ST.out (Still.trans wrT.out (Still.trans wvT.out (Still.trans ((Still.refl _).drew) tl))))
          clear tl
          refine hK'.out _ _ (fun _ _ => trivial) ?_
          clear hK' K'
          try simp only [Act.put, List.setIfInBounds_toArray, List.set_cons_zero, List.set_cons_succ]
          refine wpLate_pure (i := 17) (v := .bool true) rfl (by kernel_rfl) (by kernel_rfl) (by kernel_rfl) (by kernel_rfl) (fun _ _ _ h => h) (Or.inl ⟨by kernel_rfl, fun w _ => by go_simp⟩) ?_
          try simp only [Act.put, List.setIfInBounds_toArray, List.set_cons_zero, List.set_cons_succ]
          refine wpLate_pure (i := 18) (v := .bool true) rfl (by kernel_rfl) (by kernel_rfl) (by kernel_rfl) (by kernel_rfl) (fun _ _ _ h => h) (Or.inl ⟨by kernel_rfl, fun w _ => by go_simp⟩) ?_
          try simp only [Act.put, List.setIfInBounds_toArray, List.set_cons_zero, List.set_cons_succ]
          refine wpLate_done (by kernel_rfl) ?_ _
          go_simp
          go_wp2_with fail
          go_ret
          exact ⟨rfl, wlT.out⟩
        · by_cases hcq : wqk = q
          · have wq0 := wrT
            have EP := chunks_at s l1 l3 p (hp2.trans RS1.out.reads.1.symm)
            have zp1 : (0 : Int) ≤ (p : Int) := by omega
            have zp2 : (p : Int) ≤ ((chunks s (l1 ++ l3)).length : Int) := by omega
            have zp3 : (p : Int) ≤ (wpk : Int) := by have := wpL'.out.fit; omega
            have RP := Lib.hid (wpL'.out.dropk hp1)
            have HPS := Lib.hid (fun W (t : Still wr W) => rows_same _ _ _ _ _ _ _ _ W (RP.out.still t) (wrL.out.still t) (by omega) (by omega) (by rw [EP]; exact SH3.out) SH3.out)
            rw [decide_eq_true EP] at HPS
            have HEP := Lib.hid EP
            have HP1 := Lib.hid hp1
            clear EP hp2 hp1
            have EQ := chunks_at s l2 l3 q (hq2.trans RS2.out.reads.1.symm)
            have zq1 : (0 : Int) ≤ (q : Int) := by omega
            have zq2 : (q : Int) ≤ ((chunks s (l2 ++ l3)).length : Int) := by omega
            have zq3 : (q : Int) ≤ (wqk : Int) := by have := wqL'.out.fit; omega
            have RQ := Lib.hid (wqL'.out.cute hq1 hcq)
            have HQS := Lib.hid (fun W (t : Still wr W) => rows_same _ _ _ _ _ _ _ _ W (RQ.out.still t) (wrL.out.still t) (by omega) (by omega) (by rw [EQ]; exact SH3.out) SH3.out)
            rw [decide_eq_true EQ] at HQS
            have HEQ := Lib.hid EQ
            have HQ1 := Lib.hid hq1
            clear EQ hq2 hq1
            have HSM := Lib.hid (fun W (t : Still wr W) => rows_same _ _ _ _ _ _ _ _ W (RP.out.still t) (RQ.out.still t) (by omega) (by omega) (by rw [HEP.out]; exact SH3.out) (by rw [HEQ.out]; exact SH3.out))
            rw [decide_eq_true (HEP.out.trans HEQ.out.symm)] at HSM
            subst hcq
            have wvT := Lib.hid (Still.refl wr)
            go_wp2_with fail
            refine (HPS.out _ wvT.out).mono ?_
            rintro e wz ⟨rfl, ma, hwz⟩
            have wvT := Lib.hid (show Still wr wz from hwz ▸ still_drewN wvT.out ma)
            clear hwz
            go_wp2_with fail
            refine (HQS.out _ wvT.out).mono ?_
            rintro e wy ⟨rfl, mc, hwy⟩
            have wvT := Lib.hid (show Still wr wy from hwy ▸ still_drewN wvT.out mc)
            clear hwy
            go_wp2_with fail
            refine wp_region_late (S := fun _ => True) [] (by kernel_rfl) trivial (fun hHeld => ?_)
            try simp only [Act.put, List.setIfInBounds_toArray, List.set_cons_zero, List.set_cons_succ]
            refine wpLate_pure (i := 0) (v := .int .i64 (p : Nat)) rfl (by kernel_rfl) (by kernel_rfl) (by kernel_rfl) (by kernel_rfl) (fun _ _ _ h => h) (Or.inl ⟨by kernel_rfl, fun w _ => by go_simp⟩) ?_
            try simp only [Act.put, List.setIfInBounds_toArray, List.set_cons_zero, List.set_cons_succ]
            refine wpLate_pure (i := 1) (v := .bool false) rfl (by kernel_rfl) (by kernel_rfl) (by kernel_rfl) (by kernel_rfl) (fun _ _ _ h => h) (Or.inl ⟨by kernel_rfl, fun w _ => by go_simp⟩) ?_
            try simp only [Act.put, List.setIfInBounds_toArray, List.set_cons_zero, List.set_cons_succ]
            refine wpLate_pure (i := 2) (v := .bool false) rfl (by kernel_rfl) (by kernel_rfl) (by kernel_rfl) (by kernel_rfl) (fun _ _ _ h => h) (Or.inl ⟨by kernel_rfl, fun w _ => by go_simp⟩) ?_
            try simp only [Act.put, List.setIfInBounds_toArray, List.set_cons_zero, List.set_cons_succ]
            refine wpLate_pure (i := 3) (v := .int .i64 (wqk : Nat)) rfl (by kernel_rfl) (by kernel_rfl) (by kernel_rfl) (by kernel_rfl) (fun _ _ _ h => h) (Or.inl ⟨by kernel_rfl, fun w _ => by go_simp⟩) ?_
            try simp only [Act.put, List.setIfInBounds_toArray, List.set_cons_zero, List.set_cons_succ]
            refine wpLate_pure (i := 4) (v := .bool false) rfl (by kernel_rfl) (by kernel_rfl) (by kernel_rfl) (by kernel_rfl) (fun _ _ _ h => h) (Or.inl ⟨by kernel_rfl, fun w _ => by go_simp⟩) ?_
            try simp only [Act.put, List.setIfInBounds_toArray, List.set_cons_zero, List.set_cons_succ]
            refine wpLate_pure (i := 5) (v := .bool false) rfl (by kernel_rfl) (by kernel_rfl) (by kernel_rfl) (by kernel_rfl) (fun _ _ _ h => h) (Or.inl ⟨by kernel_rfl, fun w _ => by go_simp⟩) ?_
            try simp only [Act.put, List.setIfInBounds_toArray, List.set_cons_zero, List.set_cons_succ]
            refine wpLate_pure (i := 6) (v := .bool false) rfl (by kernel_rfl) (by kernel_rfl) (by kernel_rfl) (by kernel_rfl) (fun _ _ _ h => h) (Or.inl ⟨by kernel_rfl, fun w _ => by go_simp⟩) ?_
            try simp only [Act.put, List.setIfInBounds_toArray, List.set_cons_zero, List.set_cons_succ]
            refine wpLate_pure (i := 7) (v := .slice wpG (chunks s (l1 ++ l3)).length wpk) rfl (by kernel_rfl) (by kernel_rfl) (by kernel_rfl) (by kernel_rfl) (fun _ _ _ h => h) (Or.inl ⟨by kernel_rfl, fun w _ => by go_simp⟩) ?_
            try simp only [Act.put, List.setIfInBounds_toArray, List.set_cons_zero, List.set_cons_succ]
            refine wpLate_pure (i := 8) (v := .int .i64 (p : Nat)) rfl (by kernel_rfl) (by kernel_rfl) (by kernel_rfl) (by kernel_rfl) (fun _ _ _ h => h) (Or.inl ⟨by kernel_rfl, fun w _ => by go_simp⟩) ?_
            try simp only [Act.put, List.setIfInBounds_toArray, List.set_cons_zero, List.set_cons_succ]
            refine wpLate_pure (i := 9) (v := .slice (wpG.map (fun x => x.add p)) ((chunks s (l1 ++ l3)).length - p) (wpk - p)) rfl (by kernel_rfl) (by kernel_rfl) (by kernel_rfl) (by kernel_rfl) (fun _ _ _ h => h) (Or.inl ⟨by kernel_rfl, fun w _ => by go_simp⟩) ?_
            try simp only [Act.put, List.setIfInBounds_toArray, List.set_cons_zero, List.set_cons_succ]
            refine wpLate_pure (i := 10) (v := .slice wqG (chunks s (l2 ++ l3)).length wqk) rfl (by kernel_rfl) (by kernel_rfl) (by kernel_rfl) (by kernel_rfl) (fun _ _ _ h => h) (Or.inl ⟨by kernel_rfl, fun w _ => by go_simp⟩) ?_
            try simp only [Act.put, List.setIfInBounds_toArray, List.set_cons_zero, List.set_cons_succ]
            refine wpLate_pure (i := 11) (v := .int .i64 (wqk : Nat)) rfl (by kernel_rfl) (by kernel_rfl) (by kernel_rfl) (by kernel_rfl) (fun _ _ _ h => h) (Or.inl ⟨by kernel_rfl, fun w _ => by go_simp⟩) ?_
            try simp only [Act.put, List.setIfInBounds_toArray, List.set_cons_zero, List.set_cons_succ]
            refine wpLate_pure (i := 12) (v := .slice wqG ((chunks s (l2 ++ l3)).length - wqk) 0) rfl (by kernel_rfl) (by kernel_rfl) (by kernel_rfl) (by kernel_rfl) (fun _ _ _ h => h) (Or.inl ⟨by kernel_rfl, fun w _ => by go_simp⟩) ?_
            try simp only [Act.put, List.setIfInBounds_toArray, List.set_cons_zero, List.set_cons_succ]
            refine wpLate_one (i := 13) (o := ⟨some 111, .call { callee := .value (.func 18), args := #[.tmp 107, .tmp 110], argTypes := #[28, 28] }, _, _, _, some (6, false)⟩) (by kernel_rfl) rfl (fun K' hK' => ?_)
            rw [if_pos (by kernel_rfl)]
            go_simp
            go_wp2_with (go_at_call 18; refine (HSM.out _ (Still.trans wvT.out ((Still.refl _).drew))).mono ?_; rintro e wx ⟨rfl, mx, rfl⟩)
            refine hK'.out _ _ (fun _ _ => trivial) ?_
            clear hK' K'
            try simp only [Act.put, List.setIfInBounds_toArray, List.set_cons_zero, List.set_cons_succ]
            refine wpLate_pure (i := 14) (v := .bool true) rfl (by kernel_rfl) (by kernel_rfl) (by kernel_rfl) (by kernel_rfl) (fun _ _ _ h => h) (Or.inl ⟨by kernel_rfl, fun w _ => by go_simp⟩) ?_
            try simp only [Act.put, List.setIfInBounds_toArray, List.set_cons_zero, List.set_cons_succ]
            refine wpLate_pure (i := 15) (v := .bool true) rfl (by kernel_rfl) (by kernel_rfl) (by kernel_rfl) (by kernel_rfl) (fun _ _ _ h => h) (Or.inl ⟨by kernel_rfl, fun w _ => by go_simp⟩) ?_
            try simp only [Act.put, List.setIfInBounds_toArray, List.set_cons_zero, List.set_cons_succ]
            refine wpLate_one (i := 16) (o := ⟨some 114, .call { callee := .value (.func 16), args := #[], argTypes := #[] }, _, _, _, some (15, true)⟩) (by kernel_rfl) rfl (fun K' hK' => ?_)
            rw [if_pos (by kernel_rfl)]
            go_simp
            go_wp2_with (go_at_call 16; refine (LV.out _).mono ?_; rintro e wl ⟨rfl, tl⟩)
            have wlT := Lib.hid (Still.trans ST.out (Still.trans wrT.out (Still.trans (still_drewN wvT.out (1 + mx)) tl)))
            clear tl
            refine hK'.out _ _ (fun _ _ => trivial) ?_
            clear hK' K'
            try simp only [Act.put, List.setIfInBounds_toArray, List.set_cons_zero, List.set_cons_succ]
            refine wpLate_pure (i := 17) (v := .bool true) rfl (by kernel_rfl) (by kernel_rfl) (by kernel_rfl) (by kernel_rfl) (fun _ _ _ h => h) (Or.inl ⟨by kernel_rfl, fun w _ => by go_simp⟩) ?_
            try simp only [Act.put, List.setIfInBounds_toArray, List.set_cons_zero, List.set_cons_succ]
            refine wpLate_pure (i := 18) (v := .bool true) rfl (by kernel_rfl) (by kernel_rfl) (by kernel_rfl) (by kernel_rfl) (fun _ _ _ h => h) (Or.inl ⟨by kernel_rfl, fun w _ => by go_simp⟩) ?_
            try simp only [Act.put, List.setIfInBounds_toArray, List.set_cons_zero, List.set_cons_succ]
            refine wpLate_done (by kernel_rfl) ?_ _
            go_simp
            go_wp2_with fail
            go_ret
            exact ⟨rfl, wlT.out⟩
          · have wq0 := wrT
            have EP := chunks_at s l1 l3 p (hp2.trans RS1.out.reads.1.symm)
            have zp1 : (0 : Int) ≤ (p : Int) := by omega
            have zp2 : (p : Int) ≤ ((chunks s (l1 ++ l3)).length : Int) := by omega
            have zp3 : (p : Int) ≤ (wpk : Int) := by have := wpL'.out.fit; omega
            have RP := Lib.hid (wpL'.out.dropk hp1)
            have HPS := Lib.hid (fun W (t : Still wr W) => rows_same _ _ _ _ _ _ _ _ W (RP.out.still t) (wrL.out.still t) (by omega) (by omega) (by rw [EP]; exact SH3.out) SH3.out)
            rw [decide_eq_true EP] at HPS
            have HEP := Lib.hid EP
            have HP1 := Lib.hid hp1
            clear EP hp2 hp1
            have EQ := chunks_at s l2 l3 q (hq2.trans RS2.out.reads.1.symm)
            have zq1 : (0 : Int) ≤ (q : Int) := by omega
            have zq2 : (q : Int) ≤ ((chunks s (l2 ++ l3)).length : Int) := by omega
            have zq3 : (q : Int) ≤ (wqk : Int) := by have := wqL'.out.fit; omega
            have RQ := Lib.hid (wqL'.out.dropk hq1)
            have HQS := Lib.hid (fun W (t : Still wr W) => rows_same _ _ _ _ _ _ _ _ W (RQ.out.still t) (wrL.out.still t) (by omega) (by omega) (by rw [EQ]; exact SH3.out) SH3.out)
            rw [decide_eq_true EQ] at HQS
            have HEQ := Lib.hid EQ
            have HQ1 := Lib.hid hq1
            clear EQ hq2 hq1
            have HSM := Lib.hid (fun W (t : Still wr W) => rows_same _ _ _ _ _ _ _ _ W (RP.out.still t) (RQ.out.still t) (by omega) (by omega) (by rw [HEP.out]; exact SH3.out) (by rw [HEQ.out]; exact SH3.out))
            rw [decide_eq_true (HEP.out.trans HEQ.out.symm)] at HSM
            have wvT := Lib.hid (Still.refl wr)
            go_wp2_with fail
            refine (HPS.out _ wvT.out).mono ?_
            rintro e wz ⟨rfl, ma, hwz⟩
            have wvT := Lib.hid (show Still wr wz from hwz ▸ still_drewN wvT.out ma)
            clear hwz
            go_wp2_with fail
            refine (HQS.out _ wvT.out).mono ?_
            rintro e wy ⟨rfl, mc, hwy⟩
            have wvT := Lib.hid (show Still wr wy from hwy ▸ still_drewN wvT.out mc)
            clear hwy
            go_wp2_with fail
            refine wp_region_late (S := fun _ => True) [] (by kernel_rfl) trivial (fun hHeld => ?_)
            try simp only [Act.put, List.setIfInBounds_toArray, List.set_cons_zero, List.set_cons_succ]
            refine wpLate_pure (i := 0) (v := .int .i64 (p : Nat)) rfl (by kernel_rfl) (by kernel_rfl) (by kernel_rfl) (by kernel_rfl) (fun _ _ _ h => h) (Or.inl ⟨by kernel_rfl, fun w _ => by go_simp⟩) ?_
            try simp only [Act.put, List.setIfInBounds_toArray, List.set_cons_zero, List.set_cons_succ]
            refine wpLate_pure (i := 1) (v := .bool false) rfl (by kernel_rfl) (by kernel_rfl) (by kernel_rfl) (by kernel_rfl) (fun _ _ _ h => h) (Or.inl ⟨by kernel_rfl, fun w _ => by go_simp⟩) ?_
            try simp only [Act.put, List.setIfInBounds_toArray, List.set_cons_zero, List.set_cons_succ]
            refine wpLate_pure (i := 2) (v := .bool false) rfl (by kernel_rfl) (by kernel_rfl) (by kernel_rfl) (by kernel_rfl) (fun _ _ _ h => h) (Or.inl ⟨by kernel_rfl, fun w _ => by go_simp⟩) ?_
            try simp only [Act.put, List.setIfInBounds_toArray, List.set_cons_zero, List.set_cons_succ]
            refine wpLate_pure (i := 3) (v := .int .i64 (q : Nat)) rfl (by kernel_rfl) (by kernel_rfl) (by kernel_rfl) (by kernel_rfl) (fun _ _ _ h => h) (Or.inl ⟨by kernel_rfl, fun w _ => by go_simp⟩) ?_
            try simp only [Act.put, List.setIfInBounds_toArray, List.set_cons_zero, List.set_cons_succ]
            refine wpLate_pure (i := 4) (v := .bool false) rfl (by kernel_rfl) (by kernel_rfl) (by kernel_rfl) (by kernel_rfl) (fun _ _ _ h => h) (Or.inl ⟨by kernel_rfl, fun w _ => by go_simp⟩) ?_
            try simp only [Act.put, List.setIfInBounds_toArray, List.set_cons_zero, List.set_cons_succ]
            refine wpLate_pure (i := 5) (v := .bool false) rfl (by kernel_rfl) (by kernel_rfl) (by kernel_rfl) (by kernel_rfl) (fun _ _ _ h => h) (Or.inl ⟨by kernel_rfl, fun w _ => by go_simp⟩) ?_
            try simp only [Act.put, List.setIfInBounds_toArray, List.set_cons_zero, List.set_cons_succ]
            refine wpLate_pure (i := 6) (v := .bool false) rfl (by kernel_rfl) (by kernel_rfl) (by kernel_rfl) (by kernel_rfl) (fun _ _ _ h => h) (Or.inl ⟨by kernel_rfl, fun w _ => by go_simp⟩) ?_
            try simp only [Act.put, List.setIfInBounds_toArray, List.set_cons_zero, List.set_cons_succ]
            refine wpLate_pure (i := 7) (v := .slice wpG (chunks s (l1 ++ l3)).length wpk) rfl (by kernel_rfl) (by kernel_rfl) (by kernel_rfl) (by kernel_rfl) (fun _ _ _ h => h) (Or.inl ⟨by kernel_rfl, fun w _ => by go_simp⟩) ?_
            try simp only [Act.put, List.setIfInBounds_toArray, List.set_cons_zero, List.set_cons_succ]
            refine wpLate_pure (i := 8) (v := .int .i64 (p : Nat)) rfl (by kernel_rfl) (by kernel_rfl) (by kernel_rfl) (by kernel_rfl) (fun _ _ _ h => h) (Or.inl ⟨by kernel_rfl, fun w _ => by go_simp⟩) ?_
            try simp only [Act.put, List.setIfInBounds_toArray, List.set_cons_zero, List.set_cons_succ]
            refine wpLate_pure (i := 9) (v := .slice (wpG.map (fun x => x.add p)) ((chunks s (l1 ++ l3)).length - p) (wpk - p)) rfl (by kernel_rfl) (by kernel_rfl) (by kernel_rfl) (by kernel_rfl) (fun _ _ _ h => h) (Or.inl ⟨by kernel_rfl, fun w _ => by go_simp⟩) ?_
            try simp only [Act.put, List.setIfInBounds_toArray, List.set_cons_zero, List.set_cons_succ]
            refine wpLate_pure (i := 10) (v := .slice wqG (chunks s (l2 ++ l3)).length wqk) rfl (by kernel_rfl) (by kernel_rfl) (by kernel_rfl) (by kernel_rfl) (fun _ _ _ h => h) (Or.inl ⟨by kernel_rfl, fun w _ => by go_simp⟩) ?_
            try simp only [Act.put, List.setIfInBounds_toArray, List.set_cons_zero, List.set_cons_succ]
            refine wpLate_pure (i := 11) (v := .int .i64 (q : Nat)) rfl (by kernel_rfl) (by kernel_rfl) (by kernel_rfl) (by kernel_rfl) (fun _ _ _ h => h) (Or.inl ⟨by kernel_rfl, fun w _ => by go_simp⟩) ?_
            try simp only [Act.put, List.setIfInBounds_toArray, List.set_cons_zero, List.set_cons_succ]
            refine wpLate_pure (i := 12) (v := .slice (wqG.map (fun x => x.add q)) ((chunks s (l2 ++ l3)).length - q) (wqk - q)) rfl (by kernel_rfl) (by kernel_rfl) (by kernel_rfl) (by kernel_rfl) (fun _ _ _ h => h) (Or.inl ⟨by kernel_rfl, fun w _ => by go_simp⟩) ?_
            try simp only [Act.put, List.setIfInBounds_toArray, List.set_cons_zero, List.set_cons_succ]
            refine wpLate_one (i := 13) (o := ⟨some 111, .call { callee := .value (.func 18), args := #[.tmp 107, .tmp 110], argTypes := #[28, 28] }, _, _, _, some (6, false)⟩) (by kernel_rfl) rfl (fun K' hK' => ?_)
            rw [if_pos (by kernel_rfl)]
            go_simp
            go_wp2_with (go_at_call 18; refine (HSM.out _ (Still.trans wvT.out ((Still.refl _).drew))).mono ?_; rintro e wx ⟨rfl, mx, rfl⟩)
            refine hK'.out _ _ (fun _ _ => trivial) ?_
            clear hK' K'
            try simp only [Act.put, List.setIfInBounds_toArray, List.set_cons_zero, List.set_cons_succ]
            refine wpLate_pure (i := 14) (v := .bool true) rfl (by kernel_rfl) (by kernel_rfl) (by kernel_rfl) (by kernel_rfl) (fun _ _ _ h => h) (Or.inl ⟨by kernel_rfl, fun w _ => by go_simp⟩) ?_
            try simp only [Act.put, List.setIfInBounds_toArray, List.set_cons_zero, List.set_cons_succ]
            refine wpLate_pure (i := 15) (v := .bool true) rfl (by kernel_rfl) (by kernel_rfl) (by kernel_rfl) (by kernel_rfl) (fun _ _ _ h => h) (Or.inl ⟨by kernel_rfl, fun w _ => by go_simp⟩) ?_
            try simp only [Act.put, List.setIfInBounds_toArray, List.set_cons_zero, List.set_cons_succ]
            refine wpLate_one (i := 16) (o := ⟨some 114, .call { callee := .value (.func 16), args := #[], argTypes := #[] }, _, _, _, some (15, true)⟩) (by kernel_rfl) rfl (fun K' hK' => ?_)
            rw [if_pos (by kernel_rfl)]
            go_simp
            go_wp2_with (go_at_call 16; refine (LV.out _).mono ?_; rintro e wl ⟨rfl, tl⟩)
            have wlT := Lib.hid (Still.trans ST.out (Still.trans wrT.out (Still.trans (still_drewN wvT.out (1 + mx)) tl)))
            clear tl
            refine hK'.out _ _ (fun _ _ => trivial) ?_
            clear hK' K'
            try simp only [Act.put, List.setIfInBounds_toArray, List.set_cons_zero, List.set_cons_succ]
            refine wpLate_pure (i := 17) (v := .bool true) rfl (by kernel_rfl) (by kernel_rfl) (by kernel_rfl) (by kernel_rfl) (fun _ _ _ h => h) (Or.inl ⟨by kernel_rfl, fun w _ => by go_simp⟩) ?_
            try simp only [Act.put, List.setIfInBounds_toArray, List.set_cons_zero, List.set_cons_succ]
            refine wpLate_pure (i := 18) (v := .bool true) rfl (by kernel_rfl) (by kernel_rfl) (by kernel_rfl) (by kernel_rfl) (fun _ _ _ h => h) (Or.inl ⟨by kernel_rfl, fun w _ => by go_simp⟩) ?_
            try simp only [Act.put, List.setIfInBounds_toArray, List.set_cons_zero, List.set_cons_succ]
            refine wpLate_done (by kernel_rfl) ?_ _
            go_simp
            go_wp2_with fail
            go_ret
            exact ⟨rfl, wlT.out⟩
  · have hno : okZ x y z u = false := by cases h : okZ x y z u with | false => rfl | true => exact absurd h hok
    clear hok
    go_enter Try.func7, Try.ntmps7
    go_wp2_with fail
    refine C1.out.mono ?_
    rintro e w1 ⟨rfl, rfl⟩
    go_wp2_with fail
    refine C2.out.mono ?_
    rintro e w1 ⟨rfl, rfl⟩
    go_wp2_with fail
    refine C3.out.mono ?_
    rintro e w1 ⟨rfl, rfl⟩
    go_wp2_with fail
    clear C1 C2 C3
    generalize w.alloc (.cells #[.int .i64 x, .int .i64 y, .int .i64 z, .int .i64 u, .int .u32 sd] 24) = wb at *
    have wbT := Lib.hid (Still.refl wb)
    have HSX : (wb.drew).cell? ⟨w.heap.size, 0, none⟩ = some (.int .i64 x) ∧ (wb.drew).cell? ⟨w.heap.size, 1, none⟩ = some (.int .i64 y) ∧ (wb.drew).cell? ⟨w.heap.size, 2, none⟩ = some (.int .i64 z) ∧ (wb.drew).cell? ⟨w.heap.size, 3, none⟩ = some (.int .i64 u) ∧ (wb.drew).cell? ⟨w.heap.size, 4, none⟩ = some (.int .u32 sd) := BX5.out _ (Still.trans wbT.out ((Still.refl _).drew))
    refine wp_region_late (S := fun W => W.cell? ⟨w.heap.size, 0, none⟩ = some (.int .i64 x) ∧ W.cell? ⟨w.heap.size, 1, none⟩ = some (.int .i64 y) ∧ W.cell? ⟨w.heap.size, 2, none⟩ = some (.int .i64 z) ∧ W.cell? ⟨w.heap.size, 3, none⟩ = some (.int .i64 u) ∧ W.cell? ⟨w.heap.size, 4, none⟩ = some (.int .u32 sd)) [] (by kernel_rfl) HSX (fun hHeld => ?_)
    clear HSX
    try simp only [Act.put, List.setIfInBounds_toArray, List.set_cons_zero, List.set_cons_succ]
    have HCP := Lib.hid (copy_any A1 n1 cap1 l1 wb.drew w.heap.size (RS1.out.reads.still (Nat.le_refl _) (Still.trans ST.out (Still.trans wbT.out ((Still.refl _).drew)))) (by omega) (fun e => RS1.out.nil e))
    refine wpLate_pure (i := 1) (v := .slice A1 n1 cap1) rfl (by kernel_rfl) (by kernel_rfl) (by kernel_rfl) (by kernel_rfl) (fun _ _ _ h => h) (Or.inl ⟨by kernel_rfl, fun w _ => by go_simp⟩) ?_
    try simp only [Act.put, List.setIfInBounds_toArray, List.set_cons_zero, List.set_cons_succ]
    refine wpLate_pure (i := 3) (v := .slice A3 n3 cap3) rfl (by kernel_rfl) (by kernel_rfl) (by kernel_rfl) (by kernel_rfl) (fun _ _ _ h => h) (Or.inl ⟨by kernel_rfl, fun w _ => by go_simp⟩) ?_
    try simp only [Act.put, List.setIfInBounds_toArray, List.set_cons_zero, List.set_cons_succ]
    refine wpLate_take (i := 0) (v := .agg #[.int .i64 x, .int .i64 y, .int .i64 z, .int .i64 u, .int .u32 sd]) [] rfl (by kernel_rfl) (by kernel_rfl) (by kernel_rfl) (by kernel_rfl) (by kernel_rfl) (by decide) (fun _ _ _ h => h) (Or.inl ⟨by kernel_rfl, fun w hS => by obtain ⟨h0, h1, h2, h3, h4⟩ := hS; go_simp⟩) (by assumption) (fun hHeld => ?_)
    try simp only [Act.put, List.setIfInBounds_toArray, List.set_cons_zero, List.set_cons_succ]
    refine wpLate_one (i := 2) (o := ⟨some 26, .call { callee := .value (.func 11), args := #[.tmp 25], argTypes := #[25] }, _, _, _, none⟩) (by kernel_rfl) rfl (fun K' hK' => ?_)
    go_simp
    go_wp2_with (go_at_call 11; refine HCP.out.mono ?_; rintro e wpa ⟨⟨wpv, rfl, o1⟩, t1⟩)
    have wpaT := Lib.hid (Still.trans wbT.out (Still.trans ((Still.refl _).drew) t1))
    have wpaO := Lib.hid (own_base o1 (lo := w.heap.size) (Nat.le_trans ST.out.size (Still.trans wbT.out ((Still.refl _).drew)).size))
    have wpaS := Lib.hid (And.intro t1 (Nat.le_trans ST.out.size (Still.trans wbT.out ((Still.refl _).drew)).size))
    have wpaP := Lib.hid o1
    clear HCP t1 o1
    refine hK'.out _ _ (fun _ _ => BX5.out _ wpaT.out) ?_
    clear hK' K'
    try simp only [Act.put, List.setIfInBounds_toArray, List.set_cons_zero, List.set_cons_succ]
    refine wpLate_one (i := 4) (o := ⟨some 28, .call { callee := .builtin .append, args := #[.tmp 26, .tmp 27], argTypes := #[25, 25] }, _, _, _, none⟩) (by kernel_rfl) rfl (fun K' hK' => ?_)
    rw [if_pos (by kernel_rfl)]
    have HXN : n1 + n3 ≤ 140737488355328 := by omega
    have HXS := wpaS.out.1.size
    with_reducible refine step_adds_at wpa (.tmp 26) (.tmp 27) (by kernel_rfl) wb.drew.heap.size wpv n1 l1 (by kernel_rfl) wpaP.out A3 n3 cap3 w.heap.size l3 (by kernel_rfl) (RS3.out.reads.still (Nat.le_refl _) (Still.trans ST.out wpaT.out)) (fun e => (RS3.out.nil e).2) HXN HXS ?_
    intro wpx wpb o2 g2 _
    obtain ⟨wpA, wpc, rfl, hx1, hx2, hx3⟩ := own_form o2
    have wpbT := Lib.hid (Still.trans wbT.out (Still.trans ((Still.refl _).drew) (wpaS.out.1.grown g2 HXS (fun k hk => own_block_ge wpaP.out k hk))))
    have wpbS := Lib.hid (Still.trans ((Still.refl wb).drew) (wpaS.out.1.grown g2 HXS (fun k hk => own_block_ge wpaP.out k hk)))
    have wpbR := Lib.hid (RowP.of_own o2)
    clear o2 g2 HXN HXS hx1 hx2 hx3
    refine hK'.out _ _ (fun _ _ => BX5.out _ wpbT.out) ?_
    clear hK' K'
    try simp only [Act.put, List.setIfInBounds_toArray, List.set_cons_zero, List.set_cons_succ]
    have HSP := Lib.hid (split_no x y z u sd (.slice wpA (n1 + n3) wpc) wpb hno)
    refine wpLate_one (i := 5) (o := ⟨some 29, .call { callee := .value (.func 12), args := #[.tmp 24, .tmp 28], argTypes := #[24, 25] }, _, _, _, none⟩) (by kernel_rfl) rfl (fun K' hK' => ?_)
    go_simp
    go_wp2_with (go_at_call 12; refine HSP.out.mono ?_; rintro e wp ⟨rfl, t3⟩)
    have wpT := Lib.hid (Still.trans wpbT.out t3)
    clear t3 HSP
    refine hK'.out _ _ (fun _ _ => BX5.out _ wpT.out) ?_
    clear hK' K'
    try simp only [Act.put, List.setIfInBounds_toArray, List.set_cons_zero, List.set_cons_succ]
    refine wpLate_pure (i := 6) (v := .tuple #[.slice none 0 0, .int .i64 2]) rfl (by kernel_rfl) (by kernel_rfl) (by kernel_rfl) (by kernel_rfl) (fun _ _ _ h => h) (Or.inl ⟨by kernel_rfl, fun w _ => by go_simp⟩) ?_
    try simp only [Act.put, List.setIfInBounds_toArray, List.set_cons_zero, List.set_cons_succ]
    refine wpLate_pure (i := 7) (v := .slice none 0 0) rfl (by kernel_rfl) (by kernel_rfl) (by kernel_rfl) (by kernel_rfl) (fun _ _ _ h => h) (Or.inl ⟨by kernel_rfl, fun w _ => by go_simp⟩) ?_
    try simp only [Act.put, List.setIfInBounds_toArray, List.set_cons_zero, List.set_cons_succ]
    refine wpLate_pure (i := 8) (v := .int .i64 2) rfl (by kernel_rfl) (by kernel_rfl) (by kernel_rfl) (by kernel_rfl) (fun _ _ _ h => h) (Or.inl ⟨by kernel_rfl, fun w _ => by go_simp⟩) ?_
    try simp only [Act.put, List.setIfInBounds_toArray, List.set_cons_zero, List.set_cons_succ]
    refine wpLate_pure (i := 9) (v := .slice none 0 0) rfl (by kernel_rfl) (by kernel_rfl) (by kernel_rfl) (by kernel_rfl) (fun _ _ _ h => h) (Or.inl ⟨by kernel_rfl, fun w _ => by go_simp⟩) ?_
    try simp only [Act.put, List.setIfInBounds_toArray, List.set_cons_zero, List.set_cons_succ]
    refine wpLate_pure (i := 10) (v := .int .i64 2) rfl (by kernel_rfl) (by kernel_rfl) (by kernel_rfl) (by kernel_rfl) (fun _ _ _ h => h) (Or.inl ⟨by kernel_rfl, fun w _ => by go_simp⟩) ?_
    try simp only [Act.put, List.setIfInBounds_toArray, List.set_cons_zero, List.set_cons_succ]
    refine wpLate_done (by kernel_rfl) ?_ _
    clear hHeld
    go_simp
    go_wp2_with fail
    have HSX : (wp.drew).cell? ⟨w.heap.size, 0, none⟩ = some (.int .i64 x) ∧ (wp.drew).cell? ⟨w.heap.size, 1, none⟩ = some (.int .i64 y) ∧ (wp.drew).cell? ⟨w.heap.size, 2, none⟩ = some (.int .i64 z) ∧ (wp.drew).cell? ⟨w.heap.size, 3, none⟩ = some (.int .i64 u) ∧ (wp.drew).cell? ⟨w.heap.size, 4, none⟩ = some (.int .u32 sd) := BX5.out _ (Still.trans wpT.out ((Still.refl _).drew))
    refine wp_region_late (S := fun W => W.cell? ⟨w.heap.size, 0, none⟩ = some (.int .i64 x) ∧ W.cell? ⟨w.heap.size, 1, none⟩ = some (.int .i64 y) ∧ W.cell? ⟨w.heap.size, 2, none⟩ = some (.int .i64 z) ∧ W.cell? ⟨w.heap.size, 3, none⟩ = some (.int .i64 u) ∧ W.cell? ⟨w.heap.size, 4, none⟩ = some (.int .u32 sd)) [] (by kernel_rfl) HSX (fun hHeld => ?_)
    clear HSX
    try simp only [Act.put, List.setIfInBounds_toArray, List.set_cons_zero, List.set_cons_succ]
    have HCP := Lib.hid (copy_any A2 n2 cap2 l2 wp.drew w.heap.size (RS2.out.reads.still (Nat.le_refl _) (Still.trans ST.out (Still.trans wpT.out ((Still.refl _).drew)))) (by omega) (fun e => RS2.out.nil e))
    refine wpLate_pure (i := 1) (v := .slice A2 n2 cap2) rfl (by kernel_rfl) (by kernel_rfl) (by kernel_rfl) (by kernel_rfl) (fun _ _ _ h => h) (Or.inl ⟨by kernel_rfl, fun w _ => by go_simp⟩) ?_
    try simp only [Act.put, List.setIfInBounds_toArray, List.set_cons_zero, List.set_cons_succ]
    refine wpLate_pure (i := 3) (v := .slice A3 n3 cap3) rfl (by kernel_rfl) (by kernel_rfl) (by kernel_rfl) (by kernel_rfl) (fun _ _ _ h => h) (Or.inl ⟨by kernel_rfl, fun w _ => by go_simp⟩) ?_
    try simp only [Act.put, List.setIfInBounds_toArray, List.set_cons_zero, List.set_cons_succ]
    refine wpLate_take (i := 0) (v := .agg #[.int .i64 x, .int .i64 y, .int .i64 z, .int .i64 u, .int .u32 sd]) [] rfl (by kernel_rfl) (by kernel_rfl) (by kernel_rfl) (by kernel_rfl) (by kernel_rfl) (by decide) (fun _ _ _ h => h) (Or.inl ⟨by kernel_rfl, fun w hS => by obtain ⟨h0, h1, h2, h3, h4⟩ := hS; go_simp⟩) (by assumption) (fun hHeld => ?_)
    try simp only [Act.put, List.setIfInBounds_toArray, List.set_cons_zero, List.set_cons_succ]
    refine wpLate_one (i := 2) (o := ⟨some 35, .call { callee := .value (.func 11), args := #[.tmp 34], argTypes := #[25] }, _, _, _, none⟩) (by kernel_rfl) rfl (fun K' hK' => ?_)
    go_simp
    go_wp2_with (go_at_call 11; refine HCP.out.mono ?_; rintro e wqa ⟨⟨wqv, rfl, o1⟩, t1⟩)
    have wqaT := Lib.hid (Still.trans wpT.out (Still.trans ((Still.refl _).drew) t1))
    have wqaO := Lib.hid (own_base o1 (lo := w.heap.size) (Nat.le_trans ST.out.size (Still.trans wpT.out ((Still.refl _).drew)).size))
    have wqaS := Lib.hid (And.intro t1 (Nat.le_trans ST.out.size (Still.trans wpT.out ((Still.refl _).drew)).size))
    have wqaP := Lib.hid o1
    clear HCP t1 o1
    refine hK'.out _ _ (fun _ _ => BX5.out _ wqaT.out) ?_
    clear hK' K'
    try simp only [Act.put, List.setIfInBounds_toArray, List.set_cons_zero, List.set_cons_succ]
    refine wpLate_one (i := 4) (o := ⟨some 37, .call { callee := .builtin .append, args := #[.tmp 35, .tmp 36], argTypes := #[25, 25] }, _, _, _, none⟩) (by kernel_rfl) rfl (fun K' hK' => ?_)
    rw [if_pos (by kernel_rfl)]
    have HXN : n2 + n3 ≤ 140737488355328 := by omega
    have HXS := wqaS.out.1.size
    with_reducible refine step_adds_at wqa (.tmp 35) (.tmp 36) (by kernel_rfl) wp.drew.heap.size wqv n2 l2 (by kernel_rfl) wqaP.out A3 n3 cap3 w.heap.size l3 (by kernel_rfl) (RS3.out.reads.still (Nat.le_refl _) (Still.trans ST.out wqaT.out)) (fun e => (RS3.out.nil e).2) HXN HXS ?_
    intro wqx wqb o2 g2 _
    obtain ⟨wqA, wqc, rfl, hx1, hx2, hx3⟩ := own_form o2
    have wqbT := Lib.hid (Still.trans wpT.out (Still.trans ((Still.refl _).drew) (wqaS.out.1.grown g2 HXS (fun k hk => own_block_ge wqaP.out k hk))))
    have wqbS := Lib.hid (Still.trans ((Still.refl wp).drew) (wqaS.out.1.grown g2 HXS (fun k hk => own_block_ge wqaP.out k hk)))
    have wqbR := Lib.hid (RowP.of_own o2)
    clear o2 g2 HXN HXS hx1 hx2 hx3
    refine hK'.out _ _ (fun _ _ => BX5.out _ wqbT.out) ?_
    clear hK' K'
    try simp only [Act.put, List.setIfInBounds_toArray, List.set_cons_zero, List.set_cons_succ]
    have HSP := Lib.hid (split_no x y z u sd (.slice wqA (n2 + n3) wqc) wqb hno)
    refine wpLate_one (i := 5) (o := ⟨some 38, .call { callee := .value (.func 12), args := #[.tmp 33, .tmp 37], argTypes := #[24, 25] }, _, _, _, none⟩) (by kernel_rfl) rfl (fun K' hK' => ?_)
    go_simp
    go_wp2_with (go_at_call 12; refine HSP.out.mono ?_; rintro e wq ⟨rfl, t3⟩)
    have wqT := Lib.hid (Still.trans wqbT.out t3)
    clear t3 HSP
    refine hK'.out _ _ (fun _ _ => BX5.out _ wqT.out) ?_
    clear hK' K'
    try simp only [Act.put, List.setIfInBounds_toArray, List.set_cons_zero, List.set_cons_succ]
    refine wpLate_pure (i := 6) (v := .tuple #[.slice none 0 0, .int .i64 2]) rfl (by kernel_rfl) (by kernel_rfl) (by kernel_rfl) (by kernel_rfl) (fun _ _ _ h => h) (Or.inl ⟨by kernel_rfl, fun w _ => by go_simp⟩) ?_
    try simp only [Act.put, List.setIfInBounds_toArray, List.set_cons_zero, List.set_cons_succ]
    refine wpLate_pure (i := 7) (v := .slice none 0 0) rfl (by kernel_rfl) (by kernel_rfl) (by kernel_rfl) (by kernel_rfl) (fun _ _ _ h => h) (Or.inl ⟨by kernel_rfl, fun w _ => by go_simp⟩) ?_
    try simp only [Act.put, List.setIfInBounds_toArray, List.set_cons_zero, List.set_cons_succ]
    refine wpLate_pure (i := 8) (v := .int .i64 2) rfl (by kernel_rfl) (by kernel_rfl) (by kernel_rfl) (by kernel_rfl) (fun _ _ _ h => h) (Or.inl ⟨by kernel_rfl, fun w _ => by go_simp⟩) ?_
    try simp only [Act.put, List.setIfInBounds_toArray, List.set_cons_zero, List.set_cons_succ]
    refine wpLate_pure (i := 9) (v := .slice none 0 0) rfl (by kernel_rfl) (by kernel_rfl) (by kernel_rfl) (by kernel_rfl) (fun _ _ _ h => h) (Or.inl ⟨by kernel_rfl, fun w _ => by go_simp⟩) ?_
    try simp only [Act.put, List.setIfInBounds_toArray, List.set_cons_zero, List.set_cons_succ]
    refine wpLate_pure (i := 10) (v := .int .i64 2) rfl (by kernel_rfl) (by kernel_rfl) (by kernel_rfl) (by kernel_rfl) (fun _ _ _ h => h) (Or.inl ⟨by kernel_rfl, fun w _ => by go_simp⟩) ?_
    try simp only [Act.put, List.setIfInBounds_toArray, List.set_cons_zero, List.set_cons_succ]
    refine wpLate_done (by kernel_rfl) ?_ _
    clear hHeld
    go_simp
    have ⟨b0, b1, b2, b3, b4⟩ := BX5.out _ wqT.out
    go_wp2_with fail
    refine (split_no x y z u sd (.slice A3 n3 cap3) wq hno).mono ?_
    rintro e wr ⟨rfl, t3⟩
    have wrT := Lib.hid (Still.trans wqT.out t3)
    clear t3
    clear b0 b1 b2 b3 b4
    go_wp2_with fail
    refine (LV.out _).mono ?_
    rintro e wl ⟨rfl, tl⟩
    have wlT := Lib.hid (Still.trans ST.out (Still.trans wrT.out tl))
    clear tl
    go_wp2_with fail
    go_ret
    exact ⟨rfl, wlT.out⟩
end Go.Proofs.Ytjihnagoebhinaa
