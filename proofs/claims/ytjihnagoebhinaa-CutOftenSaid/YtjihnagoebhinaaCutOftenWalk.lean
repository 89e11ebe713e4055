/- The walk of CutOften: it returns true, and nothing that was there turns. -/
import Derived.Test.YtjihnagoebhinaaCtFrom
import Derived.Test.YtjihnagoebhinaaWithin
import Derived.Test.YtjihnagoebhinaaLate
namespace Go.Proofs.Ytjihnagoebhinaa
open Go.RowKit
set_option linter.unusedVariables false
set_option linter.unusedSimpArgs false

/-- Two may come up. -/
theorem wpLate_two {P : Program} {ops : Array Oper} {Q : Exit → Act → World → Prop} {md : Region.Mode} {S : World → Prop} {U : List Nat} {i j : Nat} {o p : Oper} {fuel : Nat} {done : Array Bool} {a : Act} {w : World} (hr : Region.ready md ops done = [i, j]) (ho : ops[i]? = some o) (hp : ops[j]? = some p)
    (h1 : ∀ K' : Act → World → Prop, Shut (∀ a' w', (S w → U.contains i = false → S w') → wpLate P md ops Q S U fuel (done.setIfInBounds i true) a' w' → K' a' w') →
      if Region.wanted o (yielded ops a.tmps) = true then Oper.wp P o a w K' Q else K' (a.put o.dst undef) w)
    (h2 : ∀ K' : Act → World → Prop, Shut (∀ a' w', (S w → U.contains j = false → S w') → wpLate P md ops Q S U fuel (done.setIfInBounds j true) a' w' → K' a' w') →
      if Region.wanted p (yielded ops a.tmps) = true then Oper.wp P p a w K' Q else K' (a.put p.dst undef) w) : wpLate P md ops Q S U (fuel + 1) done a w := by
  refine ⟨fun h0 => absurd (hr ▸ h0) (by simp), ?_⟩
  intro k hk
  rw [hr] at hk
  have hji : k = i ∨ k = j := by simpa using hk
  rcases hji with rfl | rfl
  · exact wpOp_step ho (fun K' hK => h1 K' (fun a w hS hW => hK a w ⟨hS, hW⟩))
  · exact wpOp_step hp (fun K' hK => h2 K' (fun a w hS hW => hK a w ⟨hS, hW⟩))
theorem often_one (d n sd : Nat) (hd : d ≤ 8192) (l : List UInt8) (hl : l.length ≤ d) : endS ⟨d, 8192, 0, n, sd⟩ l = decide (l.length = d) := by
  unfold endS
  simp only [Nat.pow_zero, Nat.mod_one, decide_true, Bool.and_true]
  by_cases h : l.length = d
  · simp [h]
  · have h1 : ¬ l.length = 8192 := by omega
    have h2 : ¬ d ≤ l.length := by omega
    simp [h, h1, h2]
theorem often_two (d k n sd : Nat) (l : List UInt8) (hl : l.length ≤ d) : endS ⟨d, d, k, n, sd⟩ l = decide (l.length = d) := by
  unfold endS
  simp only
  by_cases h : l.length = d
  · simp [h]
  · have h2 : ¬ d ≤ l.length := by omega
    simp [h, h2]
theorem Try.infoShape : (Try.prog.info? 24).map (fun i => (i.zero, i.size, i.bytes)) = some (some (.agg #[.int .i64 0, .int .i64 0, .int .i64 0, .int .i64 0, .int .u32 0]), 5, 40) := by kernel_rfl
theorem step_allocSh (w : World) {o : Oper} {a : Act} {K : Act → World → Prop} {Q : Exit → Act → World → Prop} (ho : o.op = .alloc 24)
    (h : K (a.put o.dst (.pointer (some ⟨w.heap.size, 0, none⟩))) (w.alloc (.cells #[.int .i64 0, .int .i64 0, .int .i64 0, .int .i64 0, .int .u32 0] 24))) : o.wp Try.prog a w K Q := by
  obtain ⟨i0, hi, hz0, hz1, hz2⟩ := info_parts Try.infoShape
  unfold Oper.wp
  simp only [run_alloc_arr a.eval o 24 ho #[.int .i64 0, .int .i64 0, .int .i64 0, .int .i64 0, .int .u32 0] 5 (by rw [hi]; simp [hz0, hz1]) w]
  exact h
theorem step_storeSh (w : World) {o : Oper} {a : Act} {K : Act → World → Prop} {Q : Exit → Act → World → Prop} (x y : Operand) (ho : o.op = .store 24 x y)
    (g : Nat) (hx : a.eval x = .pointer (some ⟨g, 0, none⟩)) (cs old : Array Value) (hy : a.eval y = .agg cs) (h7 : cs.size = 5) (ho7 : old.size = 5) (h1 : cs.all (·.oneCell') = true) (hg : Blk w g 24 old)
    (h : K (a.put o.dst undef) (w.setRow g cs)) : o.wp Try.prog a w K Q := by
  obtain ⟨i0, hi, hz0, hz1, hz2⟩ := info_parts Try.infoShape
  exact wp_store_row 24 x y ho g cs hx hy _ old hg (by rw [hi]; simp [hz1, h7]) (by rw [h7, ho7]) h1 h
theorem below_row {B g : Nat} {w0 w : World} (hb : Below B w0 w) (hBg : B ≤ g) (cs : Array Value) : Below B w0 (w.setRow g cs) :=
  ⟨hb.os, hb.tape, hb.output, by simpa using hb.size, fun k hk => (setRow_other w g k cs (by omega)).trans (hb.block k hk)⟩
theorem five {W : World} {g : Nat} {v0 v1 v2 v3 v4 : Value} (h : Blk W g 24 #[v0, v1, v2, v3, v4]) : W.cell? ⟨g, 0, none⟩ = some v0 ∧ W.cell? ⟨g, 1, none⟩ = some v1 ∧ W.cell? ⟨g, 2, none⟩ = some v2 ∧ W.cell? ⟨g, 3, none⟩ = some v3 ∧ W.cell? ⟨g, 4, none⟩ = some v4 := ⟨h.cell 0, h.cell 1, h.cell 2, h.cell 3, h.cell 4⟩
theorem Blk.row {W : World} {g k : Nat} {t : TypeId} {cs cs' : Array Value} (h : Blk W g t cs) (e : g ≠ k) : Blk (W.setRow k cs') g t cs := (setRow_other W k g cs' e).trans h
theorem Blk.rowAt {W : World} {g : Nat} {t : TypeId} {cs cs' : Array Value} (h : Blk W g t cs) : Blk (W.setRow g cs') g t cs' := setRow_heap W g cs cs' t (0, 0) h
set_option maxRecDepth 100000 in
set_option maxHeartbeats 6400000 in
theorem cutOften_walk (x y z u sd : Int) (A1 : Option Addr) (len1 cap1 : Nat) (z1 : List Int) (w : World) (hsd : 0 ≤ sd ∧ sd ≤ 4294967295) (h1 : RowIn .u8 w A1 len1 cap1 z1) :
    Calls Try.prog 8 #[.agg #[.int .i64 x, .int .i64 y, .int .i64 z, .int .i64 u, .int .u32 sd], .slice A1 len1 cap1] w fun e w' => e = .returned (.bool true) ∧ Below w.heap.size w w' := by
  obtain ⟨sd, rfl⟩ := Int.eq_ofNat_of_zero_le hsd.1
  have hsd2 : sd < 4294967296 := by omega
  have st := (Still.refl w).alloc (Nat.le_refl _) (.cells #[.int .i64 x, .int .i64 y, .int .i64 z, .int .i64 u, .int .u32 (sd : Nat)] 24)
  have hb := Blk.new w 24 #[.int .i64 x, .int .i64 y, .int .i64 z, .int .i64 u, .int .u32 (sd : Nat)]
  have hcr : ∃ n l, RowS w w.heap.size A1 n cap1 l ∧ n ≤ 2000 ∧ Calls Try.prog 10 #[.slice A1 len1 cap1, .int .i64 2000] (w.alloc (.cells #[.int .i64 x, .int .i64 y, .int .i64 z, .int .i64 u, .int .u32 (sd : Nat)] 24)) fun e w' => e = .returned (.slice A1 n cap1) ∧ (w.alloc (.cells #[.int .i64 x, .int .i64 y, .int .i64 z, .int .i64 u, .int .u32 (sd : Nat)] 24)) = w' := by
    obtain ⟨l0, r0, hc0, hm0, hA0⟩ := reads_of_row h1
    exact ⟨_, _, ⟨r0.take 2000, by omega, hm0, fun e => ⟨by have := (hA0 e).1; omega, (hA0 e).2⟩⟩, by omega, cut_any A1 len1 cap1 2000 l0 _ _ (r0.still (Nat.le_refl _) st) hc0 hm0 (by omega)⟩
  obtain ⟨n1, l1, rs1, hn1, HC1⟩ := hcr
  have RS1 := Lib.hid rs1
  have C1 := Lib.hid HC1
  have ST := Lib.hid st
  have B0 := Lib.hid hb
  have LV := Lib.hid (fun W => lives_any W)
  obtain ⟨g0, hg0⟩ : ∃ g0, g0 = w.heap.size := ⟨_, rfl⟩
  have HG := Lib.hid hg0
  have b3 := hb.cell 3
  have f3 := hb.frozen 3
  simp only [List.getElem?_toArray, List.getElem?_cons_succ, List.getElem?_cons_zero] at b3
  clear hb h1 rs1 HC1 hsd hg0 st
  go_enter Try.func8, Try.ntmps8
  go_wp2_with fail
  refine C1.out.mono ?_
  rintro e w1 ⟨rfl, rfl⟩
  clear C1
  generalize (w.alloc (.cells #[.int .i64 x, .int .i64 y, .int .i64 z, .int .i64 u, .int .u32 (sd : Nat)] 24)) = wz at *
  go_wp2_with fail
  refine (within_any u 1 63 wz (by omega)).mono ?_
  rintro e w1 ⟨⟨v, hv1, hv2, rfl⟩, rfl⟩
  obtain ⟨n, rfl⟩ := Int.eq_ofNat_of_zero_le (show 0 ≤ v by omega)
  have B1 := Lib.hid (show Blk _ w.heap.size 24 #[.int .i64 x, .int .i64 y, .int .i64 z, .int .i64 (n : Nat), .int .u32 (sd : Nat)] from B0.out.setc 3 (.int .i64 (n : Nat)))
  have T1 := Lib.hid (ST.out.grown (grownBy_set _ w.heap.size 3 (.int .i64 (n : Nat))) ST.out.size (fun k hk => by have := Option.some.inj hk; omega))
  have b0 := B1.out.cell 0
  have b3' := B1.out.cell 3
  have f0 := B1.out.frozen 0
  simp only [List.getElem?_toArray, List.getElem?_cons_succ, List.getElem?_cons_zero] at b0 b3'
  go_wp2_with fail
  generalize wz.setCell ⟨w.heap.size, 3, none⟩ (.int .i64 (n : Nat)) = w2 at *
  clear b3 f3 B0 ST
  refine (within_any x (n : Nat) 8192 w2 (by omega)).mono ?_
  rintro e w1 ⟨⟨v, hd1, hd2, rfl⟩, rfl⟩
  obtain ⟨d, rfl⟩ := Int.eq_ofNat_of_zero_le (show 0 ≤ v by omega)
  have B2 := Lib.hid (show Blk _ w.heap.size 24 #[.int .i64 (d : Nat), .int .i64 y, .int .i64 z, .int .i64 (n : Nat), .int .u32 (sd : Nat)] from B1.out.setc 0 (.int .i64 (d : Nat)))
  have T2 := Lib.hid (T1.out.grown (grownBy_set w2 w.heap.size 0 (.int .i64 (d : Nat))) T1.out.size (fun k hk => by have := Option.some.inj hk; omega))
  go_wp2_with fail
  generalize w2.setCell ⟨w.heap.size, 0, none⟩ (.int .i64 (d : Nat)) = w3 at *
  clear b0 b3' f0 B1 T1
  have HND := Lib.hid (show n ≤ d ∧ d ≤ 8192 ∧ 1 ≤ n ∧ n ≤ 63 by omega)
  clear hd1 hd2 hv1 hv2
  refine wp_region_late (S := fun W => W.cell? ⟨w.heap.size, 0, none⟩ = some (.int .i64 (d : Nat)) ∧ W.cell? ⟨w.heap.size, 1, none⟩ = some (.int .i64 y) ∧ W.cell? ⟨w.heap.size, 2, none⟩ = some (.int .i64 z) ∧ W.cell? ⟨w.heap.size, 3, none⟩ = some (.int .i64 (n : Nat)) ∧ W.cell? ⟨w.heap.size, 4, none⟩ = some (.int .u32 (sd : Nat))) [] (by kernel_rfl) (five (B2.out.still ((Still.refl _).drew))) (fun hHeld => ?_)
  have B3 := Lib.hid (B2.out.still ((Still.refl w3).drew))
  have T3 := Lib.hid (T2.out.drew)
  generalize w3.drew = w4 at *
  clear B2 T2
  try simp only [Act.put, List.setIfInBounds_toArray, List.set_cons_zero, List.set_cons_succ]
  refine wpLate_take (i := 0) (v := .agg #[.int .i64 (d : Nat), .int .i64 y, .int .i64 z, .int .i64 (n : Nat), .int .u32 (sd : Nat)]) [] rfl (by kernel_rfl) (by kernel_rfl) (by kernel_rfl) (by kernel_rfl) (by kernel_rfl) (by decide) (fun _ _ _ h => h) (Or.inl ⟨by kernel_rfl, fun w hS => by obtain ⟨h0, h1, h2, h3, h4⟩ := hS; go_simp⟩) (by assumption) (fun hHeld => ?_)
  try simp only [Act.put, List.setIfInBounds_toArray, List.set_cons_zero, List.set_cons_succ]
  refine wpLate_take (i := 1) (v := .agg #[.int .i64 (d : Nat), .int .i64 y, .int .i64 z, .int .i64 (n : Nat), .int .u32 (sd : Nat)]) [] rfl (by kernel_rfl) (by kernel_rfl) (by kernel_rfl) (by kernel_rfl) (by kernel_rfl) (by decide) (fun _ _ _ h => h) (Or.inl ⟨by kernel_rfl, fun w hS => by obtain ⟨h0, h1, h2, h3, h4⟩ := hS; go_simp⟩) (by assumption) (fun hHeld => ?_)
  try simp only [Act.put, List.setIfInBounds_toArray, List.set_cons_zero, List.set_cons_succ]
  refine wpLate_two (i := 2) (j := 3) (o := ⟨some 5, .alloc 24, _, _, _, none⟩) (p := ⟨some 6, .alloc 24, _, _, _, none⟩) (by kernel_rfl) rfl rfl (fun K' hK' => ?_) (fun K' hK' => ?_)
  · rw [if_pos (by kernel_rfl)]
    with_reducible refine step_allocSh w4 (by kernel_rfl) ?_
    have t4 := T3.out.alloc (Nat.le_trans (Nat.le_refl _) T3.out.size) (.cells #[.int .i64 0, .int .i64 0, .int .i64 0, .int .i64 0, .int .u32 0] 24)
    have bp := Blk.new w4 24 #[.int .i64 0, .int .i64 0, .int .i64 0, .int .i64 0, .int .u32 0]
    have bg := B3.out.alloc (.cells #[.int .i64 0, .int .i64 0, .int .i64 0, .int .i64 0, .int .u32 0] 24)
    obtain ⟨p, hp⟩ : ∃ k, k = w4.heap.size := ⟨_, rfl⟩
    rw [← hp] at bp ⊢
    have hgp : w.heap.size < p := by rw [hp]; exact B3.out.lt
    generalize w4.alloc (.cells #[.int .i64 0, .int .i64 0, .int .i64 0, .int .i64 0, .int .u32 0] 24) = w5 at *
    refine hK'.out _ _ (fun _ _ => five bg) ?_
    clear hK' K'
    try simp only [Act.put, List.setIfInBounds_toArray, List.set_cons_zero, List.set_cons_succ]
    refine wpLate_one (i := 3) (o := ⟨some 6, .alloc 24, _, _, _, none⟩) (by kernel_rfl) rfl (fun K' hK' => ?_)
    rw [if_pos (by kernel_rfl)]
    with_reducible refine step_allocSh w5 (by kernel_rfl) ?_
    have t5 := t4.alloc t4.size (.cells #[.int .i64 0, .int .i64 0, .int .i64 0, .int .i64 0, .int .u32 0] 24)
    have bq := Blk.new w5 24 #[.int .i64 0, .int .i64 0, .int .i64 0, .int .i64 0, .int .u32 0]
    have bp5 := bp.alloc (.cells #[.int .i64 0, .int .i64 0, .int .i64 0, .int .i64 0, .int .u32 0] 24)
    have bg5 := bg.alloc (.cells #[.int .i64 0, .int .i64 0, .int .i64 0, .int .i64 0, .int .u32 0] 24)
    obtain ⟨q, hq⟩ : ∃ k, k = w5.heap.size := ⟨_, rfl⟩
    rw [← hq] at bq ⊢
    have hpq : p ≠ q := by have := bp.lt; omega
    have hgq : w.heap.size < q := by have := bp.lt; omega
    generalize w5.alloc (.cells #[.int .i64 0, .int .i64 0, .int .i64 0, .int .i64 0, .int .u32 0] 24) = w6 at *
    refine hK'.out _ _ (fun _ _ => five bg5) ?_
    clear hK' K'
    try simp only [Act.put, List.setIfInBounds_toArray, List.set_cons_zero, List.set_cons_succ]
    have bP : Blk w6 p 24 #[.int .i64 0, .int .i64 0, .int .i64 0, .int .i64 0, .int .u32 0] := bp5
    have bQ : Blk w6 q 24 #[.int .i64 0, .int .i64 0, .int .i64 0, .int .i64 0, .int .u32 0] := bq
    have HPQ := Lib.hid (show p ≠ q ∧ w.heap.size < p ∧ w.heap.size < q by omega)
    have T6 := Lib.hid t5
    have BG6 := Lib.hid bg5
    have BP6 := Lib.hid bP
    have BQ6 := Lib.hid bQ
    clear bp bg bq bp5 bg5 bP bQ t4 t5 hgp hgq hpq hp hq
    refine wpLate_one (i := 4) (o := ⟨none, .store 24 (.tmp 5) (.tmp 24), _, _, _, none⟩) (by kernel_rfl) rfl (fun K' hK' => ?_)
    rw [if_pos (by kernel_rfl)]
    with_reducible refine step_storeSh w6 (.tmp 5) (.tmp 24) (by kernel_rfl) p (by kernel_rfl) #[.int .i64 (d : Nat), .int .i64 y, .int .i64 z, .int .i64 (n : Nat), .int .u32 (sd : Nat)] #[.int .i64 0, .int .i64 0, .int .i64 0, .int .i64 0, .int .u32 0] (by kernel_rfl) rfl rfl (by simp [Value.oneCell']) BP6.out ?_
    have BG7 := Lib.hid (Blk.row (cs' := #[.int .i64 (d : Nat), .int .i64 y, .int .i64 z, .int .i64 (n : Nat), .int .u32 (sd : Nat)]) BG6.out (show w.heap.size ≠ p by have := HPQ.out; omega))
    have BP7 := Lib.hid (Blk.rowAt (cs' := #[.int .i64 (d : Nat), .int .i64 y, .int .i64 z, .int .i64 (n : Nat), .int .u32 (sd : Nat)]) BP6.out)
    have BQ7 := Lib.hid (Blk.row (cs' := #[.int .i64 (d : Nat), .int .i64 y, .int .i64 z, .int .i64 (n : Nat), .int .u32 (sd : Nat)]) BQ6.out (show q ≠ p from fun e => HPQ.out.1 e.symm))
    have T7 := Lib.hid (below_row T6.out (show w.heap.size ≤ p by have := HPQ.out; omega) #[.int .i64 (d : Nat), .int .i64 y, .int .i64 z, .int .i64 (n : Nat), .int .u32 (sd : Nat)])
    generalize w6.setRow p #[.int .i64 (d : Nat), .int .i64 y, .int .i64 z, .int .i64 (n : Nat), .int .u32 (sd : Nat)] = w7 at *
    refine hK'.out _ _ (fun _ _ => five BG7.out) ?_
    clear hK' K' BG6 BP6 BQ6 T6
    try simp only [Act.put, List.setIfInBounds_toArray, List.set_cons_zero, List.set_cons_succ]
    refine wpLate_one (i := 5) (o := ⟨none, .store 24 (.tmp 6) (.tmp 25), _, _, _, none⟩) (by kernel_rfl) rfl (fun K' hK' => ?_)
    rw [if_pos (by kernel_rfl)]
    with_reducible refine step_storeSh w7 (.tmp 6) (.tmp 25) (by kernel_rfl) q (by kernel_rfl) #[.int .i64 (d : Nat), .int .i64 y, .int .i64 z, .int .i64 (n : Nat), .int .u32 (sd : Nat)] #[.int .i64 0, .int .i64 0, .int .i64 0, .int .i64 0, .int .u32 0] (by kernel_rfl) rfl rfl (by simp [Value.oneCell']) BQ7.out ?_
    have BG8 := Lib.hid (Blk.row (cs' := #[.int .i64 (d : Nat), .int .i64 y, .int .i64 z, .int .i64 (n : Nat), .int .u32 (sd : Nat)]) BG7.out (show w.heap.size ≠ q by have := HPQ.out; omega))
    have BQ8 := Lib.hid (Blk.rowAt (cs' := #[.int .i64 (d : Nat), .int .i64 y, .int .i64 z, .int .i64 (n : Nat), .int .u32 (sd : Nat)]) BQ7.out)
    have BP8 := Lib.hid (Blk.row (cs' := #[.int .i64 (d : Nat), .int .i64 y, .int .i64 z, .int .i64 (n : Nat), .int .u32 (sd : Nat)]) BP7.out HPQ.out.1)
    have T8 := Lib.hid (below_row T7.out (show w.heap.size ≤ q by have := HPQ.out; omega) #[.int .i64 (d : Nat), .int .i64 y, .int .i64 z, .int .i64 (n : Nat), .int .u32 (sd : Nat)])
    generalize w7.setRow q #[.int .i64 (d : Nat), .int .i64 y, .int .i64 z, .int .i64 (n : Nat), .int .u32 (sd : Nat)] = w8 at *
    refine hK'.out _ _ (fun _ _ => five BG8.out) ?_
    clear hK' K' BG7 BP7 BQ7 T7
    try simp only [Act.put, List.setIfInBounds_toArray, List.set_cons_zero, List.set_cons_succ]
    refine wpLate_done (by kernel_rfl) ?_ _
    clear hHeld
    go_simp
    have b2 := BP8.out.cell 2
    have f2 := BP8.out.frozen 2
    have BP9 := Lib.hid (show Blk _ p 24 #[.int .i64 (d : Nat), .int .i64 y, .int .i64 0, .int .i64 (n : Nat), .int .u32 (sd : Nat)] from BP8.out.setc 2 (.int .i64 0))
    have b1 := BP9.out.cell 1
    have f1 := BP9.out.frozen 1
    have BPA := Lib.hid (show Blk _ p 24 #[.int .i64 (d : Nat), .int .i64 8192, .int .i64 0, .int .i64 (n : Nat), .int .u32 (sd : Nat)] from BP9.out.setc 1 (.int .i64 8192))
    have BGA := Lib.hid ((BG8.out.far (p := ⟨p, 2, none⟩) (show w.heap.size ≠ p by have := HPQ.out; omega) (.int .i64 0)).far (p := ⟨p, 1, none⟩) (show w.heap.size ≠ p by have := HPQ.out; omega) (.int .i64 8192))
    have BQA := Lib.hid ((BQ8.out.far (p := ⟨p, 2, none⟩) (show q ≠ p from fun e => HPQ.out.1 e.symm) (.int .i64 0)).far (p := ⟨p, 1, none⟩) (show q ≠ p from fun e => HPQ.out.1 e.symm) (.int .i64 8192))
    have TA := Lib.hid ((T8.out.grown (grownBy_set w8 p 2 (.int .i64 0)) T8.out.size (fun k hk => by have := Option.some.inj hk; have := HPQ.out; omega)).grown (grownBy_set _ p 1 (.int .i64 8192)) (Nat.le_trans T8.out.size (grownBy_set w8 p 2 (.int .i64 0)).size) (fun k hk => by have := Option.some.inj hk; have := HPQ.out; omega))
    simp only [List.getElem?_toArray, List.getElem?_cons_succ, List.getElem?_cons_zero] at b1 b2
    clear BG8 BP8 BQ8 T8 BP9
    go_wp2_with fail
    generalize (w8.setCell ⟨p, 2, none⟩ (.int .i64 0)).setCell ⟨p, 1, none⟩ (.int .i64 8192) = wa at *
    clear b1 b2 f1 f2
    refine wp_region_late (S := fun W => W.cell? ⟨w.heap.size, 2, none⟩ = some (.int .i64 z) ∧ W.cell? ⟨w.heap.size, 0, none⟩ = some (.int .i64 (d : Nat))) [] (by kernel_rfl) ⟨(BGA.out.still ((Still.refl _).drew)).cell 2, (BGA.out.still ((Still.refl _).drew)).cell 0⟩ (fun hHeld => ?_)
    have BGB := Lib.hid (BGA.out.still ((Still.refl wa).drew))
    have BPB := Lib.hid (BPA.out.still ((Still.refl wa).drew))
    have BQB := Lib.hid (BQA.out.still ((Still.refl wa).drew))
    have TB := Lib.hid (TA.out.drew)
    generalize wa.drew = wb at *
    clear BGA BPA BQA TA
    try simp only [Act.put, List.setIfInBounds_toArray, List.set_cons_zero, List.set_cons_succ]
    refine wpLate_pure (i := 0) (v := .pointer (some ⟨w.heap.size, 2, none⟩)) rfl (by kernel_rfl) (by kernel_rfl) (by kernel_rfl) (by kernel_rfl) (fun _ _ _ h => h) (Or.inl ⟨by kernel_rfl, fun w _ => by go_simp⟩) ?_
    try simp only [Act.put, List.setIfInBounds_toArray, List.set_cons_zero, List.set_cons_succ]
    refine wpLate_pure (i := 3) (v := .pointer (some ⟨w.heap.size, 0, none⟩)) rfl (by kernel_rfl) (by kernel_rfl) (by kernel_rfl) (by kernel_rfl) (fun _ _ _ h => h) (Or.inl ⟨by kernel_rfl, fun w _ => by go_simp⟩) ?_
    try simp only [Act.put, List.setIfInBounds_toArray, List.set_cons_zero, List.set_cons_succ]
    refine wpLate_take (i := 1) (v := .int .i64 z) [] rfl (by kernel_rfl) (by kernel_rfl) (by kernel_rfl) (by kernel_rfl) (by kernel_rfl) (by decide) (fun _ _ _ h => h) (Or.inl ⟨by kernel_rfl, fun w hS => by obtain ⟨h0, h1⟩ := hS; go_simp⟩) (by assumption) (fun hHeld => ?_)
    try simp only [Act.put, List.setIfInBounds_toArray, List.set_cons_zero, List.set_cons_succ]
    refine wpLate_take (i := 4) (v := .int .i64 (d : Nat)) [] rfl (by kernel_rfl) (by kernel_rfl) (by kernel_rfl) (by kernel_rfl) (by kernel_rfl) (by decide) (fun _ _ _ h => h) (Or.inl ⟨by kernel_rfl, fun w hS => by obtain ⟨h0, h1⟩ := hS; go_simp⟩) (by assumption) (fun hHeld => ?_)
    try simp only [Act.put, List.setIfInBounds_toArray, List.set_cons_zero, List.set_cons_succ]
    refine wpLate_one (i := 2) (o := ⟨some 30, .call { callee := .value (.func 24), args := #[.tmp 29, .const (.int .i64 0), .const (.int .i64 20)], argTypes := #[3, 3, 3] }, _, _, _, none⟩) (by kernel_rfl) rfl (fun K' hK' => ?_)
    go_simp
    go_wp2_with (go_at_call 24; refine (within_any z 0 20 wb (by omega)).mono ?_; rintro e w1 ⟨⟨v, hk1, hk2, rfl⟩, rfl⟩)
    obtain ⟨k, rfl⟩ := Int.eq_ofNat_of_zero_le (show 0 ≤ v by omega)
    refine hK'.out _ _ (fun h _ => h) ?_
    clear hK' K'
    try simp only [Act.put, List.setIfInBounds_toArray, List.set_cons_zero, List.set_cons_succ]
    refine wpLate_pure (i := 5) (v := .pointer (some ⟨q, 2, none⟩)) rfl (by kernel_rfl) (by kernel_rfl) (by kernel_rfl) (by kernel_rfl) (fun _ _ _ h => h) (Or.inl ⟨by kernel_rfl, fun w _ => by go_simp⟩) ?_
    try simp only [Act.put, List.setIfInBounds_toArray, List.set_cons_zero, List.set_cons_succ]
    refine wpLate_one (i := 6) (o := ⟨none, .store 3 (.tmp 33) (.tmp 30), _, _, _, none⟩) (by kernel_rfl) rfl (fun K' hK' => ?_)
    rw [if_pos (by kernel_rfl)]
    have kc := BQB.out.cell 2
    have kf := BQB.out.frozen 2
    simp only [List.getElem?_toArray, List.getElem?_cons_succ, List.getElem?_cons_zero] at kc
    with_reducible refine step_storeC _ 3 (.tmp 33) (.tmp 30) (by kernel_rfl) q 2 (.int .i64 (k : Nat)) (.int .i64 z) (by kernel_rfl) (by kernel_rfl) rfl (by kernel_rfl) kc kf ?_
    clear kc kf
    have BQC := Lib.hid (show Blk _ q 24 #[.int .i64 (d : Nat), .int .i64 y, .int .i64 (k : Nat), .int .i64 (n : Nat), .int .u32 (sd : Nat)] from BQB.out.setc 2 (.int .i64 (k : Nat)))
    have BGC := Lib.hid (BGB.out.far (p := ⟨q, 2, none⟩) (show w.heap.size ≠ q by have := HPQ.out; omega) (.int .i64 (k : Nat)))
    have BPC := Lib.hid (BPB.out.far (p := ⟨q, 2, none⟩) HPQ.out.1 (.int .i64 (k : Nat)))
    have TC := Lib.hid (TB.out.grown (grownBy_set _ q 2 (.int .i64 (k : Nat))) TB.out.size (fun k hk => by have := Option.some.inj hk; have := HPQ.out; omega))
    generalize wb.setCell ⟨q, 2, none⟩ (.int .i64 (k : Nat)) = wc at *
    refine hK'.out _ _ (fun _ _ => ⟨BGC.out.cell 2, BGC.out.cell 0⟩) ?_
    clear hK' K' BQB BGB BPB TB
    try simp only [Act.put, List.setIfInBounds_toArray, List.set_cons_zero, List.set_cons_succ]
    refine wpLate_pure (i := 7) (v := .pointer (some ⟨q, 1, none⟩)) rfl (by kernel_rfl) (by kernel_rfl) (by kernel_rfl) (by kernel_rfl) (fun _ _ _ h => h) (Or.inl ⟨by kernel_rfl, fun w _ => by go_simp⟩) ?_
    try simp only [Act.put, List.setIfInBounds_toArray, List.set_cons_zero, List.set_cons_succ]
    refine wpLate_one (i := 8) (o := ⟨none, .store 3 (.tmp 34) (.tmp 32), _, _, _, none⟩) (by kernel_rfl) rfl (fun K' hK' => ?_)
    rw [if_pos (by kernel_rfl)]
    have kc := BQC.out.cell 1
    have kf := BQC.out.frozen 1
    simp only [List.getElem?_toArray, List.getElem?_cons_succ, List.getElem?_cons_zero] at kc
    with_reducible refine step_storeC _ 3 (.tmp 34) (.tmp 32) (by kernel_rfl) q 1 (.int .i64 (d : Nat)) (.int .i64 y) (by kernel_rfl) (by kernel_rfl) rfl (by kernel_rfl) kc kf ?_
    clear kc kf
    have BQD := Lib.hid (show Blk _ q 24 #[.int .i64 (d : Nat), .int .i64 (d : Nat), .int .i64 (k : Nat), .int .i64 (n : Nat), .int .u32 (sd : Nat)] from BQC.out.setc 1 (.int .i64 (d : Nat)))
    have BGD := Lib.hid (BGC.out.far (p := ⟨q, 1, none⟩) (show w.heap.size ≠ q by have := HPQ.out; omega) (.int .i64 (d : Nat)))
    have BPD := Lib.hid (BPC.out.far (p := ⟨q, 1, none⟩) HPQ.out.1 (.int .i64 (d : Nat)))
    have TD := Lib.hid (TC.out.grown (grownBy_set _ q 1 (.int .i64 (d : Nat))) TC.out.size (fun k hk => by have := Option.some.inj hk; have := HPQ.out; omega))
    generalize wc.setCell ⟨q, 1, none⟩ (.int .i64 (d : Nat)) = wd at *
    refine hK'.out _ _ (fun _ _ => ⟨BGD.out.cell 2, BGD.out.cell 0⟩) ?_
    clear hK' K' BQC BGC BPC TC
    try simp only [Act.put, List.setIfInBounds_toArray, List.set_cons_zero, List.set_cons_succ]
    refine wpLate_done (by kernel_rfl) ?_ _
    clear hHeld
    go_simp
    have OKA : (⟨d, 8192, 0, n, sd⟩ : Shp).Ok := by have := HND.out; constructor <;> simp only <;> omega
    have OKB : (⟨d, d, k, n, sd⟩ : Shp).Ok := by have := HND.out; constructor <;> simp only <;> omega
    have HOF := chunks_often ⟨d, 8192, 0, n, sd⟩ ⟨d, d, k, n, sd⟩ d (by have := HND.out; omega) (often_one d n sd HND.out.2.1) (often_two d k n sd) l1
    have HSA := Lib.hid (sizes_yes ⟨d, 8192, 0, n, sd⟩ OKA A1 n1 cap1 l1 wd w.heap.size ⟨RS1.out.reads.below TD.out, RS1.out.fit, RS1.out.cap, RS1.out.nil⟩ TD.out.size (by omega))
    have HSB := Lib.hid (fun W (t : Still wd W) => sizes_yes ⟨d, d, k, n, sd⟩ OKB A1 n1 cap1 l1 W w.heap.size ⟨(RS1.out.reads.below TD.out).below (t.mono TD.out.size), RS1.out.fit, RS1.out.cap, RS1.out.nil⟩ (Nat.le_trans TD.out.size t.size) (by omega))
    rw [← HOF.1] at HSB
    have hcl := chunks_len ⟨d, 8192, 0, n, sd⟩ l1
    obtain ⟨L, hL⟩ : ∃ L, L = chunks ⟨d, 8192, 0, n, sd⟩ l1 := ⟨_, rfl⟩
    rw [← hL] at HSA HSB hcl HOF
    have HL2 := Lib.hid HOF.2
    have HML : L.length ≤ 2000 := by have := RS1.out.reads.1; omega
    simp only [Int.cast_ofNat_Int] at HSA HSB
    clear hL OKA OKB HOF hcl
    have ⟨p0, p1, p2, p3, p4⟩ := five BPD.out
    go_wp2_with fail
    refine HSA.out.mono ?_
    rintro e we ⟨xv, rfl, ox, te⟩
    obtain ⟨Ax, cx, rfl, hx1, hx2, hx3⟩ := own_formB ox
    have OX := Lib.hid ox
    have TE := Lib.hid te
    have ⟨q0, q1, q2, q3, q4⟩ := five (BQD.out.still te)
    clear ox te p0 p1 p2 p3 p4 HSA
    go_wp2_with fail
    refine (HSB.out _ TE.out).mono ?_
    rintro e wf ⟨yv, rfl, oy, tf⟩
    obtain ⟨Ay, cy, rfl, hy1, hy2, hy3⟩ := own_formB oy
    have OY := Lib.hid oy
    have OX2 := Lib.hid (still_own OX.out tf)
    have BGF := Lib.hid ((BGD.out.still TE.out).still tf)
    have TF := Lib.hid (Below.trans TD.out ((Still.trans TE.out tf).mono TD.out.size))
    clear oy tf q0 q1 q2 q3 q4 HSB OX
    obtain ⟨M, hM⟩ : ∃ M, M = L.length := ⟨_, rfl⟩
    rw [← hM] at HML OX2 OY ⊢
    have HM := Lib.hid hM
    clear hM
    go_wp2_with fail
    go_loopw [11] (fun iv wr => ∃ j : Nat, iv = .int .i64 j ∧ j ≤ M ∧ Hid (Still wf wr)) (fun iv _ => M - (intOf iv).toNat)
    case atStart => exact ⟨0, rfl, Nat.zero_le _, Lib.hid (Still.refl _)⟩
    case round =>
      obtain ⟨j, rfl, hj, hin⟩ := hrel
      by_cases hlt : j < M
      · have hlt2 : j < L.length := by have := HM.out; omega
        obtain ⟨e1, rfl, d1⟩ := own_at (still_own OX2.out hin.out) j hlt _ (lens_at L j hlt2)
        obtain ⟨e2, rfl, d2⟩ := own_at (still_own OY.out hin.out) j hlt _ (lens_at L j hlt2)
        have d3 := (BGF.out.still hin.out).cell 0
        simp only [List.getElem?_toArray, List.getElem?_cons_zero] at d3
        obtain ⟨X, hX⟩ : ∃ X, X = (L.getD j []).length := ⟨_, rfl⟩
        rw [← hX] at d1 d2
        have y1 : (0 : Int) ≤ (j : Int) := by omega
        have y2 : (j : Int) < (M : Int) := by omega
        have y3 : IntKind.i64.wrap ((M : Int) - 1) = (M : Int) - 1 := by rw [IntKind.wrap_i64]; omega
        have HLT := Lib.hid hlt
        by_cases hlast : j + 1 < M
        · have hXd : X = d := by rw [hX]; exact HL2.out j (by have := HM.out; omega)
          rw [hXd] at d1 d2
          have y4 : (j : Int) < (M : Int) - 1 := by omega
          clear hX hXd hlast hlt hlt2
          go_wp2_with fail
          go_quiet (fail)
          go_wp2_with fail
          go_roundw
          case rel => exact ⟨j + 1, by go_num, by have := HLT.out; omega, Lib.hid (still_drewN hin.out _)⟩
          case measure => simp [intOf]; have := HLT.out; omega
        · have y4 : ¬ (j : Int) < (M : Int) - 1 := by omega
          have y5 : decide ((j : Int) < (M : Int) - 1) = false := decide_eq_false y4
          have y6 : (M : Int) - 1 ≤ (j : Int) := by omega
          clear hX hlast hlt hlt2
          go_wp2_with fail
          go_quiet (fail)
          go_wp2_with fail
          go_roundw
          case rel => exact ⟨j + 1, by go_num, by have := HLT.out; omega, Lib.hid (still_drewN hin.out _)⟩
          case measure => simp [intOf]; have := HLT.out; omega
      · obtain rfl : j = M := by omega
        go_wp2_with fail
        refine (LV.out _).mono ?_
        rintro e wg ⟨rfl, tg⟩
        have TG := Lib.hid (Below.trans TF.out ((Still.trans hin.out tg).mono TF.out.size))
        clear tg
        go_wp2_with fail
        go_ret
        exact ⟨rfl, TG.out⟩
  · rw [if_pos (by kernel_rfl)]
    with_reducible refine step_allocSh w4 (by kernel_rfl) ?_
    have t4 := T3.out.alloc (Nat.le_trans (Nat.le_refl _) T3.out.size) (.cells #[.int .i64 0, .int .i64 0, .int .i64 0, .int .i64 0, .int .u32 0] 24)
    have bp := Blk.new w4 24 #[.int .i64 0, .int .i64 0, .int .i64 0, .int .i64 0, .int .u32 0]
    have bg := B3.out.alloc (.cells #[.int .i64 0, .int .i64 0, .int .i64 0, .int .i64 0, .int .u32 0] 24)
    obtain ⟨q, hq⟩ : ∃ k, k = w4.heap.size := ⟨_, rfl⟩
    rw [← hq] at bp ⊢
    have hgp : w.heap.size < q := by rw [hq]; exact B3.out.lt
    generalize w4.alloc (.cells #[.int .i64 0, .int .i64 0, .int .i64 0, .int .i64 0, .int .u32 0] 24) = w5 at *
    refine hK'.out _ _ (fun _ _ => five bg) ?_
    clear hK' K'
    try simp only [Act.put, List.setIfInBounds_toArray, List.set_cons_zero, List.set_cons_succ]
    refine wpLate_one (i := 2) (o := ⟨some 5, .alloc 24, _, _, _, none⟩) (by kernel_rfl) rfl (fun K' hK' => ?_)
    rw [if_pos (by kernel_rfl)]
    with_reducible refine step_allocSh w5 (by kernel_rfl) ?_
    have t5 := t4.alloc t4.size (.cells #[.int .i64 0, .int .i64 0, .int .i64 0, .int .i64 0, .int .u32 0] 24)
    have bq := Blk.new w5 24 #[.int .i64 0, .int .i64 0, .int .i64 0, .int .i64 0, .int .u32 0]
    have bp5 := bp.alloc (.cells #[.int .i64 0, .int .i64 0, .int .i64 0, .int .i64 0, .int .u32 0] 24)
    have bg5 := bg.alloc (.cells #[.int .i64 0, .int .i64 0, .int .i64 0, .int .i64 0, .int .u32 0] 24)
    obtain ⟨p, hp⟩ : ∃ k, k = w5.heap.size := ⟨_, rfl⟩
    rw [← hp] at bq ⊢
    have hpq : p ≠ q := by have := bp.lt; omega
    have hgq : w.heap.size < p := by have := bp.lt; omega
    generalize w5.alloc (.cells #[.int .i64 0, .int .i64 0, .int .i64 0, .int .i64 0, .int .u32 0] 24) = w6 at *
    refine hK'.out _ _ (fun _ _ => five bg5) ?_
    clear hK' K'
    try simp only [Act.put, List.setIfInBounds_toArray, List.set_cons_zero, List.set_cons_succ]
    have bP : Blk w6 p 24 #[.int .i64 0, .int .i64 0, .int .i64 0, .int .i64 0, .int .u32 0] := bq
    have bQ : Blk w6 q 24 #[.int .i64 0, .int .i64 0, .int .i64 0, .int .i64 0, .int .u32 0] := bp5
    have HPQ := Lib.hid (show p ≠ q ∧ w.heap.size < p ∧ w.heap.size < q by omega)
    have T6 := Lib.hid t5
    have BG6 := Lib.hid bg5
    have BP6 := Lib.hid bP
    have BQ6 := Lib.hid bQ
    clear bp bg bq bp5 bg5 bP bQ t4 t5 hgp hgq hpq hp hq
    refine wpLate_one (i := 4) (o := ⟨none, .store 24 (.tmp 5) (.tmp 24), _, _, _, none⟩) (by kernel_rfl) rfl (fun K' hK' => ?_)
    rw [if_pos (by kernel_rfl)]
    with_reducible refine step_storeSh w6 (.tmp 5) (.tmp 24) (by kernel_rfl) p (by kernel_rfl) #[.int .i64 (d : Nat), .int .i64 y, .int .i64 z, .int .i64 (n : Nat), .int .u32 (sd : Nat)] #[.int .i64 0, .int .i64 0, .int .i64 0, .int .i64 0, .int .u32 0] (by kernel_rfl) rfl rfl (by simp [Value.oneCell']) BP6.out ?_
    have BG7 := Lib.hid (Blk.row (cs' := #[.int .i64 (d : Nat), .int .i64 y, .int .i64 z, .int .i64 (n : Nat), .int .u32 (sd : Nat)]) BG6.out (show w.heap.size ≠ p by have := HPQ.out; omega))
    have BP7 := Lib.hid (Blk.rowAt (cs' := #[.int .i64 (d : Nat), .int .i64 y, .int .i64 z, .int .i64 (n : Nat), .int .u32 (sd : Nat)]) BP6.out)
    have BQ7 := Lib.hid (Blk.row (cs' := #[.int .i64 (d : Nat), .int .i64 y, .int .i64 z, .int .i64 (n : Nat), .int .u32 (sd : Nat)]) BQ6.out (show q ≠ p from fun e => HPQ.out.1 e.symm))
    have T7 := Lib.hid (below_row T6.out (show w.heap.size ≤ p by have := HPQ.out; omega) #[.int .i64 (d : Nat), .int .i64 y, .int .i64 z, .int .i64 (n : Nat), .int .u32 (sd : Nat)])
    generalize w6.setRow p #[.int .i64 (d : Nat), .int .i64 y, .int .i64 z, .int .i64 (n : Nat), .int .u32 (sd : Nat)] = w7 at *
    refine hK'.out _ _ (fun _ _ => five BG7.out) ?_
    clear hK' K' BG6 BP6 BQ6 T6
    try simp only [Act.put, List.setIfInBounds_toArray, List.set_cons_zero, List.set_cons_succ]
    refine wpLate_one (i := 5) (o := ⟨none, .store 24 (.tmp 6) (.tmp 25), _, _, _, none⟩) (by kernel_rfl) rfl (fun K' hK' => ?_)
    rw [if_pos (by kernel_rfl)]
    with_reducible refine step_storeSh w7 (.tmp 6) (.tmp 25) (by kernel_rfl) q (by kernel_rfl) #[.int .i64 (d : Nat), .int .i64 y, .int .i64 z, .int .i64 (n : Nat), .int .u32 (sd : Nat)] #[.int .i64 0, .int .i64 0, .int .i64 0, .int .i64 0, .int .u32 0] (by kernel_rfl) rfl rfl (by simp [Value.oneCell']) BQ7.out ?_
    have BG8 := Lib.hid (Blk.row (cs' := #[.int .i64 (d : Nat), .int .i64 y, .int .i64 z, .int .i64 (n : Nat), .int .u32 (sd : Nat)]) BG7.out (show w.heap.size ≠ q by have := HPQ.out; omega))
    have BQ8 := Lib.hid (Blk.rowAt (cs' := #[.int .i64 (d : Nat), .int .i64 y, .int .i64 z, .int .i64 (n : Nat), .int .u32 (sd : Nat)]) BQ7.out)
    have BP8 := Lib.hid (Blk.row (cs' := #[.int .i64 (d : Nat), .int .i64 y, .int .i64 z, .int .i64 (n : Nat), .int .u32 (sd : Nat)]) BP7.out HPQ.out.1)
    have T8 := Lib.hid (below_row T7.out (show w.heap.size ≤ q by have := HPQ.out; omega) #[.int .i64 (d : Nat), .int .i64 y, .int .i64 z, .int .i64 (n : Nat), .int .u32 (sd : Nat)])
    generalize w7.setRow q #[.int .i64 (d : Nat), .int .i64 y, .int .i64 z, .int .i64 (n : Nat), .int .u32 (sd : Nat)] = w8 at *
    refine hK'.out _ _ (fun _ _ => five BG8.out) ?_
    clear hK' K' BG7 BP7 BQ7 T7
    try simp only [Act.put, List.setIfInBounds_toArray, List.set_cons_zero, List.set_cons_succ]
    refine wpLate_done (by kernel_rfl) ?_ _
    clear hHeld
    go_simp
    have b2 := BP8.out.cell 2
    have f2 := BP8.out.frozen 2
    have BP9 := Lib.hid (show Blk _ p 24 #[.int .i64 (d : Nat), .int .i64 y, .int .i64 0, .int .i64 (n : Nat), .int .u32 (sd : Nat)] from BP8.out.setc 2 (.int .i64 0))
    have b1 := BP9.out.cell 1
    have f1 := BP9.out.frozen 1
    have BPA := Lib.hid (show Blk _ p 24 #[.int .i64 (d : Nat), .int .i64 8192, .int .i64 0, .int .i64 (n : Nat), .int .u32 (sd : Nat)] from BP9.out.setc 1 (.int .i64 8192))
    have BGA := Lib.hid ((BG8.out.far (p := ⟨p, 2, none⟩) (show w.heap.size ≠ p by have := HPQ.out; omega) (.int .i64 0)).far (p := ⟨p, 1, none⟩) (show w.heap.size ≠ p by have := HPQ.out; omega) (.int .i64 8192))
    have BQA := Lib.hid ((BQ8.out.far (p := ⟨p, 2, none⟩) (show q ≠ p from fun e => HPQ.out.1 e.symm) (.int .i64 0)).far (p := ⟨p, 1, none⟩) (show q ≠ p from fun e => HPQ.out.1 e.symm) (.int .i64 8192))
    have TA := Lib.hid ((T8.out.grown (grownBy_set w8 p 2 (.int .i64 0)) T8.out.size (fun k hk => by have := Option.some.inj hk; have := HPQ.out; omega)).grown (grownBy_set _ p 1 (.int .i64 8192)) (Nat.le_trans T8.out.size (grownBy_set w8 p 2 (.int .i64 0)).size) (fun k hk => by have := Option.some.inj hk; have := HPQ.out; omega))
    simp only [List.getElem?_toArray, List.getElem?_cons_succ, List.getElem?_cons_zero] at b1 b2
    clear BG8 BP8 BQ8 T8 BP9
    go_wp2_with fail
    generalize (w8.setCell ⟨p, 2, none⟩ (.int .i64 0)).setCell ⟨p, 1, none⟩ (.int .i64 8192) = wa at *
    clear b1 b2 f1 f2
    refine wp_region_late (S := fun W => W.cell? ⟨w.heap.size, 2, none⟩ = some (.int .i64 z) ∧ W.cell? ⟨w.heap.size, 0, none⟩ = some (.int .i64 (d : Nat))) [] (by kernel_rfl) ⟨(BGA.out.still ((Still.refl _).drew)).cell 2, (BGA.out.still ((Still.refl _).drew)).cell 0⟩ (fun hHeld => ?_)
    have BGB := Lib.hid (BGA.out.still ((Still.refl wa).drew))
    have BPB := Lib.hid (BPA.out.still ((Still.refl wa).drew))
    have BQB := Lib.hid (BQA.out.still ((Still.refl wa).drew))
    have TB := Lib.hid (TA.out.drew)
    generalize wa.drew = wb at *
    clear BGA BPA BQA TA
    try simp only [Act.put, List.setIfInBounds_toArray, List.set_cons_zero, List.set_cons_succ]
    refine wpLate_pure (i := 0) (v := .pointer (some ⟨w.heap.size, 2, none⟩)) rfl (by kernel_rfl) (by kernel_rfl) (by kernel_rfl) (by kernel_rfl) (fun _ _ _ h => h) (Or.inl ⟨by kernel_rfl, fun w _ => by go_simp⟩) ?_
    try simp only [Act.put, List.setIfInBounds_toArray, List.set_cons_zero, List.set_cons_succ]
    refine wpLate_pure (i := 3) (v := .pointer (some ⟨w.heap.size, 0, none⟩)) rfl (by kernel_rfl) (by kernel_rfl) (by kernel_rfl) (by kernel_rfl) (fun _ _ _ h => h) (Or.inl ⟨by kernel_rfl, fun w _ => by go_simp⟩) ?_
    try simp only [Act.put, List.setIfInBounds_toArray, List.set_cons_zero, List.set_cons_succ]
    refine wpLate_take (i := 1) (v := .int .i64 z) [] rfl (by kernel_rfl) (by kernel_rfl) (by kernel_rfl) (by kernel_rfl) (by kernel_rfl) (by decide) (fun _ _ _ h => h) (Or.inl ⟨by kernel_rfl, fun w hS => by obtain ⟨h0, h1⟩ := hS; go_simp⟩) (by assumption) (fun hHeld => ?_)
    try simp only [Act.put, List.setIfInBounds_toArray, List.set_cons_zero, List.set_cons_succ]
    refine wpLate_take (i := 4) (v := .int .i64 (d : Nat)) [] rfl (by kernel_rfl) (by kernel_rfl) (by kernel_rfl) (by kernel_rfl) (by kernel_rfl) (by decide) (fun _ _ _ h => h) (Or.inl ⟨by kernel_rfl, fun w hS => by obtain ⟨h0, h1⟩ := hS; go_simp⟩) (by assumption) (fun hHeld => ?_)
    try simp only [Act.put, List.setIfInBounds_toArray, List.set_cons_zero, List.set_cons_succ]
    refine wpLate_one (i := 2) (o := ⟨some 30, .call { callee := .value (.func 24), args := #[.tmp 29, .const (.int .i64 0), .const (.int .i64 20)], argTypes := #[3, 3, 3] }, _, _, _, none⟩) (by kernel_rfl) rfl (fun K' hK' => ?_)
    go_simp
    go_wp2_with (go_at_call 24; refine (within_any z 0 20 wb (by omega)).mono ?_; rintro e w1 ⟨⟨v, hk1, hk2, rfl⟩, rfl⟩)
    obtain ⟨k, rfl⟩ := Int.eq_ofNat_of_zero_le (show 0 ≤ v by omega)
    refine hK'.out _ _ (fun h _ => h) ?_
    clear hK' K'
    try simp only [Act.put, List.setIfInBounds_toArray, List.set_cons_zero, List.set_cons_succ]
    refine wpLate_pure (i := 5) (v := .pointer (some ⟨q, 2, none⟩)) rfl (by kernel_rfl) (by kernel_rfl) (by kernel_rfl) (by kernel_rfl) (fun _ _ _ h => h) (Or.inl ⟨by kernel_rfl, fun w _ => by go_simp⟩) ?_
    try simp only [Act.put, List.setIfInBounds_toArray, List.set_cons_zero, List.set_cons_succ]
    refine wpLate_one (i := 6) (o := ⟨none, .store 3 (.tmp 33) (.tmp 30), _, _, _, none⟩) (by kernel_rfl) rfl (fun K' hK' => ?_)
    rw [if_pos (by kernel_rfl)]
    have kc := BQB.out.cell 2
    have kf := BQB.out.frozen 2
    simp only [List.getElem?_toArray, List.getElem?_cons_succ, List.getElem?_cons_zero] at kc
    with_reducible refine step_storeC _ 3 (.tmp 33) (.tmp 30) (by kernel_rfl) q 2 (.int .i64 (k : Nat)) (.int .i64 z) (by kernel_rfl) (by kernel_rfl) rfl (by kernel_rfl) kc kf ?_
    clear kc kf
    have BQC := Lib.hid (show Blk _ q 24 #[.int .i64 (d : Nat), .int .i64 y, .int .i64 (k : Nat), .int .i64 (n : Nat), .int .u32 (sd : Nat)] from BQB.out.setc 2 (.int .i64 (k : Nat)))
    have BGC := Lib.hid (BGB.out.far (p := ⟨q, 2, none⟩) (show w.heap.size ≠ q by have := HPQ.out; omega) (.int .i64 (k : Nat)))
    have BPC := Lib.hid (BPB.out.far (p := ⟨q, 2, none⟩) HPQ.out.1 (.int .i64 (k : Nat)))
    have TC := Lib.hid (TB.out.grown (grownBy_set _ q 2 (.int .i64 (k : Nat))) TB.out.size (fun k hk => by have := Option.some.inj hk; have := HPQ.out; omega))
    generalize wb.setCell ⟨q, 2, none⟩ (.int .i64 (k : Nat)) = wc at *
    refine hK'.out _ _ (fun _ _ => ⟨BGC.out.cell 2, BGC.out.cell 0⟩) ?_
    clear hK' K' BQB BGB BPB TB
    try simp only [Act.put, List.setIfInBounds_toArray, List.set_cons_zero, List.set_cons_succ]
    refine wpLate_pure (i := 7) (v := .pointer (some ⟨q, 1, none⟩)) rfl (by kernel_rfl) (by kernel_rfl) (by kernel_rfl) (by kernel_rfl) (fun _ _ _ h => h) (Or.inl ⟨by kernel_rfl, fun w _ => by go_simp⟩) ?_
    try simp only [Act.put, List.setIfInBounds_toArray, List.set_cons_zero, List.set_cons_succ]
    refine wpLate_one (i := 8) (o := ⟨none, .store 3 (.tmp 34) (.tmp 32), _, _, _, none⟩) (by kernel_rfl) rfl (fun K' hK' => ?_)
    rw [if_pos (by kernel_rfl)]
    have kc := BQC.out.cell 1
    have kf := BQC.out.frozen 1
    simp only [List.getElem?_toArray, List.getElem?_cons_succ, List.getElem?_cons_zero] at kc
    with_reducible refine step_storeC _ 3 (.tmp 34) (.tmp 32) (by kernel_rfl) q 1 (.int .i64 (d : Nat)) (.int .i64 y) (by kernel_rfl) (by kernel_rfl) rfl (by kernel_rfl) kc kf ?_
    clear kc kf
    have BQD := Lib.hid (show Blk _ q 24 #[.int .i64 (d : Nat), .int .i64 (d : Nat), .int .i64 (k : Nat), .int .i64 (n : Nat), .int .u32 (sd : Nat)] from BQC.out.setc 1 (.int .i64 (d : Nat)))
    have BGD := Lib.hid (BGC.out.far (p := ⟨q, 1, none⟩) (show w.heap.size ≠ q by have := HPQ.out; omega) (.int .i64 (d : Nat)))
    have BPD := Lib.hid (BPC.out.far (p := ⟨q, 1, none⟩) HPQ.out.1 (.int .i64 (d : Nat)))
    have TD := Lib.hid (TC.out.grown (grownBy_set _ q 1 (.int .i64 (d : Nat))) TC.out.size (fun k hk => by have := Option.some.inj hk; have := HPQ.out; omega))
    generalize wc.setCell ⟨q, 1, none⟩ (.int .i64 (d : Nat)) = wd at *
    refine hK'.out _ _ (fun _ _ => ⟨BGD.out.cell 2, BGD.out.cell 0⟩) ?_
    clear hK' K' BQC BGC BPC TC
    try simp only [Act.put, List.setIfInBounds_toArray, List.set_cons_zero, List.set_cons_succ]
    refine wpLate_done (by kernel_rfl) ?_ _
    clear hHeld
    go_simp
    have OKA : (⟨d, 8192, 0, n, sd⟩ : Shp).Ok := by have := HND.out; constructor <;> simp only <;> omega
    have OKB : (⟨d, d, k, n, sd⟩ : Shp).Ok := by have := HND.out; constructor <;> simp only <;> omega
    have HOF := chunks_often ⟨d, 8192, 0, n, sd⟩ ⟨d, d, k, n, sd⟩ d (by have := HND.out; omega) (often_one d n sd HND.out.2.1) (often_two d k n sd) l1
    have HSA := Lib.hid (sizes_yes ⟨d, 8192, 0, n, sd⟩ OKA A1 n1 cap1 l1 wd w.heap.size ⟨RS1.out.reads.below TD.out, RS1.out.fit, RS1.out.cap, RS1.out.nil⟩ TD.out.size (by omega))
    have HSB := Lib.hid (fun W (t : Still wd W) => sizes_yes ⟨d, d, k, n, sd⟩ OKB A1 n1 cap1 l1 W w.heap.size ⟨(RS1.out.reads.below TD.out).below (t.mono TD.out.size), RS1.out.fit, RS1.out.cap, RS1.out.nil⟩ (Nat.le_trans TD.out.size t.size) (by omega))
    rw [← HOF.1] at HSB
    have hcl := chunks_len ⟨d, 8192, 0, n, sd⟩ l1
    obtain ⟨L, hL⟩ : ∃ L, L = chunks ⟨d, 8192, 0, n, sd⟩ l1 := ⟨_, rfl⟩
    rw [← hL] at HSA HSB hcl HOF
    have HL2 := Lib.hid HOF.2
    have HML : L.length ≤ 2000 := by have := RS1.out.reads.1; omega
    simp only [Int.cast_ofNat_Int] at HSA HSB
    clear hL OKA OKB HOF hcl
    have ⟨p0, p1, p2, p3, p4⟩ := five BPD.out
    go_wp2_with fail
    refine HSA.out.mono ?_
    rintro e we ⟨xv, rfl, ox, te⟩
    obtain ⟨Ax, cx, rfl, hx1, hx2, hx3⟩ := own_formB ox
    have OX := Lib.hid ox
    have TE := Lib.hid te
    have ⟨q0, q1, q2, q3, q4⟩ := five (BQD.out.still te)
    clear ox te p0 p1 p2 p3 p4 HSA
    go_wp2_with fail
    refine (HSB.out _ TE.out).mono ?_
    rintro e wf ⟨yv, rfl, oy, tf⟩
    obtain ⟨Ay, cy, rfl, hy1, hy2, hy3⟩ := own_formB oy
    have OY := Lib.hid oy
    have OX2 := Lib.hid (still_own OX.out tf)
    have BGF := Lib.hid ((BGD.out.still TE.out).still tf)
    have TF := Lib.hid (Below.trans TD.out ((Still.trans TE.out tf).mono TD.out.size))
    clear oy tf q0 q1 q2 q3 q4 HSB OX
    obtain ⟨M, hM⟩ : ∃ M, M = L.length := ⟨_, rfl⟩
    rw [← hM] at HML OX2 OY ⊢
    have HM := Lib.hid hM
    clear hM
    go_wp2_with fail
    go_loopw [11] (fun iv wr => ∃ j : Nat, iv = .int .i64 j ∧ j ≤ M ∧ Hid (Still wf wr)) (fun iv _ => M - (intOf iv).toNat)
    case atStart => exact ⟨0, rfl, Nat.zero_le _, Lib.hid (Still.refl _)⟩
    case round =>
      obtain ⟨j, rfl, hj, hin⟩ := hrel
      by_cases hlt : j < M
      · have hlt2 : j < L.length := by have := HM.out; omega
        obtain ⟨e1, rfl, d1⟩ := own_at (still_own OX2.out hin.out) j hlt _ (lens_at L j hlt2)
        obtain ⟨e2, rfl, d2⟩ := own_at (still_own OY.out hin.out) j hlt _ (lens_at L j hlt2)
        have d3 := (BGF.out.still hin.out).cell 0
        simp only [List.getElem?_toArray, List.getElem?_cons_zero] at d3
        obtain ⟨X, hX⟩ : ∃ X, X = (L.getD j []).length := ⟨_, rfl⟩
        rw [← hX] at d1 d2
        have y1 : (0 : Int) ≤ (j : Int) := by omega
        have y2 : (j : Int) < (M : Int) := by omega
        have y3 : IntKind.i64.wrap ((M : Int) - 1) = (M : Int) - 1 := by rw [IntKind.wrap_i64]; omega
        have HLT := Lib.hid hlt
        by_cases hlast : j + 1 < M
        · have hXd : X = d := by rw [hX]; exact HL2.out j (by have := HM.out; omega)
          rw [hXd] at d1 d2
          have y4 : (j : Int) < (M : Int) - 1 := by omega
          clear hX hXd hlast hlt hlt2
          go_wp2_with fail
          go_quiet (fail)
          go_wp2_with fail
          go_roundw
          case rel => exact ⟨j + 1, by go_num, by have := HLT.out; omega, Lib.hid (still_drewN hin.out _)⟩
          case measure => simp [intOf]; have := HLT.out; omega
        · have y4 : ¬ (j : Int) < (M : Int) - 1 := by omega
          have y5 : decide ((j : Int) < (M : Int) - 1) = false := decide_eq_false y4
          have y6 : (M : Int) - 1 ≤ (j : Int) := by omega
          clear hX hlast hlt hlt2
          go_wp2_with fail
          go_quiet (fail)
          go_wp2_with fail
          go_roundw
          case rel => exact ⟨j + 1, by go_num, by have := HLT.out; omega, Lib.hid (still_drewN hin.out _)⟩
          case measure => simp [intOf]; have := HLT.out; omega
      · obtain rfl : j = M := by omega
        go_wp2_with fail
        refine (LV.out _).mono ?_
        rintro e wg ⟨rfl, tg⟩
        have TG := Lib.hid (Below.trans TF.out ((Still.trans hin.out tg).mono TF.out.size))
        clear tg
        go_wp2_with fail
        go_ret
        exact ⟨rfl, TG.out⟩
end Go.Proofs.Ytjihnagoebhinaa
