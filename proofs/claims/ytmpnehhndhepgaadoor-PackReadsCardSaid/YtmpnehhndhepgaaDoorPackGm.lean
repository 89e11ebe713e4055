/- Contracts and facts, several texts in one. It proves no statement. -/
import Derived.Test.YtmpnehhndhepgaaDoorPackGl
import Derived.Test.YtmpnehhndhepgaaDoorPackGj
import Derived.Deep.DeepCutAuto
import Derived.Test.YtmpnehhndhepgaaDoorPackGe

/- The document's own reader of values: lists. It proves no statement. -/



namespace Go.Proofs.YtmpnehhndhepgaaDoor
open Go.RowKit
set_option linter.unusedVariables false
set_option linter.unusedSimpArgs false

/-- What is said of 'Value', f more within one another. -/
def DVOK (f : Nat) : Prop := ∀ (w : World) (B g : Nat) (A : Option Addr) (N c : Nat) (bs : List UInt8) (p : Nat), DRd w B g A N c bs p 0 →
  Calls Tryd.prog 31 #[.pointer (some ⟨g, 0, none⟩), .int .i64 (17 - (f : Int))] w (DVPost w B g A N c bs (decV f (bs.drop p)))
/-- The boxes of a row that is read: the value's own, the answer's. -/
structure LsB (W : World) (gb gv : Nat) (kk : Int) (kv lv : Value) : Prop where
  bb : Blk W gb 26 cellsZ
  bv : Blk W gv 26 #[.int .i64 kk, .int .i64 0, .slice none 0 0, .string ⟨#[]⟩, kv, lv]
  ne : gb < gv
theorem LsB.grown {W W' : World} {gb gv g : Nat} {kk : Int} {kv lv : Value} (b : LsB W gb gv kk kv lv) (gr : W.grownBy W' (some g)) (hg : g < gb) : LsB W' gb gv kk kv lv :=
  { bb := (gr.block gb b.bb.lt (fun e => by have := Option.some.inj e; omega)).trans b.bb
    bv := (gr.block gv b.bv.lt (fun e => by have := Option.some.inj e; have := b.ne; omega)).trans b.bv
    ne := b.ne }
/-- One value more is in the list. -/
theorem ls_step {w0 wr W2 W4 : World} {base g gb gv B : Nat} {A : Option Addr} {N c : Nat} {bs : List UInt8} {p' : Nat} {er : Int} {kv : Value} {nk : Nat} {ks : List Value} {lv v' : Value} {nv : Nat} {xs : List Value} {al : List Tr} {cs : List Value} {kk : Int}
    (g0 : w0.grownBy wr (some g)) (hg0 : w0.heap.size ≤ gb) (J : AccV wr base g gv kv nk ks lv nv xs al) (L : LsB wr gb gv kk kv lv) (hgg : g < gb) (gr2 : wr.grownBy W2 (some g))
    (own : W4.ownsRow base 26 6 v' (nv + 1) (xs ++ cs)) (gr4 : (W2.alloc (.cells cs.toArray 26)).grownBy W4 lv.ownBlock) (loc : v'.ownBlock = lv.ownBlock ∨ v'.ownBlock = some (W2.alloc (.cells cs.toArray 26)).heap.size) (h6 : cs.length = 6)
    (r : DRd W2 B g A N c bs p' er) :
    DRd (W4.setCell ⟨gv, 5, none⟩ v') B g A N c bs p' er ∧ LsB (W4.setCell ⟨gv, 5, none⟩ v') gb gv kk kv v' ∧ w0.grownBy (W4.setCell ⟨gv, 5, none⟩ v') (some g) ∧
      (∀ tr, HasP W2 (fun b => wr.heap.size ≤ b) tr cs.toArray → AccV (W4.setCell ⟨gv, 5, none⟩ v') base g gv kv nk ks v' (nv + 1) (xs ++ cs) (al ++ [tr])) := by
  have s3 : Still W2 (W2.alloc (.cells cs.toArray 26)) := (Still.refl W2).alloc (Nat.le_refl _) _
  have J2 := J.grown gr2
  have J3 := J2.grown (grown_of_still s3)
  have L3 := (L.grown gr2 hgg).grown (grown_of_still s3) hgg
  have hl : ∀ b, lv.ownBlock = some b → base ≤ b := fun b e => (J.ownl.lt b e).1
  have hlo := acc_low (gv := gv) (i := 5) (u := v') gr4 hl J3.z
  have hv := J.hv
  have ne := L.ne
  have b4 : Blk W4 gv 26 #[.int .i64 kk, .int .i64 0, .slice none 0 0, .string ⟨#[]⟩, kv, lv] := (gr4.block gv L3.bv.lt (fun e => by have := hl gv e.symm; omega)).trans L3.bv
  have z0 := g0.size
  have z2 := gr2.size
  have z3 := s3.size
  refine ⟨?_, ?_, ?_, fun tr hv2 => ?_⟩
  · have r3 := r.still s3
    have hf := r3.far
    exact { r3 with blk := (hlo g J.hg (by omega)).trans r3.blk, reads := r3.reads.below ⟨gr4.os, gr4.tape, gr4.output, by have := gr4.size; simpa [World.setCell] using this, fun b hb => hlo b (by have := J.hg; omega) (by omega)⟩ }
  · exact { bb := (hlo gb (by omega) (by omega)).trans L3.bb, bv := by have h := b4.setc 5 v'; simpa using h, ne := ne }
  · have gq : w0.grownBy (W2.alloc (.cells cs.toArray 26)) (some g) := grown_trans g0 (grown_trans gr2 (grown_of_still s3))
    have zb := L.bb.lt
    have h1 := gq.size
    have h2 := gr4.size
    have h3 : (W4.setCell ⟨gv, 5, none⟩ v').heap.size = W4.heap.size := by simp [World.setCell]
    exact ⟨gr4.os.trans gq.os, gr4.tape.trans gq.tape, gr4.output.trans gq.output, by omega, fun b hb hne => (hlo b (by omega) (by omega)).trans (gq.block b hb hne)⟩
  · refine AccV.set (AccV.pushV J3 h6 own gr4 loc ?_) 5 v'
    have hzr := J.z
    exact HasP.keep (fun b hb hl2 => s3.block b hl2) s3.size (fun b hb hl2 => ⟨by have : wr.heap.size ≤ b := hb; omega, fun e => by have h1 := (J.ownl.lt b e).2; have : wr.heap.size ≤ b := hb; omega, fun e => by have h1 := (J.ownk.lt b e).2; have : wr.heap.size ≤ b := hb; omega⟩) _ _ hv2

/-- The end of a list, where reading failed. -/
theorem ls_bad {w wr : World} {B g gb : Nat} {A : Option Addr} {N c : Nat} {bs : List UInt8} {p' : Nat} {er : Int} {D : Int × Tr × List UInt8} {cells : List Value} (hgb : gb = w.heap.size) (hg : g < gb) (gr : w.grownBy wr (some g)) (r : DRd wr B g A N c bs p' er) (hD : D.1 = er) (h0 : D.1 ≠ 0)
    (h1 : cells.toArray.all (·.oneCell') = true) (h6 : cells.length = 6) : DVPost w B g A N c bs D (.returned (.agg cells.toArray)) (wr.setRow gb cells.toArray) := by
  have hf := r.far
  refine ⟨⟨cells, rfl, h6, h1, p', ?_, fun h => absurd h h0⟩, grown_row gr (by omega) _⟩
  rw [hD]
  exact r.below (M := gb) (below_setRow (Below.refl _ _) (Nat.le_refl _) _) hg
/-- The end of a list that was read. -/
theorem ls_good {w wr : World} {B g gb gv : Nat} {A : Option Addr} {N c : Nat} {bs : List UInt8} {p' : Nat} {kk : Int} {lv : Value} {n : Nat} {xs : List Value} {al : List Tr} (hgb : gb = w.heap.size) (hg : g < gb) (hgv : gv = gb + 1) (gr : w.grownBy wr (some g)) (r : DRd wr B g A N c bs p' 0)
    (J : AccV wr (gv + 1) g gv (.slice none 0 0) 0 [] lv n xs al) (hal : al.length = n) (L : LsB wr gb gv kk (.slice none 0 0) lv) (hn : n ≤ 1048576) (ho : lv.oneCell' = true) (hk : kk = 6 := by rfl) :
    DVPost w B g A N c bs (0, .mk 6 0 [] ByteArray.empty [] al, bs.drop p') (.returned (.agg #[.int .i64 6, .int .i64 0, .slice none 0 0, .string ⟨#[]⟩, .slice none 0 0, lv])) (wr.setRow gb #[.int .i64 6, .int .i64 0, .slice none 0 0, .string ⟨#[]⟩, .slice none 0 0, lv]) := by
  have hf := r.far
  have hz := L.bb.lt
  refine ⟨⟨[.int .i64 6, .int .i64 0, .slice none 0 0, .string ⟨#[]⟩, .slice none 0 0, lv], rfl, rfl, by simp [Value.oneCell']; exact ho, p', r.below (M := gb) (below_setRow (Below.refl _ _) (Nat.le_refl _) _) hg, fun _ => ⟨rfl, ?_⟩⟩, grown_row gr (by omega) _⟩
  obtain ⟨wS, hwS⟩ : ∃ wS, wS = wr.setRow gb #[.int .i64 6, .int .i64 0, .slice none 0 0, .string ⟨#[]⟩, .slice none 0 0, lv] := ⟨_, rfl⟩
  have J2 : AccV wS (gv + 1) g gv (.slice none 0 0) 0 [] lv n xs al := by rw [hwS]; exact J.high (fun b hb _ => setRow_other wr gb b _ (by omega)) (by simp [World.setRow])
  rw [← hwS]
  clear hwS
  have hR := HasR.keep (w' := wS) (Q := fun b => w.heap.size ≤ b) (fun _ _ _ => rfl) (Nat.le_refl _) (fun b hb _ => by have := hb.1; omega) _ _ J2.row
  have own := J2.ownl
  rcases own.2 with ⟨hv, hn0⟩ | ⟨g', cap, cur, hv, hlo, hgb', _⟩
  · have hz0 : al = [] := List.eq_nil_of_length_eq_zero (by omega)
    rw [hv, hz0]
    unfold HasP
    exact ⟨none, 0, 0, none, 0, none, 0, rfl, by omega, by omega, ⟨⟨rfl, fun h => absurd h (by omega)⟩, by omega, fun _ => rfl⟩, by decide, ⟨⟨fun s h => by simp at h, fun h => absurd h (by simp)⟩, by simp⟩, by simp, fun h => absurd h (by simp)⟩
  · rw [hv] at own ⊢
    unfold HasP
    refine ⟨none, 0, 0, none, 0, some ⟨g', 0, none⟩, cap, by rw [hal]; rfl, by omega, by omega, ⟨⟨rfl, fun h => absurd h (by omega)⟩, by omega, fun _ => rfl⟩, by decide, ⟨⟨fun s h => by simp at h, fun h => absurd h (by simp)⟩, by simp⟩, by omega, fun _ => ⟨g', 0, rfl, by omega, (Array.getElem?_eq_some_iff.1 hgb').1, ?_⟩⟩
    exact HasR.toL _ _ 0 hR fun i v hi => by
      rw [Nat.zero_add]
      have hl := own.1
      have hil := (List.getElem?_eq_some_iff.1 hi).1
      exact (own.cellAt i (by omega)).trans hi

theorem infoRowV : (Tryd.prog.info? 24).map (·.size) = some 1 := by kernel_rfl
set_option maxRecDepth 100000 in
set_option maxHeartbeats 3200000 in
theorem dlist_any (f : Nat) (hf : f ≤ 16) (OK : DVOK f) {w : World} {B g : Nat} {A : Option Addr} {N c : Nat} {bs : List UInt8} {p : Nat} {er0 : Int} (r : DRd w B g A N c bs p er0) (n : Nat) (hn : n ≤ 65535) (D : Int × List Tr × List UInt8) (h0 : er0 = 0 → D = decL (decV f) n (bs.drop p)) (h1 : er0 ≠ 0 → D.1 = er0) :
    Calls Tryd.prog 59 #[.pointer (some ⟨g, 0, none⟩), .int .i64 (n : Int), .int .i64 (16 - (f : Int))] w (DVPost w B g A N c bs (D.1, .mk 6 0 [] ByteArray.empty [] D.2.1, D.2.2)) := by
  obtain ⟨gb, hgb⟩ : ∃ gb, gb = w.heap.size := ⟨_, rfl⟩
  obtain ⟨w1, hw1⟩ : ∃ w1, w1 = w.alloc (.cells cellsZ 26) := ⟨_, rfl⟩
  have s1 : Still w w1 := by rw [hw1]; exact (Still.refl w).alloc (Nat.le_refl _) _
  have b1 : Blk w1 gb 26 cellsZ := by rw [hw1, hgb]; exact Blk.new _ _ _
  have z1 : w1.heap.size = gb + 1 := by rw [hw1, hgb]; simp
  obtain ⟨w2, hw2⟩ : ∃ w2, w2 = (w1.alloc (.cells cellsZ 26)).setRow w1.heap.size #[.int .i64 6, .int .i64 0, .slice none 0 0, .string ⟨#[]⟩, .slice none 0 0, .slice none 0 0] := ⟨_, rfl⟩
  have s2 : Still w1 w2 := by rw [hw2]; exact below_setRow ((Still.refl w1).alloc (Nat.le_refl _) _) (Nat.le_refl _) _
  have bv : Blk w2 (gb + 1) 26 #[.int .i64 6, .int .i64 0, .slice none 0 0, .string ⟨#[]⟩, .slice none 0 0, .slice none 0 0] := by
    have h : Blk w2 w1.heap.size 26 #[.int .i64 6, .int .i64 0, .slice none 0 0, .string ⟨#[]⟩, .slice none 0 0, .slice none 0 0] := by rw [hw2]; exact setRow_heap _ _ _ _ _ _ (heap_alloc_new w1 _)
    rwa [z1] at h
  have z2 : w2.heap.size = gb + 2 := by rw [hw2]; simp [World.setRow, z1]
  have hglt : g < gb := by rw [hgb]; exact r.blk.lt
  obtain ⟨gv, hgv⟩ : ∃ gv, gv = gb + 1 := ⟨_, rfl⟩
  rw [← hgv] at bv
  have START := Lib.hid (show LsB w2 gb gv 6 (.slice none 0 0) (.slice none 0 0) ∧ AccV w2 (gv + 1) g gv (.slice none 0 0) 0 [] (.slice none 0 0) 0 [] [] ∧ DRd w2 B g A N c bs p er0 ∧ w.grownBy w2 (some g) from
    ⟨{ bb := b1.still s2, bv := bv, ne := by omega },
     { ownk := World.ownsRow_nil _ _ _ _, ownl := World.ownsRow_nil _ _ _ _, ne := (fun b e => by cases e), row := rfl, z := by omega, hg := by omega, hv := by omega },
     (r.still s1).still s2, grown_of_still (s1.trans s2)⟩)
  have HW1 := Lib.hid hw1
  have HW2 := Lib.hid (show w2 = (w1.alloc (.cells #[.int .i64 0, .int .i64 0, .slice none 0 0, .string ⟨#[]⟩, .slice none 0 0, .slice none 0 0] 26)).setRow w1.heap.size #[.int .i64 6, .int .i64 0, .slice none 0 0, .string ⟨#[]⟩, .slice none 0 0, .slice none 0 0] from hw2)
  have B1 := Lib.hid (show Blk (w1.alloc (.cells cellsZ 26)) w1.heap.size 26 cellsZ from Blk.new _ _ _)
  have ZG := Lib.hid (show g < gb ∧ gb = w.heap.size ∧ gv = gb + 1 ∧ w1.heap.size = gv from ⟨hglt, hgb, hgv, by omega⟩)
  obtain ⟨dp, hdp⟩ : ∃ dp : Int, dp = 16 - (f : Int) := ⟨_, rfl⟩
  obtain ⟨dq, hdq⟩ : ∃ dq : Int, dq = 17 - (f : Int) := ⟨_, rfl⟩
  have e1 : dp + 1 = dq := by omega
  have e2 : IntKind.i64.wrap (dp + 1) = dq := by rw [IntKind.wrap_i64]; omega
  have e3 : IntKind.i64.wrap dq = dq := by rw [IntKind.wrap_i64]; omega
  have OK' := Lib.hid OK
  unfold DVOK at OK'
  rw [← hdq] at OK'
  rw [← hdp]
  obtain ⟨dec, hdec⟩ : ∃ dec, dec = decV f := ⟨_, rfl⟩
  rw [← hdec] at OK' h0
  have HD := Lib.hid (And.intro h0 h1)
  have d3 : (n : Int) ≤ 65535 := by omega
  have HN := Lib.hid hn
  obtain ⟨fs, hu⟩ := underValue
  have HU := Lib.hid hu
  clear OK hdp hdq hdec h0 h1 hf r hw1 hw2 s1 s2 b1 bv z1 z2 hglt hgb hgv hn hu
  go_enter Tryd.func59, Tryd.ntmps59
  go_upto_region 1 with fail
  rw [show (w.alloc (.cells #[.int .i64 0, .int .i64 0, .slice none 0 0, .string ⟨#[]⟩, .slice none 0 0, .slice none 0 0] 26)) = w1 from HW1.out.symm, ← ZG.out.2.1]
  go_upto_region 2 with (guard_target =~ wpList _ _ _ (Oper.mk none (Op.store _ _ _) _ _ _ _ :: _) _ _; go_must (refine wpList_store_rowTo rfl 26 (.tmp 7) (.tmp 9) rfl rfl w1.heap.size #[.int .i64 6, .int .i64 0, .slice none 0 0, .string ⟨#[]⟩, .slice none 0 0, .slice none 0 0] rfl rfl 26 _ B1.out (by rw [sizeValue]; rfl) (by rfl) (by decide +kernel) ?_))
  rw [← HW2.out, ZG.out.2.2.2]
  go_wp2_with fail
  go_loopw [8] (fun iv wr => ∃ j : Nat, j ≤ n ∧ iv = .int .i64 j ∧ Hid (∃ (lv : Value) (p' : Nat) (er : Int) (xs : List Value) (al : List Tr), LsB wr gb gv 6 (.slice none 0 0) lv ∧ lv.oneCell' = true ∧ DRd wr B g A N c bs p' er ∧ w.grownBy wr (some g) ∧
      (er = 0 → AccV wr (gv + 1) g gv (.slice none 0 0) 0 [] lv j xs al ∧ al.length = j ∧ D = preL al (decL dec (n - j) (bs.drop p'))) ∧ (er ≠ 0 → D.1 = er))) (fun iv _ => n - (intOf iv).toNat)
  case atStart => exact ⟨0, by omega, rfl, .slice none 0 0, p, er0, [], [], START.out.1, rfl, START.out.2.2.1, START.out.2.2.2, fun e => ⟨START.out.2.1, rfl, by rw [HD.out.1 e, Nat.sub_zero, preL_nil]⟩, HD.out.2⟩
  case round =>
    obtain ⟨j, hj, rfl, lv, p', er, xs, al, hL, hone, rj, grj, hok, hno⟩ := hrel
    clear B1 START
    have k2 : wr.cell? ⟨g, 2, none⟩ = some (.int .i64 er) := rj.blk.cell 2
    have LL := Lib.hid hL
    have ONE := Lib.hid hone
    have RJ := Lib.hid rj
    have GRJ := Lib.hid grj
    have HOK := Lib.hid hok
    have HNO := Lib.hid hno
    clear hL hone rj grj hok hno
    by_cases hlt : j < n
    · have d1 : (j : Int) < (n : Int) := by omega
      have d2 : (0 : Int) ≤ (j : Int) := by omega
      by_cases her : er = 0
      · subst her
        have J := Lib.hid (HOK.out rfl).1
        have HAL := Lib.hid (HOK.out rfl).2.1
        have HDJ := Lib.hid (HOK.out rfl).2.2
        have HLT := Lib.hid hlt
        clear HOK HNO hlt hj
        go_upto_region 5 with fail
        refine wp_region_held_drew (S := fun _ => True) (by kernel_rfl) trivial (fun hHeld => ?_)
        have K0 := Lib.hid (show Still wr wr.drew from (Still.refl wr).drew)
        obtain ⟨wa, hwa⟩ : ∃ wa, wa = wr.drew := ⟨_, rfl⟩
        rw [← hwa] at K0 ⊢
        clear hwa k2
        have LA := Lib.hid (LL.out.grown (grown_of_still K0.out) ZG.out.1)
        have RA := Lib.hid (RJ.out.still K0.out)
        have JA := Lib.hid (J.out.grown (grown_of_still K0.out))
        have GA := Lib.hid (grown_trans GRJ.out (grown_of_still K0.out))
        have VL := Lib.hid (OK'.out wa B g A N c bs p' RA.out)
        obtain ⟨E, hE⟩ : ∃ E, E = dec (bs.drop p') := ⟨_, rfl⟩
        rw [← hE] at VL
        have HEE := Lib.hid hE
        have HJ : Hid (j ≤ 1048576) := Lib.hid (by have := HLT.out; have := HN.out; omega)
        clear hE RJ LL J GRJ K0
        try simp only [Act.put, List.setIfInBounds_toArray, List.set_cons_zero, List.set_cons_succ]
        refine wpAnyH_take (i := 0) (v := .pointer (some ⟨gv, 5, none⟩)) rfl (by kernel_rfl) (by kernel_rfl) (by kernel_rfl) (fun _ _ _ h => h) (Or.inl ⟨by kernel_rfl, fun w _ => by go_simp⟩) (by assumption) ?_
        try simp only [Act.put, List.setIfInBounds_toArray, List.set_cons_zero, List.set_cons_succ]
        refine wpAnyH_take (i := 2) (v := .pointer (some ⟨g, 0, none⟩)) rfl (by kernel_rfl) (by kernel_rfl) (by kernel_rfl) (fun _ _ _ h => h) (Or.inl ⟨by kernel_rfl, fun w _ => by go_simp⟩) (by assumption) ?_
        try simp only [Act.put, List.setIfInBounds_toArray, List.set_cons_zero, List.set_cons_succ]
        refine wpAnyH_take (i := 3) (v := .int .i64 dp) rfl (by kernel_rfl) (by kernel_rfl) (by kernel_rfl) (fun _ _ _ h => h) (Or.inl ⟨by kernel_rfl, fun w _ => by go_simp⟩) (by assumption) ?_
        try simp only [Act.put, List.setIfInBounds_toArray, List.set_cons_zero, List.set_cons_succ]
        refine wpAnyH_take (i := 4) (v := .int .i64 dq) rfl (by kernel_rfl) (by kernel_rfl) (by kernel_rfl) (fun _ _ _ h => h) (Or.inl ⟨by kernel_rfl, fun w _ => by go_simp⟩) (by assumption) ?_
        try simp only [Act.put, List.setIfInBounds_toArray, List.set_cons_zero, List.set_cons_succ]
        refine wpAnyH_ready (rs := [1, 5]) (by kernel_rfl) (by simp) ?_
        refine AllReadyH.cons rfl (fun K hK => ?_) (AllReadyH.cons rfl (fun K hK => ?_) AllReadyH.nil)
        · skip
          rw [if_pos (by kernel_rfl)]
          have kq0 : wa.cell? ⟨gv, 5, none⟩ = some lv := LA.out.bv.cell 5
          with_reducible refine step_loadS wa (.tmp 22) (by kernel_rfl) ⟨gv, 5, none⟩ lv (by kernel_rfl) kq0 ?_
          refine hK.out _ _ trivial (fun hHeld => ?_)
          clear hK K
          try simp only [Act.put, List.setIfInBounds_toArray, List.set_cons_zero, List.set_cons_succ]
          refine wpAnyH_ready (rs := [5]) (by kernel_rfl) (by simp) ?_
          refine AllReadyH.cons rfl (fun K hK => ?_) AllReadyH.nil
          go_simp
          go_wp2_with (go_at_call 31; refine VL.out.mono ?_; rintro e wb ⟨⟨cs, rfl, hc6, hall, p2, r2, h2⟩, gr2⟩)
          have C6 := Lib.hid hc6
          have ALL := Lib.hid hall
          have R2 := Lib.hid r2
          have H2 := Lib.hid h2
          have GR2 := Lib.hid gr2
          have LB := Lib.hid (LA.out.grown gr2 ZG.out.1)
          clear hc6 hall r2 h2 gr2
          refine hK.out _ _ trivial (fun hHeld => ?_)
          clear hK K
          try simp only [Act.put, List.setIfInBounds_toArray, List.set_cons_zero, List.set_cons_succ]
          refine wpAnyH_ready (rs := [6]) (by kernel_rfl) (by simp) ?_
          refine AllReadyH.cons rfl (fun K hK => ?_) AllReadyH.nil
          rw [if_pos (by kernel_rfl)]
          refine step_boxV wb (.tmp 27) (by kernel_rfl) cs C6.out (by kernel_rfl) ?_
          obtain ⟨wc, hwc⟩ : ∃ wc, wc = wb.alloc (.cells cs.toArray 26) := ⟨_, rfl⟩
          obtain ⟨gx, hgx⟩ : ∃ gx, gx = wb.heap.size := ⟨_, rfl⟩
          have SC := Lib.hid (show Still wb wc by rw [hwc]; exact (Still.refl wb).alloc (Nat.le_refl _) _)
          have BC := Lib.hid (show Blk wc gx 26 cs.toArray by rw [hwc, hgx]; exact Blk.new _ _ _)
          have LC := Lib.hid (LB.out.grown (grown_of_still SC.out) ZG.out.1)
          have HWC := Lib.hid hwc
          rw [← hwc, ← hgx]
          clear hwc hgx
          refine hK.out _ _ trivial (fun hHeld => ?_)
          clear hK K
          try simp only [Act.put, List.setIfInBounds_toArray, List.set_cons_zero, List.set_cons_succ]
          refine wpAnyH_ready (rs := [7]) (by kernel_rfl) (by simp) ?_
          refine AllReadyH.cons rfl (fun K hK => ?_) AllReadyH.nil
          rw [if_pos (by kernel_rfl)]
          refine step_pushV wc (.tmp 23) (.tmp 28) (by kernel_rfl) (gv + 1) lv j xs (by kernel_rfl) ((JA.out.grown GR2.out).grown (grown_of_still SC.out)).ownl gx cs (by kernel_rfl) (fun q u hq => (BC.out.cell q).trans (by simpa using hq)) C6.out (fun u hu => (Array.all_eq_true_iff_forall_mem.1 ALL.out) u (by simpa using hu)) HJ.out ((JA.out.grown GR2.out).grown (grown_of_still SC.out)).z ?_
          intro v4 wd own4 gr4 loc4
          have ST := Lib.hid (ls_step GA.out (by rw [ZG.out.2.1]; exact Nat.le_refl _) JA.out LA.out ZG.out.1 GR2.out own4 (by rw [← HWC.out]; exact gr4) (by rw [← HWC.out]; exact loc4) C6.out R2.out)
          have BD := Lib.hid (show Blk wd gv 26 #[.int .i64 6, .int .i64 0, .slice none 0 0, .string ⟨#[]⟩, .slice none 0 0, lv] from (gr4.block gv LC.out.bv.lt (fun e => by have := (JA.out.ownl.lt gv e.symm).1; omega)).trans LC.out.bv)
          have O4 := Lib.hid (show v4.oneCell' = true by
            rcases own4.2 with ⟨h, _⟩ | ⟨_, _, _, h, _⟩ <;> (rw [h]; rfl))
          have FIN0 := Lib.hid (show ∃ (lv : Value) (p' : Nat) (er : Int) (xs : List Value) (al : List Tr), LsB (wd.setCell ⟨gv, 5, none⟩ v4) gb gv 6 (.slice none 0 0) lv ∧ lv.oneCell' = true ∧ DRd (wd.setCell ⟨gv, 5, none⟩ v4) B g A N c bs p' er ∧ w.grownBy (wd.setCell ⟨gv, 5, none⟩ v4) (some g) ∧
              (er = 0 → AccV (wd.setCell ⟨gv, 5, none⟩ v4) (gv + 1) g gv (.slice none 0 0) 0 [] lv (j + 1) xs al ∧ al.length = j + 1 ∧ D = preL al (decL dec (n - (j + 1)) (bs.drop p'))) ∧ (er ≠ 0 → D.1 = er) from by
            obtain ⟨h1, h2, h3, h4⟩ := ST.out
            have hs : decL dec (n - j) (bs.drop p') = decL dec ((n - (j + 1)) + 1) (bs.drop p') := by rw [show n - j = (n - (j + 1)) + 1 by have := HLT.out; omega]
            refine ⟨v4, p2, E.1, xs ++ cs, al ++ [E.2.1], h2, O4.out, h1, h3, fun h0 => ?_, fun h0 => ?_⟩
            · obtain ⟨q1, q2⟩ := H2.out h0
              exact ⟨h4 _ q2, by rw [List.length_append, HAL.out]; rfl, by rw [HDJ.out, hs, preL_step, ← HEE.out, if_neg (by rw [h0]; decide), q1]⟩
            · rw [HDJ.out, hs, preL_step, ← HEE.out, if_pos h0])
          have FIN := FIN0
          clear own4 gr4 loc4 ST FIN0
          refine hK.out _ _ trivial (fun hHeld => ?_)
          clear hK K
          try simp only [Act.put, List.setIfInBounds_toArray, List.set_cons_zero, List.set_cons_succ]
          refine wpAnyH_take (i := 8) (v := .pointer (some ⟨gv, 5, none⟩)) rfl (by kernel_rfl) (by kernel_rfl) (by kernel_rfl) (fun _ _ _ h => h) (Or.inl ⟨by kernel_rfl, fun w _ => by go_simp⟩) (by assumption) ?_
          try simp only [Act.put, List.setIfInBounds_toArray, List.set_cons_zero, List.set_cons_succ]
          refine wpAnyH_ready (rs := [9]) (by kernel_rfl) (by simp) ?_
          refine AllReadyH.cons rfl (fun K hK => ?_) AllReadyH.nil
          rw [if_pos (by kernel_rfl)]
          have kq1 : wd.cell? ⟨gv, 5, none⟩ = some lv := BD.out.cell 5
          have kq2 : wd.frozen? ⟨gv, 5, none⟩ = false := BD.out.frozen 5
          have kq3 := O4.out
          with_reducible refine step_storeC wd 24 (.tmp 30) (.tmp 29) (by kernel_rfl) gv 5 v4 lv (by kernel_rfl) (by kernel_rfl) kq3 infoRowV kq1 kq2 ?_
          refine hK.out _ _ trivial (fun hHeld => ?_)
          clear hK K
          try simp only [Act.put, List.setIfInBounds_toArray, List.set_cons_zero, List.set_cons_succ]
          refine wpAnyH_done (by kernel_rfl) ?_ _
          go_wp2_with fail
          go_roundw
          case rel => exact ⟨j + 1, by have := HLT.out; omega, by go_num, FIN.out⟩
          case measure => simp [intOf]; have := HLT.out; omega
        · skip
          go_simp
          go_wp2_with (go_at_call 31; refine VL.out.mono ?_; rintro e wb ⟨⟨cs, rfl, hc6, hall, p2, r2, h2⟩, gr2⟩)
          have C6 := Lib.hid hc6
          have ALL := Lib.hid hall
          have R2 := Lib.hid r2
          have H2 := Lib.hid h2
          have GR2 := Lib.hid gr2
          have LB := Lib.hid (LA.out.grown gr2 ZG.out.1)
          clear hc6 hall r2 h2 gr2
          refine hK.out _ _ trivial (fun hHeld => ?_)
          clear hK K
          try simp only [Act.put, List.setIfInBounds_toArray, List.set_cons_zero, List.set_cons_succ]
          refine wpAnyH_ready (rs := [1, 6]) (by kernel_rfl) (by simp) ?_
          refine AllReadyH.cons rfl (fun K hK => ?_) (AllReadyH.cons rfl (fun K hK => ?_) AllReadyH.nil)
          · skip
            rw [if_pos (by kernel_rfl)]
            have kq0 : wb.cell? ⟨gv, 5, none⟩ = some lv := LB.out.bv.cell 5
            with_reducible refine step_loadS wb (.tmp 22) (by kernel_rfl) ⟨gv, 5, none⟩ lv (by kernel_rfl) kq0 ?_
            refine hK.out _ _ trivial (fun hHeld => ?_)
            clear hK K
            try simp only [Act.put, List.setIfInBounds_toArray, List.set_cons_zero, List.set_cons_succ]
            refine wpAnyH_ready (rs := [6]) (by kernel_rfl) (by simp) ?_
            refine AllReadyH.cons rfl (fun K hK => ?_) AllReadyH.nil
            rw [if_pos (by kernel_rfl)]
            refine step_boxV wb (.tmp 27) (by kernel_rfl) cs C6.out (by kernel_rfl) ?_
            obtain ⟨wc, hwc⟩ : ∃ wc, wc = wb.alloc (.cells cs.toArray 26) := ⟨_, rfl⟩
            obtain ⟨gx, hgx⟩ : ∃ gx, gx = wb.heap.size := ⟨_, rfl⟩
            have SC := Lib.hid (show Still wb wc by rw [hwc]; exact (Still.refl wb).alloc (Nat.le_refl _) _)
            have BC := Lib.hid (show Blk wc gx 26 cs.toArray by rw [hwc, hgx]; exact Blk.new _ _ _)
            have LC := Lib.hid (LB.out.grown (grown_of_still SC.out) ZG.out.1)
            have HWC := Lib.hid hwc
            rw [← hwc, ← hgx]
            clear hwc hgx
            refine hK.out _ _ trivial (fun hHeld => ?_)
            clear hK K
            try simp only [Act.put, List.setIfInBounds_toArray, List.set_cons_zero, List.set_cons_succ]
            refine wpAnyH_ready (rs := [7]) (by kernel_rfl) (by simp) ?_
            refine AllReadyH.cons rfl (fun K hK => ?_) AllReadyH.nil
            rw [if_pos (by kernel_rfl)]
            refine step_pushV wc (.tmp 23) (.tmp 28) (by kernel_rfl) (gv + 1) lv j xs (by kernel_rfl) ((JA.out.grown GR2.out).grown (grown_of_still SC.out)).ownl gx cs (by kernel_rfl) (fun q u hq => (BC.out.cell q).trans (by simpa using hq)) C6.out (fun u hu => (Array.all_eq_true_iff_forall_mem.1 ALL.out) u (by simpa using hu)) HJ.out ((JA.out.grown GR2.out).grown (grown_of_still SC.out)).z ?_
            intro v4 wd own4 gr4 loc4
            have ST := Lib.hid (ls_step GA.out (by rw [ZG.out.2.1]; exact Nat.le_refl _) JA.out LA.out ZG.out.1 GR2.out own4 (by rw [← HWC.out]; exact gr4) (by rw [← HWC.out]; exact loc4) C6.out R2.out)
            have BD := Lib.hid (show Blk wd gv 26 #[.int .i64 6, .int .i64 0, .slice none 0 0, .string ⟨#[]⟩, .slice none 0 0, lv] from (gr4.block gv LC.out.bv.lt (fun e => by have := (JA.out.ownl.lt gv e.symm).1; omega)).trans LC.out.bv)
            have O4 := Lib.hid (show v4.oneCell' = true by
              rcases own4.2 with ⟨h, _⟩ | ⟨_, _, _, h, _⟩ <;> (rw [h]; rfl))
            have FIN0 := Lib.hid (show ∃ (lv : Value) (p' : Nat) (er : Int) (xs : List Value) (al : List Tr), LsB (wd.setCell ⟨gv, 5, none⟩ v4) gb gv 6 (.slice none 0 0) lv ∧ lv.oneCell' = true ∧ DRd (wd.setCell ⟨gv, 5, none⟩ v4) B g A N c bs p' er ∧ w.grownBy (wd.setCell ⟨gv, 5, none⟩ v4) (some g) ∧
                (er = 0 → AccV (wd.setCell ⟨gv, 5, none⟩ v4) (gv + 1) g gv (.slice none 0 0) 0 [] lv (j + 1) xs al ∧ al.length = j + 1 ∧ D = preL al (decL dec (n - (j + 1)) (bs.drop p'))) ∧ (er ≠ 0 → D.1 = er) from by
              obtain ⟨h1, h2, h3, h4⟩ := ST.out
              have hs : decL dec (n - j) (bs.drop p') = decL dec ((n - (j + 1)) + 1) (bs.drop p') := by rw [show n - j = (n - (j + 1)) + 1 by have := HLT.out; omega]
              refine ⟨v4, p2, E.1, xs ++ cs, al ++ [E.2.1], h2, O4.out, h1, h3, fun h0 => ?_, fun h0 => ?_⟩
              · obtain ⟨q1, q2⟩ := H2.out h0
                exact ⟨h4 _ q2, by rw [List.length_append, HAL.out]; rfl, by rw [HDJ.out, hs, preL_step, ← HEE.out, if_neg (by rw [h0]; decide), q1]⟩
              · rw [HDJ.out, hs, preL_step, ← HEE.out, if_pos h0])
            have FIN := FIN0
            clear own4 gr4 loc4 ST FIN0
            refine hK.out _ _ trivial (fun hHeld => ?_)
            clear hK K
            try simp only [Act.put, List.setIfInBounds_toArray, List.set_cons_zero, List.set_cons_succ]
            refine wpAnyH_take (i := 8) (v := .pointer (some ⟨gv, 5, none⟩)) rfl (by kernel_rfl) (by kernel_rfl) (by kernel_rfl) (fun _ _ _ h => h) (Or.inl ⟨by kernel_rfl, fun w _ => by go_simp⟩) (by assumption) ?_
            try simp only [Act.put, List.setIfInBounds_toArray, List.set_cons_zero, List.set_cons_succ]
            refine wpAnyH_ready (rs := [9]) (by kernel_rfl) (by simp) ?_
            refine AllReadyH.cons rfl (fun K hK => ?_) AllReadyH.nil
            rw [if_pos (by kernel_rfl)]
            have kq1 : wd.cell? ⟨gv, 5, none⟩ = some lv := BD.out.cell 5
            have kq2 : wd.frozen? ⟨gv, 5, none⟩ = false := BD.out.frozen 5
            have kq3 := O4.out
            with_reducible refine step_storeC wd 24 (.tmp 30) (.tmp 29) (by kernel_rfl) gv 5 v4 lv (by kernel_rfl) (by kernel_rfl) kq3 infoRowV kq1 kq2 ?_
            refine hK.out _ _ trivial (fun hHeld => ?_)
            clear hK K
            try simp only [Act.put, List.setIfInBounds_toArray, List.set_cons_zero, List.set_cons_succ]
            refine wpAnyH_done (by kernel_rfl) ?_ _
            go_wp2_with fail
            go_roundw
            case rel => exact ⟨j + 1, by have := HLT.out; omega, by go_num, FIN.out⟩
            case measure => simp [intOf]; have := HLT.out; omega
          · skip
            rw [if_pos (by kernel_rfl)]
            refine step_boxV wb (.tmp 27) (by kernel_rfl) cs C6.out (by kernel_rfl) ?_
            obtain ⟨wc, hwc⟩ : ∃ wc, wc = wb.alloc (.cells cs.toArray 26) := ⟨_, rfl⟩
            obtain ⟨gx, hgx⟩ : ∃ gx, gx = wb.heap.size := ⟨_, rfl⟩
            have SC := Lib.hid (show Still wb wc by rw [hwc]; exact (Still.refl wb).alloc (Nat.le_refl _) _)
            have BC := Lib.hid (show Blk wc gx 26 cs.toArray by rw [hwc, hgx]; exact Blk.new _ _ _)
            have LC := Lib.hid (LB.out.grown (grown_of_still SC.out) ZG.out.1)
            have HWC := Lib.hid hwc
            rw [← hwc, ← hgx]
            clear hwc hgx
            refine hK.out _ _ trivial (fun hHeld => ?_)
            clear hK K
            try simp only [Act.put, List.setIfInBounds_toArray, List.set_cons_zero, List.set_cons_succ]
            refine wpAnyH_ready (rs := [1]) (by kernel_rfl) (by simp) ?_
            refine AllReadyH.cons rfl (fun K hK => ?_) AllReadyH.nil
            rw [if_pos (by kernel_rfl)]
            have kq0 : wc.cell? ⟨gv, 5, none⟩ = some lv := LC.out.bv.cell 5
            with_reducible refine step_loadS wc (.tmp 22) (by kernel_rfl) ⟨gv, 5, none⟩ lv (by kernel_rfl) kq0 ?_
            refine hK.out _ _ trivial (fun hHeld => ?_)
            clear hK K
            try simp only [Act.put, List.setIfInBounds_toArray, List.set_cons_zero, List.set_cons_succ]
            refine wpAnyH_ready (rs := [7]) (by kernel_rfl) (by simp) ?_
            refine AllReadyH.cons rfl (fun K hK => ?_) AllReadyH.nil
            rw [if_pos (by kernel_rfl)]
            refine step_pushV wc (.tmp 23) (.tmp 28) (by kernel_rfl) (gv + 1) lv j xs (by kernel_rfl) ((JA.out.grown GR2.out).grown (grown_of_still SC.out)).ownl gx cs (by kernel_rfl) (fun q u hq => (BC.out.cell q).trans (by simpa using hq)) C6.out (fun u hu => (Array.all_eq_true_iff_forall_mem.1 ALL.out) u (by simpa using hu)) HJ.out ((JA.out.grown GR2.out).grown (grown_of_still SC.out)).z ?_
            intro v4 wd own4 gr4 loc4
            have ST := Lib.hid (ls_step GA.out (by rw [ZG.out.2.1]; exact Nat.le_refl _) JA.out LA.out ZG.out.1 GR2.out own4 (by rw [← HWC.out]; exact gr4) (by rw [← HWC.out]; exact loc4) C6.out R2.out)
            have BD := Lib.hid (show Blk wd gv 26 #[.int .i64 6, .int .i64 0, .slice none 0 0, .string ⟨#[]⟩, .slice none 0 0, lv] from (gr4.block gv LC.out.bv.lt (fun e => by have := (JA.out.ownl.lt gv e.symm).1; omega)).trans LC.out.bv)
            have O4 := Lib.hid (show v4.oneCell' = true by
              rcases own4.2 with ⟨h, _⟩ | ⟨_, _, _, h, _⟩ <;> (rw [h]; rfl))
            have FIN0 := Lib.hid (show ∃ (lv : Value) (p' : Nat) (er : Int) (xs : List Value) (al : List Tr), LsB (wd.setCell ⟨gv, 5, none⟩ v4) gb gv 6 (.slice none 0 0) lv ∧ lv.oneCell' = true ∧ DRd (wd.setCell ⟨gv, 5, none⟩ v4) B g A N c bs p' er ∧ w.grownBy (wd.setCell ⟨gv, 5, none⟩ v4) (some g) ∧
                (er = 0 → AccV (wd.setCell ⟨gv, 5, none⟩ v4) (gv + 1) g gv (.slice none 0 0) 0 [] lv (j + 1) xs al ∧ al.length = j + 1 ∧ D = preL al (decL dec (n - (j + 1)) (bs.drop p'))) ∧ (er ≠ 0 → D.1 = er) from by
              obtain ⟨h1, h2, h3, h4⟩ := ST.out
              have hs : decL dec (n - j) (bs.drop p') = decL dec ((n - (j + 1)) + 1) (bs.drop p') := by rw [show n - j = (n - (j + 1)) + 1 by have := HLT.out; omega]
              refine ⟨v4, p2, E.1, xs ++ cs, al ++ [E.2.1], h2, O4.out, h1, h3, fun h0 => ?_, fun h0 => ?_⟩
              · obtain ⟨q1, q2⟩ := H2.out h0
                exact ⟨h4 _ q2, by rw [List.length_append, HAL.out]; rfl, by rw [HDJ.out, hs, preL_step, ← HEE.out, if_neg (by rw [h0]; decide), q1]⟩
              · rw [HDJ.out, hs, preL_step, ← HEE.out, if_pos h0])
            have FIN := FIN0
            clear own4 gr4 loc4 ST FIN0
            refine hK.out _ _ trivial (fun hHeld => ?_)
            clear hK K
            try simp only [Act.put, List.setIfInBounds_toArray, List.set_cons_zero, List.set_cons_succ]
            refine wpAnyH_take (i := 8) (v := .pointer (some ⟨gv, 5, none⟩)) rfl (by kernel_rfl) (by kernel_rfl) (by kernel_rfl) (fun _ _ _ h => h) (Or.inl ⟨by kernel_rfl, fun w _ => by go_simp⟩) (by assumption) ?_
            try simp only [Act.put, List.setIfInBounds_toArray, List.set_cons_zero, List.set_cons_succ]
            refine wpAnyH_ready (rs := [9]) (by kernel_rfl) (by simp) ?_
            refine AllReadyH.cons rfl (fun K hK => ?_) AllReadyH.nil
            rw [if_pos (by kernel_rfl)]
            have kq1 : wd.cell? ⟨gv, 5, none⟩ = some lv := BD.out.cell 5
            have kq2 : wd.frozen? ⟨gv, 5, none⟩ = false := BD.out.frozen 5
            have kq3 := O4.out
            with_reducible refine step_storeC wd 24 (.tmp 30) (.tmp 29) (by kernel_rfl) gv 5 v4 lv (by kernel_rfl) (by kernel_rfl) kq3 infoRowV kq1 kq2 ?_
            refine hK.out _ _ trivial (fun hHeld => ?_)
            clear hK K
            try simp only [Act.put, List.setIfInBounds_toArray, List.set_cons_zero, List.set_cons_succ]
            refine wpAnyH_done (by kernel_rfl) ?_ _
            go_wp2_with fail
            go_roundw
            case rel => exact ⟨j + 1, by have := HLT.out; omega, by go_num, FIN.out⟩
            case measure => simp [intOf]; have := HLT.out; omega
      · have d5 : (er == 0) = false := by simpa using her
        have HE := Lib.hid (HNO.out her)
        have HER := Lib.hid her
        clear her HOK HNO
        go_upto_region 6 with fail
        refine wp_region_lit ?_
        refine wpList_load_row rfl 26 (.tmp 7) rfl gv rfl _ _ _ _ LL.out.bv HU.out rfl (by rw [sizeValue]; rfl) ?_
        go_wp2_with (guard_target =~ wpList _ _ _ (Oper.mk none (Op.store _ _ _) _ _ _ _ :: _) _ _; go_must (refine wpList_store_rowTo rfl 26 (.tmp 6) (.tmp 31) rfl rfl gb #[.int .i64 6, .int .i64 0, .slice none 0 0, .string ⟨#[]⟩, .slice none 0 0, lv] rfl rfl 26 _ LL.out.bb (by rw [sizeValue]; simp) (by simp [cellsZ]) (by simp [Value.oneCell']; exact ONE.out) ?_))
        (try simp only [Exit.inBlock, Exit.then])
        refine bodyPost_ret (results_cell_row rfl _ _ gb _ _ _ _ rfl (setRow_heap wr _ _ _ _ _ LL.out.bb) HU.out rfl (by rw [sizeValue]; simp)) rfl ?_
        exact ls_bad ZG.out.2.1 ZG.out.1 GRJ.out RJ.out (by rw [HE.out]) (by rw [HE.out]; exact HER.out) (by simp [Value.oneCell']; exact ONE.out) rfl
    · obtain rfl : j = n := by omega
      by_cases her : er = 0
      · subst her
        have J := Lib.hid (HOK.out rfl).1
        have HAL := Lib.hid (HOK.out rfl).2.1
        have HDJ := Lib.hid (show D = (0, al, bs.drop p') by
          have h := (HOK.out rfl).2.2
          rw [h, Nat.sub_self]
          unfold decL preL
          simp)
        clear HOK HNO hlt
        go_upto_region 6 with fail
        refine wp_region_lit ?_
        refine wpList_load_row rfl 26 (.tmp 7) rfl gv rfl _ _ _ _ LL.out.bv HU.out rfl (by rw [sizeValue]; rfl) ?_
        go_wp2_with (guard_target =~ wpList _ _ _ (Oper.mk none (Op.store _ _ _) _ _ _ _ :: _) _ _; go_must (refine wpList_store_rowTo rfl 26 (.tmp 6) (.tmp 31) rfl rfl gb #[.int .i64 6, .int .i64 0, .slice none 0 0, .string ⟨#[]⟩, .slice none 0 0, lv] rfl rfl 26 _ LL.out.bb (by rw [sizeValue]; simp) (by simp [cellsZ]) (by simp [Value.oneCell']; exact ONE.out) ?_))
        (try simp only [Exit.inBlock, Exit.then])
        refine bodyPost_ret (results_cell_row rfl _ _ gb _ _ _ _ rfl (setRow_heap wr _ _ _ _ _ LL.out.bb) HU.out rfl (by rw [sizeValue]; simp)) rfl ?_
        rw [HDJ.out]
        exact ls_good (kk := 6) ZG.out.2.1 ZG.out.1 ZG.out.2.2.1 GRJ.out RJ.out J.out HAL.out LL.out (by have := HN.out; omega) ONE.out
      · have HE := Lib.hid (HNO.out her)
        have HER := Lib.hid her
        clear her HOK HNO hlt
        go_upto_region 6 with fail
        refine wp_region_lit ?_
        refine wpList_load_row rfl 26 (.tmp 7) rfl gv rfl _ _ _ _ LL.out.bv HU.out rfl (by rw [sizeValue]; rfl) ?_
        go_wp2_with (guard_target =~ wpList _ _ _ (Oper.mk none (Op.store _ _ _) _ _ _ _ :: _) _ _; go_must (refine wpList_store_rowTo rfl 26 (.tmp 6) (.tmp 31) rfl rfl gb #[.int .i64 6, .int .i64 0, .slice none 0 0, .string ⟨#[]⟩, .slice none 0 0, lv] rfl rfl 26 _ LL.out.bb (by rw [sizeValue]; simp) (by simp [cellsZ]) (by simp [Value.oneCell']; exact ONE.out) ?_))
        (try simp only [Exit.inBlock, Exit.then])
        refine bodyPost_ret (results_cell_row rfl _ _ gb _ _ _ _ rfl (setRow_heap wr _ _ _ _ _ LL.out.bb) HU.out rfl (by rw [sizeValue]; simp)) rfl ?_
        exact ls_bad ZG.out.2.1 ZG.out.1 GRJ.out RJ.out (by rw [HE.out]) (by rw [HE.out]; exact HER.out) (by simp [Value.oneCell']; exact ONE.out) rfl
end Go.Proofs.YtmpnehhndhepgaaDoor

/- The document's own reader of values: keys and values. It proves no statement. -/


namespace Go.Proofs.YtmpnehhndhepgaaDoor
open Go.RowKit
set_option linter.unusedVariables false
set_option linter.unusedSimpArgs false

/-- No key begins here, though something does. -/
def badK (L : List UInt8) : Bool := match L with | [] => false | t :: _ => decide (kd t.toNat ≠ 5)
theorem badK_err (L : List UInt8) (h : badK L = true) : keD L = (4, [], L.tail) := by
  cases L with
  | nil => cases h
  | cons t l =>
    unfold badK at h
    simp only [decide_eq_true_eq] at h
    show (if kd t.toNat = 5 then txD t.toNat l else (4, [], l)) = _
    rw [if_neg h]
    rfl
theorem kd5 (y : Nat) : kd y = 5 ↔ (160 ≤ y ∧ y < 192) ∨ y = 217 ∨ y = 218 := by
  unfold kd
  constructor
  · intro h
    split at h <;> (try split at h) <;> (try split at h) <;> (try split at h) <;> (try split at h) <;> (try split at h) <;> (try split at h) <;> (try split at h) <;> omega
  · intro h
    rw [if_neg (by omega), if_neg (by omega), if_neg (by omega), if_pos (by omega)]
/-- One key more is in the row. -/
theorem lk_step {w0 wr W3 W4 : World} {base g gb gv B : Nat} {A : Option Addr} {N c : Nat} {bs : List UInt8} {p' : Nat} {er : Int} {kv v' : Value} {nk : Nat} {ks : List Value} {lv : Value} {nv : Nat} {xs : List Value} {al : List Tr} {u : Value} {kk : Int}
    (g0 : w0.grownBy wr (some g)) (hg0 : w0.heap.size ≤ gb) (J : AccV wr base g gv kv nk ks lv nv xs al) (L : LsB wr gb gv kk kv lv) (hgg : g < gb) (s3 : Still wr W3)
    (own : W4.ownsRow base 9 1 v' (nk + 1) (ks ++ [u])) (gr4 : W3.grownBy W4 kv.ownBlock) (loc : v'.ownBlock = kv.ownBlock ∨ v'.ownBlock = some W3.heap.size) (r : DRd wr B g A N c bs p' er) :
    DRd (W4.setCell ⟨gv, 4, none⟩ v') B g A N c bs p' er ∧ LsB (W4.setCell ⟨gv, 4, none⟩ v') gb gv kk v' lv ∧ w0.grownBy (W4.setCell ⟨gv, 4, none⟩ v') (some g) ∧ AccV (W4.setCell ⟨gv, 4, none⟩ v') base g gv v' (nk + 1) (ks ++ [u]) lv nv xs al := by
  have J3 := J.grown (grown_of_still s3)
  have L3 := L.grown (grown_of_still s3) hgg
  have hl : ∀ b, kv.ownBlock = some b → base ≤ b := fun b e => (J.ownk.lt b e).1
  have hlo := acc_low (gv := gv) (i := 4) (u := v') gr4 hl J3.z
  have hv := J.hv
  have ne := L.ne
  have b4 : Blk W4 gv 26 #[.int .i64 kk, .int .i64 0, .slice none 0 0, .string ⟨#[]⟩, kv, lv] := (gr4.block gv L3.bv.lt (fun e => by have := hl gv e.symm; omega)).trans L3.bv
  have z0 := g0.size
  have z3 := s3.size
  refine ⟨?_, ?_, ?_, ?_⟩
  · have r3 := r.still s3
    have hf := r3.far
    exact { r3 with blk := (hlo g J.hg (by omega)).trans r3.blk, reads := r3.reads.below ⟨gr4.os, gr4.tape, gr4.output, by have := gr4.size; simpa [World.setCell] using this, fun b hb => hlo b (by have := J.hg; omega) (by omega)⟩ }
  · exact { bb := (hlo gb (by omega) (by omega)).trans L3.bb, bv := by have h := b4.setc 4 v'; simpa using h, ne := ne }
  · have gq : w0.grownBy W3 (some g) := grown_trans g0 (grown_of_still s3)
    have zb := L.bb.lt
    have h1 := gq.size
    have h2 := gr4.size
    have h3 : (W4.setCell ⟨gv, 4, none⟩ v').heap.size = W4.heap.size := by simp [World.setCell]
    exact ⟨gr4.os.trans gq.os, gr4.tape.trans gq.tape, gr4.output.trans gq.output, by omega, fun b hb hne => (hlo b (by omega) (by omega)).trans (gq.block b hb hne)⟩
  · exact AccV.set (AccV.pushK J3 own gr4 loc) 4 v'
/-- The end of keys and values that were read. -/
theorem lk_good {w wr : World} {B g gb gv : Nat} {A : Option Addr} {N c : Nat} {bs : List UInt8} {p' : Nat} {kv lv : Value} {n : Nat} {xs : List Value} {ak : List (List UInt8)} {al : List Tr} (hgb : gb = w.heap.size) (hg : g < gb) (hgv : gv = gb + 1) (gr : w.grownBy wr (some g)) (r : DRd wr B g A N c bs p' 0)
    (J : AccV wr (gv + 1) g gv kv n (ak.map fun k => .string (mkS k)) lv n xs al) (hak : ak.length = n) (hal : al.length = n) (hkl : ∀ k ∈ ak, k.length ≤ 1048576) (L : LsB wr gb gv 7 kv lv) (hn : n ≤ 1048576) (ho : lv.oneCell' = true) (hok : kv.oneCell' = true) :
    DVPost w B g A N c bs (0, .mk 7 0 [] ByteArray.empty (ak.map mkS) al, bs.drop p') (.returned (.agg #[.int .i64 7, .int .i64 0, .slice none 0 0, .string ⟨#[]⟩, kv, lv])) (wr.setRow gb #[.int .i64 7, .int .i64 0, .slice none 0 0, .string ⟨#[]⟩, kv, lv]) := by
  have hf := r.far
  have hz := L.bb.lt
  refine ⟨⟨[.int .i64 7, .int .i64 0, .slice none 0 0, .string ⟨#[]⟩, kv, lv], rfl, rfl, by simp [Value.oneCell']; exact ⟨hok, ho⟩, p', r.below (M := gb) (below_setRow (Below.refl _ _) (Nat.le_refl _) _) hg, fun _ => ⟨rfl, ?_⟩⟩, grown_row gr (by omega) _⟩
  obtain ⟨wS, hwS⟩ : ∃ wS, wS = wr.setRow gb #[.int .i64 7, .int .i64 0, .slice none 0 0, .string ⟨#[]⟩, kv, lv] := ⟨_, rfl⟩
  have J2 : AccV wS (gv + 1) g gv kv n (ak.map fun k => .string (mkS k)) lv n xs al := by rw [hwS]; exact J.high (fun b hb _ => setRow_other wr gb b _ (by omega)) (by simp [World.setRow])
  rw [← hwS]
  clear hwS
  have hR := HasR.keep (w' := wS) (Q := fun b => w.heap.size ≤ b) (fun _ _ _ => rfl) (Nat.le_refl _) (fun b hb _ => by have := hb.1; omega) _ _ J2.row
  have own := J2.ownl
  have ownk := J2.ownk
  have KP : ∃ Ak ck, kv = .slice Ak n ck ∧ KeysP wS (fun b => w.heap.size ≤ b) Ak (ak.map mkS) := by
    have hs : ∀ s ∈ ak.map mkS, s.size ≤ 1048576 := fun s hs => by
      obtain ⟨k, hk, rfl⟩ := List.mem_map.1 hs
      have := hkl k hk
      show k.toArray.size ≤ 1048576
      simp
      omega
    rcases ownk.2 with ⟨hv, hn0⟩ | ⟨g', cap, cur, hv, hlo, hgb', _⟩
    · exact ⟨none, 0, by rw [hv, hn0], hs, fun h => by rw [List.length_map] at h; omega⟩
    · rw [hv] at ownk
      refine ⟨some ⟨g', 0, none⟩, cap, hv, hs, fun _ => ⟨g', 0, rfl, by omega, (Array.getElem?_eq_some_iff.1 hgb').1, fun j hj => ?_⟩⟩
      exact keysOf (P := fun _ => True) hak ownk j (by simpa using hj)
  obtain ⟨Ak, ck, hkv, hKP⟩ := KP
  rcases own.2 with ⟨hv, hn0⟩ | ⟨g', cap, cur, hv, hlo, hgb', _⟩
  · have hz0 : al = [] := List.eq_nil_of_length_eq_zero (by omega)
    have hz1 : ak = [] := List.eq_nil_of_length_eq_zero (by omega)
    rw [hv, hz0, hkv, hn0]
    rw [hz1] at hKP ⊢
    unfold HasP
    exact ⟨none, 0, 0, Ak, ck, none, 0, rfl, by omega, by omega, ⟨⟨rfl, fun h => absurd h (by omega)⟩, by omega, fun _ => rfl⟩, by decide, ⟨hKP, by simp⟩, by simp, fun h => absurd h (by simp)⟩
  · rw [hv] at own ⊢
    rw [hkv]
    unfold HasP
    refine ⟨none, 0, 0, Ak, ck, some ⟨g', 0, none⟩, cap, by rw [hal, List.length_map, hak]; rfl, by omega, by omega, ⟨⟨rfl, fun h => absurd h (by omega)⟩, by omega, fun _ => rfl⟩, by decide, ⟨hKP, by rw [List.length_map, hak]; omega⟩, by omega, fun _ => ⟨g', 0, rfl, by omega, (Array.getElem?_eq_some_iff.1 hgb').1, ?_⟩⟩
    exact HasR.toL _ _ 0 hR fun i v hi => by
      rw [Nat.zero_add]
      have hl := own.1
      have hil := (List.getElem?_eq_some_iff.1 hi).1
      exact (own.cellAt i (by omega)).trans hi
theorem step_loadK (w : World) {o : Oper} {a : Act} {K : Act → World → Prop} {Q : Exit → Act → World → Prop} (x : Operand) (ho : o.op = .load 23 x) (p : Addr) (v : Value) (hx : a.eval x = .pointer (some p)) (hc : w.cell? p = some v)
    (h : K (a.put o.dst v) w) : o.wp Tryd.prog a w K Q := by
  unfold Oper.wp execOp
  simp only [ho, hx, Instr.loadAt, Instr.sureAddr, Sem.run_bind, Sem.run_pure, Result.andThen_ok]
  simp [loadVar, hc]
  exact h
theorem ord_text (p k : List UInt8) : (Op.bytesLess (mkS k).toList (mkS p).toList || ((mkS k).toList == (mkS p).toList)) = ordB (some p) k := by
  have h := less_tri (mkS p).toList (mkS k).toList
  rw [h]
  have e : ∀ q : List UInt8, (mkS q).toList = q := fun q => by rw [ByteArray.toList_eq]; exact mkS_list q
  rw [e, e]
  rfl
end Go.Proofs.YtmpnehhndhepgaaDoor

/- The document's own reader of values: a text, as a key. It proves no statement. -/


namespace Go.Proofs.YtmpnehhndhepgaaDoor
open Go.RowKit
set_option linter.unusedVariables false
set_option linter.unusedSimpArgs false

theorem szD5_short (t : Nat) (h1 : 160 ≤ t) (h2 : t < 192) (L : List UInt8) : szD 5 t L = (0, t - 160, L) := by
  unfold szD
  rw [if_pos (by unfold bh; rw [if_neg (by omega), if_neg (by omega), if_neg (by omega), if_neg (by omega)])]
  rfl
set_option maxRecDepth 100000 in
/-- A text behind its first byte. -/
theorem dv_text {w : World} {B g : Nat} {A : Option Addr} {N c : Nat} {bs : List UInt8} {p : Nat} (r : DRd w B g A N c bs p 0) (depth : Int) {t : UInt8} {l : List UInt8} (hd : bs.drop p = t :: l) (h16 : depth ≤ 16) (h5 : kd t.toNat = 5) :
    Calls Tryd.prog 31 #[.pointer (some ⟨g, 0, none⟩), .int .i64 depth] w (DVPost w B g A N c bs ((txD t.toNat l).1, .mk 5 0 [] ⟨(txD t.toNat l).2.1.toArray⟩ [] [], (txD t.toNat l).2.2)) := by
  have hp1 := (drop_one hd).1
  rcases (kd5 t.toNat).1 h5 with ⟨h1, h2⟩ | h | h
  · have hS := szD5_short t.toNat h1 h2 l
    by_cases hs : l.length < t.toNat - 160
    · have hD : txD t.toNat l = (3, [], l) := by unfold txD; rw [hS, if_neg (show ¬ (0 : Int) ≠ 0 by decide), if_pos hs]
      rw [hD]
      exact dv_text_no r depth hd h16 h1 h2 hs _ _
    · have hD : txD t.toNat l = (0, l.take (t.toNat - 160), l.drop (t.toNat - 160)) := by unfold txD; rw [hS, if_neg (show ¬ (0 : Int) ≠ 0 by decide), if_neg hs]
      rw [hD]
      exact dv_text_yes r depth hd h16 h1 h2 (by omega)
  · refine dv_other r depth hd h16 (by omega) (by omega) _ (fun w2 r2 => ?_)
    rw [h]
    by_cases hs : (bs.drop (p + 1)).length < 1
    · have q := do_217_A r2 depth hs; rw [hp1] at q; exact q
    · by_cases hl : leNum ((bs.drop (p + 1)).take 1).reverse < 32
      · have q := do_217_B r2 depth hs _ rfl hl; rw [hp1] at q; exact q
      · by_cases hf : ((bs.drop (p + 1)).drop 1).length < leNum ((bs.drop (p + 1)).take 1).reverse
        · have q := do_217_C r2 depth hs _ rfl hl hf; rw [hp1] at q; exact q
        · have q := do_217_D r2 depth hs _ rfl hl hf; rw [hp1] at q; exact q
  · refine dv_other r depth hd h16 (by omega) (by omega) _ (fun w2 r2 => ?_)
    rw [h]
    by_cases hs : (bs.drop (p + 1)).length < 2
    · have q := do_218_A r2 depth hs; rw [hp1] at q; exact q
    · by_cases hl : leNum ((bs.drop (p + 1)).take 2).reverse < 256
      · have q := do_218_B r2 depth hs _ rfl hl; rw [hp1] at q; exact q
      · by_cases hf : ((bs.drop (p + 1)).drop 2).length < leNum ((bs.drop (p + 1)).take 2).reverse
        · have q := do_218_C r2 depth hs _ rfl hl hf; rw [hp1] at q; exact q
        · have q := do_218_D r2 depth hs _ rfl hl hf; rw [hp1] at q; exact q
/-- A key, where one may be. -/
theorem dv_key {w : World} {B g : Nat} {A : Option Addr} {N c : Nat} {bs : List UInt8} {p : Nat} (r : DRd w B g A N c bs p 0) (hb : badK (bs.drop p) = false) :
    Calls Tryd.prog 31 #[.pointer (some ⟨g, 0, none⟩), .int .i64 1] w (DVPost w B g A N c bs ((keD (bs.drop p)).1, .mk 5 0 [] ⟨(keD (bs.drop p)).2.1.toArray⟩ [] [], (keD (bs.drop p)).2.2)) := by
  rcases hd : bs.drop p with _ | ⟨t, l⟩
  · refine (dv_end r 1 hd).mono ?_
    rintro e w' ⟨⟨cs, h1, h2, h3, p', h4, h5⟩, h6⟩
    exact ⟨⟨cs, h1, h2, h3, p', h4, fun h => absurd (show (3 : Int) = 0 from h) (by decide)⟩, h6⟩
  · rw [hd] at hb
    unfold badK at hb
    have hb : kd t.toNat = 5 := by
      by_cases q : kd t.toNat = 5
      · exact q
      · simp [q] at hb
    have e : keD (t :: l) = txD t.toNat l := by
      show (if kd t.toNat = 5 then txD t.toNat l else (4, [], l)) = _
      rw [if_pos hb]
    rw [e]
    exact dv_text r 1 hd (by omega) hb
end Go.Proofs.YtmpnehhndhepgaaDoor

/- The document's own reader of values: keys and values, all of them. It proves no statement. -/


namespace Go.Proofs.YtmpnehhndhepgaaDoor
open Go.RowKit
set_option linter.unusedVariables false
set_option linter.unusedSimpArgs false

theorem hasP_text {w : World} {P : Nat → Prop} {t : ByteArray} {cs : List Value} (h : HasP w P (.mk 5 0 [] t [] []) cs.toArray) : cs.toArray[3]? = some (.string t) := by
  unfold HasP at h
  obtain ⟨A, n, c, Ak, ck, Al, cl, e, _⟩ := h
  rw [e]
  rfl
theorem keD_last (ak : List (List UInt8)) (k : List UInt8) : (ak ++ [k]).getLast? = some k := by simp
theorem drop_get {bs : List UInt8} {p : Nat} {t : UInt8} {l : List UInt8} (h : bs.drop p = t :: l) : bs.getD p 0 = t := by
  have h1 : (bs.drop p)[0]? = some t := by rw [h]; rfl
  rw [List.getElem?_drop, Nat.add_zero] at h1
  simp [List.getD, h1]
set_option maxRecDepth 100000 in
set_option maxHeartbeats 6400000 in
theorem ddict_any (f : Nat) (hf : f ≤ 16) (OK : DVOK f) {w : World} {B g : Nat} {A : Option Addr} {N c : Nat} {bs : List UInt8} {p : Nat} {er0 : Int} (r : DRd w B g A N c bs p er0) (n : Nat) (hn : n ≤ 65535) (D : Int × (List (List UInt8) × List Tr) × List UInt8) (h0 : er0 = 0 → D = decM (decV f) n none (bs.drop p)) (h1 : er0 ≠ 0 → D.1 = er0) :
    Calls Tryd.prog 58 #[.pointer (some ⟨g, 0, none⟩), .int .i64 (n : Int), .int .i64 (16 - (f : Int))] w (DVPost w B g A N c bs (D.1, .mk 7 0 [] ByteArray.empty (D.2.1.1.map mkS) D.2.1.2, D.2.2)) := by
  obtain ⟨gb, hgb⟩ : ∃ gb, gb = w.heap.size := ⟨_, rfl⟩
  obtain ⟨w1, hw1⟩ : ∃ w1, w1 = w.alloc (.cells cellsZ 26) := ⟨_, rfl⟩
  have s1 : Still w w1 := by rw [hw1]; exact (Still.refl w).alloc (Nat.le_refl _) _
  have b1 : Blk w1 gb 26 cellsZ := by rw [hw1, hgb]; exact Blk.new _ _ _
  have z1 : w1.heap.size = gb + 1 := by rw [hw1, hgb]; simp
  obtain ⟨w2, hw2⟩ : ∃ w2, w2 = (w1.alloc (.cells cellsZ 26)).setRow w1.heap.size #[.int .i64 7, .int .i64 0, .slice none 0 0, .string ⟨#[]⟩, .slice none 0 0, .slice none 0 0] := ⟨_, rfl⟩
  have s2 : Still w1 w2 := by rw [hw2]; exact below_setRow ((Still.refl w1).alloc (Nat.le_refl _) _) (Nat.le_refl _) _
  have bv : Blk w2 (gb + 1) 26 #[.int .i64 7, .int .i64 0, .slice none 0 0, .string ⟨#[]⟩, .slice none 0 0, .slice none 0 0] := by
    have h : Blk w2 w1.heap.size 26 #[.int .i64 7, .int .i64 0, .slice none 0 0, .string ⟨#[]⟩, .slice none 0 0, .slice none 0 0] := by rw [hw2]; exact setRow_heap _ _ _ _ _ _ (heap_alloc_new w1 _)
    rwa [z1] at h
  have z2 : w2.heap.size = gb + 2 := by rw [hw2]; simp [World.setRow, z1]
  have hglt : g < gb := by rw [hgb]; exact r.blk.lt
  obtain ⟨gv, hgv⟩ : ∃ gv, gv = gb + 1 := ⟨_, rfl⟩
  rw [← hgv] at bv
  have START := Lib.hid (show LsB w2 gb gv 7 (.slice none 0 0) (.slice none 0 0) ∧ AccV w2 (gv + 1) g gv (.slice none 0 0) 0 [] (.slice none 0 0) 0 [] [] ∧ DRd w2 B g A N c bs p er0 ∧ w.grownBy w2 (some g) from
    ⟨{ bb := b1.still s2, bv := bv, ne := by omega },
     { ownk := World.ownsRow_nil _ _ _ _, ownl := World.ownsRow_nil _ _ _ _, ne := (fun b e => by cases e), row := rfl, z := by omega, hg := by omega, hv := by omega },
     (r.still s1).still s2, grown_of_still (s1.trans s2)⟩)
  have HW1 := Lib.hid hw1
  have HW2 := Lib.hid (show w2 = (w1.alloc (.cells #[.int .i64 0, .int .i64 0, .slice none 0 0, .string ⟨#[]⟩, .slice none 0 0, .slice none 0 0] 26)).setRow w1.heap.size #[.int .i64 7, .int .i64 0, .slice none 0 0, .string ⟨#[]⟩, .slice none 0 0, .slice none 0 0] from hw2)
  have B1 := Lib.hid (show Blk (w1.alloc (.cells cellsZ 26)) w1.heap.size 26 cellsZ from Blk.new _ _ _)
  have ZG := Lib.hid (show g < gb ∧ gb = w.heap.size ∧ gv = gb + 1 ∧ w1.heap.size = gv from ⟨hglt, hgb, hgv, by omega⟩)
  obtain ⟨dp, hdp⟩ : ∃ dp : Int, dp = 16 - (f : Int) := ⟨_, rfl⟩
  obtain ⟨dq, hdq⟩ : ∃ dq : Int, dq = 17 - (f : Int) := ⟨_, rfl⟩
  have e1 : dp + 1 = dq := by omega
  have e2 : IntKind.i64.wrap (dp + 1) = dq := by rw [IntKind.wrap_i64]; omega
  have e3 : IntKind.i64.wrap dq = dq := by rw [IntKind.wrap_i64]; omega
  have OK' := Lib.hid OK
  unfold DVOK at OK'
  rw [← hdq] at OK'
  rw [← hdp]
  obtain ⟨dec, hdec⟩ : ∃ dec, dec = decV f := ⟨_, rfl⟩
  rw [← hdec] at OK' h0
  have HD := Lib.hid (And.intro h0 h1)
  have d3 : (n : Int) ≤ 65535 := by omega
  have HN := Lib.hid hn
  obtain ⟨fs, hu⟩ := underValue
  have HU := Lib.hid hu
  clear OK hdp hdq hdec h0 h1 hf r hw1 hw2 s1 s2 b1 bv z1 z2 hglt hgb hgv hn hu
  go_enter Tryd.func58, Tryd.ntmps58
  go_upto_region 1 with fail
  rw [show (w.alloc (.cells #[.int .i64 0, .int .i64 0, .slice none 0 0, .string ⟨#[]⟩, .slice none 0 0, .slice none 0 0] 26)) = w1 from HW1.out.symm, ← ZG.out.2.1]
  go_upto_region 2 with (guard_target =~ wpList _ _ _ (Oper.mk none (Op.store _ _ _) _ _ _ _ :: _) _ _; go_must (refine wpList_store_rowTo rfl 26 (.tmp 7) (.tmp 11) rfl rfl w1.heap.size #[.int .i64 7, .int .i64 0, .slice none 0 0, .string ⟨#[]⟩, .slice none 0 0, .slice none 0 0] rfl rfl 26 _ B1.out (by rw [sizeValue]; rfl) (by rfl) (by decide +kernel) ?_))
  rw [← HW2.out, ZG.out.2.2.2]
  go_wp2_with fail
  go_loopw [8] (fun iv wr => ∃ j : Nat, j ≤ n ∧ iv = .int .i64 j ∧ Hid (∃ (kv lv : Value) (p' : Nat) (er : Int) (xs : List Value) (ak : List (List UInt8)) (al : List Tr), LsB wr gb gv 7 kv lv ∧ kv.oneCell' = true ∧ lv.oneCell' = true ∧ DRd wr B g A N c bs p' er ∧ w.grownBy wr (some g) ∧
      (er = 0 → AccV wr (gv + 1) g gv kv j (ak.map fun k => .string (mkS k)) lv j xs al ∧ ak.length = j ∧ al.length = j ∧ (∀ k ∈ ak, k.length ≤ 65535) ∧ D = preM ak al (decM dec (n - j) ak.getLast? (bs.drop p'))) ∧ (er ≠ 0 → D.1 = er))) (fun iv _ => n - (intOf iv).toNat)
  case atStart => exact ⟨0, by omega, rfl, .slice none 0 0, .slice none 0 0, p, er0, [], [], [], START.out.1, rfl, rfl, START.out.2.2.1, START.out.2.2.2, fun e => ⟨START.out.2.1, rfl, rfl, (fun k h => by simp at h), by rw [HD.out.1 e, Nat.sub_zero]; exact (preM_nil _ _ _).symm⟩, HD.out.2⟩
  case round =>
    obtain ⟨j, hj, rfl, kv, lv, p', er, xs, ak, al, hL, hone, hone2, rj, grj, hok, hno⟩ := hrel
    clear B1 START
    have k2 : wr.cell? ⟨g, 2, none⟩ = some (.int .i64 er) := rj.blk.cell 2
    have LL := Lib.hid hL
    have ONE := Lib.hid (show kv.oneCell' = true ∧ lv.oneCell' = true from ⟨hone, hone2⟩)
    have RJ := Lib.hid rj
    have GRJ := Lib.hid grj
    have HOK := Lib.hid hok
    have HNO := Lib.hid hno
    clear hL hone hone2 rj grj hok hno
    by_cases hlt : j < n
    · have d1 : (j : Int) < (n : Int) := by omega
      have d2 : (0 : Int) ≤ (j : Int) := by omega
      by_cases her : er = 0
      · subst her
        have J := Lib.hid (HOK.out rfl).1
        have HAK := Lib.hid (HOK.out rfl).2.1
        have HAL := Lib.hid (HOK.out rfl).2.2.1
        have HKL := Lib.hid (HOK.out rfl).2.2.2.1
        have HDJ := Lib.hid (HOK.out rfl).2.2.2.2
        have HLT := Lib.hid hlt
        clear HOK HNO hlt hj
        have HSTEP := Lib.hid (show D = if (keD (bs.drop p')).1 ≠ 0 then ((keD (bs.drop p')).1, ([], []), []) else if ordB ak.getLast? (keD (bs.drop p')).2.1 = true then (4, ([], []), [])
            else if (dec (keD (bs.drop p')).2.2).1 ≠ 0 then ((dec (keD (bs.drop p')).2.2).1, ([], []), [])
            else preM (ak ++ [(keD (bs.drop p')).2.1]) (al ++ [(dec (keD (bs.drop p')).2.2).2.1]) (decM dec (n - (j + 1)) (some (keD (bs.drop p')).2.1) (dec (keD (bs.drop p')).2.2).2.2) by
          rw [HDJ.out, show n - j = (n - (j + 1)) + 1 by have := HLT.out; omega, preM_step])
        obtain ⟨E, hE⟩ : ∃ E, E = keD (bs.drop p') := ⟨_, rfl⟩
        rw [← hE] at HSTEP
        have HEE := Lib.hid hE
        clear hE HDJ
        have k1 : wr.cell? ⟨g, 1, none⟩ = some (.int .i64 p') := RJ.out.blk.cell 1
        have k0 : wr.cell? ⟨g, 0, none⟩ = some (.slice A N c) := RJ.out.blk.cell 0
        have HPN := Lib.hid RJ.out.at_
        have HSM := Lib.hid RJ.out.small
        have HBL := Lib.hid RJ.out.len
        go_upto_region 6 with fail
        go_cut [81] (fun c wx => c = .bool (badK (bs.drop p')) ∧ wx = wr)
        case first =>
          rcases hq : bs.drop p' with _ | ⟨t, l⟩
          · have hpn : ¬ (p' : Int) < (N : Int) := by
              have h1 := congrArg List.length hq
              have h2 := HBL.out
              simp at h1
              omega
            go_wp2_with fail
            go_meet
            exact ⟨by rw [hq]; rfl, rfl⟩
          · have hp : p' < N := by
              have h1 := congrArg List.length hq
              have h2 := HBL.out
              simp at h1
              omega
            have d4 : (p' : Int) < (N : Int) := by omega
            have d6 : (0 : Int) ≤ (p' : Int) := by omega
            have d7 : (N : Int) ≤ 65536 := by have := HSM.out; omega
            obtain ⟨b1, o1, hA, _, hc1⟩ := RJ.out.reads.at_ (by omega)
            obtain ⟨y, hy⟩ : ∃ y, y = t.toNat := ⟨_, rfl⟩
            have kt : wr.cell? ⟨b1, o1 + p', none⟩ = some (.int .u8 (y : Int)) := by
              have h := hc1 p' hp
              rwa [drop_get hq, ← hy] at h
            have hbk : badK (bs.drop p') = !decide ((160 ≤ y ∧ y < 192) ∨ y = 217 ∨ y = 218) := by
              rw [hq]
              show decide (kd t.toNat ≠ 5) = _
              rw [← hy]
              have h := kd5 y
              by_cases q : (160 ≤ y ∧ y < 192) ∨ y = 217 ∨ y = 218
              · have q2 : ¬ (kd y ≠ 5) := fun hn => hn (h.2 q)
                rw [decide_eq_true q]
                simpa using h.2 q
              · have q2 : kd y ≠ 5 := fun hn => q (h.1 hn)
                rw [decide_eq_false q]
                simpa using q2
            have y1 : (0 : Int) ≤ (y : Int) := by omega
            have y2 : (y : Int) < 256 := by have := t.toNat_lt; omega
            have HBK := Lib.hid hbk
            rw [hA] at k0
            clear hA hc1 hbk hy hp hq HEE HSTEP
            by_cases c1 : y < 160
            · have q1 : (y : Int) < 160 := by omega
              have q3 : (217 : Int) ≠ (y : Int) := by omega
              have q4 : (y : Int) ≠ 217 := by omega
              have q5 : (y : Int) ≠ 218 := by omega
              have q6 : ((y : Int) == 217) = false := by simpa using q4
              have q7 : ((y : Int) == 218) = false := by simpa using q5
              have q8 : ((y : Int) != 217) = true := by simpa using q4
              have q9 : ((y : Int) != 218) = true := by simpa using q5
              have HBV := Lib.hid (show badK (bs.drop p') = !false by rw [HBK.out, decide_eq_false (by omega)])
              go_wp2_with fail
              go_meet
              exact ⟨by rw [HBV.out]; rfl, rfl⟩
            · have q1 : ¬ (y : Int) < 160 := by omega
              by_cases c2 : y < 192
              · have q2 : ¬ (191 : Int) < (y : Int) := by omega
                have HBV := Lib.hid (show badK (bs.drop p') = !true by rw [HBK.out, decide_eq_true (by omega)])
                go_wp2_with fail
                go_meet
                exact ⟨by rw [HBV.out]; rfl, rfl⟩
              · have q2 : (191 : Int) < (y : Int) := by omega
                by_cases c3 : y = 217
                · subst c3
                  have HBV := Lib.hid (show badK (bs.drop p') = !true by rw [HBK.out, decide_eq_true (by omega)])
                  go_wp2_with fail
                  go_meet
                  exact ⟨by rw [HBV.out]; rfl, rfl⟩
                · have q4 : (y : Int) ≠ 217 := by omega
                  have q6 : ((y : Int) == 217) = false := by simpa using q4
                  have q8 : ((y : Int) != 217) = true := by simpa using q4
                  by_cases c4 : y = 218
                  · subst c4
                    have HBV := Lib.hid (show badK (bs.drop p') = !true by rw [HBK.out, decide_eq_true (by omega)])
                    go_wp2_with fail
                    go_meet
                    exact ⟨by rw [HBV.out]; rfl, rfl⟩
                  · have q5 : (y : Int) ≠ 218 := by omega
                    have q7 : ((y : Int) == 218) = false := by simpa using q5
                    have q9 : ((y : Int) != 218) = true := by simpa using q5
                    have HBV := Lib.hid (show badK (bs.drop p') = !false by rw [HBK.out, decide_eq_false (by omega)])
                    go_wp2_with fail
                    go_meet
                    exact ⟨by rw [HBV.out]; rfl, rfl⟩
        case rest =>
          obtain ⟨hcc, hww⟩ := hcut
          subst hcc
          rw [hww]
          clear hww k0 k1
          by_cases hb : badK (bs.drop p') = true
          · rw [hb]
            have hE4 := Lib.hid (show D.1 = 4 by
              have h := badK_err _ hb
              rw [← HEE.out] at h
              rw [HSTEP.out, h, if_pos (show (4 : Int) ≠ 0 by decide)])
            have f2 : wr.frozen? ⟨g, 2, none⟩ = false := RJ.out.blk.frozen 2
            have FIN := Lib.hid (show DRd (wr.setCell ⟨g, 2, none⟩ (.int .i64 4)) B g A N c bs p' 4 ∧ w.grownBy (wr.setCell ⟨g, 2, none⟩ (.int .i64 4)) (some g) ∧ LsB (wr.setCell ⟨g, 2, none⟩ (.int .i64 4)) gb gv 7 kv lv from
              ⟨RJ.out.set p' 4 RJ.out.at_ (by have h := RJ.out.blk.setc 2 (.int .i64 4); simpa using h) (grown_setc (World.grownBy.refl _ _)), grown_setc GRJ.out, LL.out.grown (grown_setc (World.grownBy.refl _ _)) ZG.out.1⟩)
            obtain ⟨wq, hwq⟩ : ∃ wq, wq = wr.setCell ⟨g, 2, none⟩ (.int .i64 4) := ⟨_, rfl⟩
            have HWQ := Lib.hid hwq
            rw [← hwq] at FIN
            have LQ := Lib.hid FIN.out.2.2
            clear hwq hb
            go_upto_region 8 with fail
            rw [← HWQ.out]
            refine wp_region_lit ?_
            refine wpList_load_row rfl 26 (.tmp 7) rfl gv rfl _ _ _ _ LQ.out.bv HU.out rfl (by rw [sizeValue]; rfl) ?_
            go_wp2_with (guard_target =~ wpList _ _ _ (Oper.mk none (Op.store _ _ _) _ _ _ _ :: _) _ _; go_must (refine wpList_store_rowTo rfl 26 (.tmp 6) (.tmp 85) rfl rfl gb #[.int .i64 7, .int .i64 0, .slice none 0 0, .string ⟨#[]⟩, kv, lv] rfl rfl 26 _ LQ.out.bb (by rw [sizeValue]; simp) (by simp [cellsZ]) (by simp [Value.oneCell']; exact ONE.out) ?_))
            (try simp only [Exit.inBlock, Exit.then])
            refine bodyPost_ret (results_cell_row rfl _ _ gb _ _ _ _ rfl (setRow_heap wq _ _ _ _ _ LQ.out.bb) HU.out rfl (by rw [sizeValue]; simp)) rfl ?_
            exact ls_bad ZG.out.2.1 ZG.out.1 FIN.out.2.1 FIN.out.1 hE4.out (by rw [hE4.out]; decide) (by simp [Value.oneCell']; exact ONE.out) rfl
          · have hb' : badK (bs.drop p') = false := by simpa using hb
            rw [hb']
            have KY := Lib.hid (dv_key RJ.out hb')
            rw [← HEE.out] at KY
            clear hb hb'
            go_upto_region 9 with fail
            go_wp2_with fail
            refine KY.out.mono ?_
            rintro e wb ⟨⟨cs, rfl, hc6, hall, p2, r2, h2⟩, gr2⟩
            have C6 := Lib.hid hc6
            have ALL := Lib.hid hall
            have R2 := Lib.hid r2
            have H2 := Lib.hid h2
            have GR2 := Lib.hid gr2
            clear hc6 hall r2 h2 gr2 KY k2
            obtain ⟨gk, hgk⟩ : ∃ gk, gk = wb.heap.size := ⟨_, rfl⟩
            obtain ⟨wk, hwk⟩ : ∃ wk, wk = (wb.alloc (.cells #[.int .i64 0, .int .i64 0, .slice none 0 0, .string ⟨#[]⟩, .slice none 0 0, .slice none 0 0] 26)).setRow wb.heap.size cs.toArray := ⟨_, rfl⟩
            have SK := Lib.hid (show Still wb wk by rw [hwk]; exact below_setRow ((Still.refl wb).alloc (Nat.le_refl _) _) (Nat.le_refl _) _)
            have BK := Lib.hid (show Blk wk gk 26 cs.toArray by rw [hwk, hgk]; exact setRow_heap _ _ _ _ _ _ (heap_alloc_new wb _))
            have HWK := Lib.hid hwk
            have HGK := Lib.hid hgk
            clear hwk hgk
            go_upto_region 10 with (guard_target =~ wpList _ _ _ (Oper.mk none (Op.store _ _ _) _ _ _ _ :: _) _ _; go_must (refine wpList_store_rowTo rfl 26 (.tmp 10) (.tmp 87) rfl rfl wb.heap.size cs.toArray rfl rfl 26 _ (heap_alloc_new wb _) (by rw [sizeValue]; simp; exact C6.out.symm) (by simp; exact C6.out.symm) ALL.out ?_))
            rw [← HWK.out, ← HGK.out]
            have GK := Lib.hid (grown_trans GRJ.out (grown_trans GR2.out (grown_of_still SK.out)))
            have LK := Lib.hid ((LL.out.grown GR2.out ZG.out.1).grown (grown_of_still SK.out) ZG.out.1)
            have RK := Lib.hid (R2.out.still SK.out)
            have JK := Lib.hid ((J.out.grown GR2.out).grown (grown_of_still SK.out))
            have ZK := Lib.hid (show gv < gk by rw [HGK.out]; have := (LL.out.grown GR2.out ZG.out.1).bv.lt; exact this)
            have k2 : wk.cell? ⟨g, 2, none⟩ = some (.int .i64 E.1) := RK.out.blk.cell 2
            clear HWK
            go_cut [107] (fun c wx => c = .bool (decide (E.1 = 0) && ordB ak.getLast? E.2.1) ∧ Hid (Still wk wx))
            case first =>
              by_cases h0 : E.1 = 0
              · have b0 : (E.1 == 0) = true := by simpa using h0
                have H0 := Lib.hid h0
                rw [h0] at k2
                have k3 : wk.cell? ⟨gk, 3, none⟩ = some (.string (mkS E.2.1)) := (BK.out.cell 3).trans (by
                  obtain ⟨_, q2⟩ := H2.out (by exact h0)
                  exact hasP_text q2)
                by_cases hj0 : j = 0
                · have hj1 : ¬ (0 : Int) < (j : Int) := by omega
                  have hj3 : ¬ 0 < j := by omega
                  have hj2 : decide (0 < j) = false := decide_eq_false hj3
                  have hz : ak = [] := List.eq_nil_of_length_eq_zero (HAK.out.trans hj0)
                  clear hj0
                  go_quiet (fail)
                  go_wp2_with fail
                  go_meet
                  exact ⟨by rw [hz, decide_eq_true H0.out]; rfl, Lib.hid (still_drewN (Still.refl _) _)⟩
                · have hj1 : (0 : Int) < (j : Int) := by omega
                  have hj3 : 0 < j := by omega
                  have hj2 : decide (0 < j) = true := decide_eq_true hj3
                  have k4 : wk.cell? ⟨gv, 4, none⟩ = some kv := LK.out.bv.cell 4
                  have own := JK.out.ownk
                  rcases own.2 with ⟨_, hn0⟩ | ⟨gx, cap, cur, hv, _, _, _⟩
                  · exact absurd hn0 hj0
                  · rw [hv] at own k4
                    obtain ⟨las, hlas⟩ : ∃ las, ak.getLast? = some las := by
                      rcases h : ak.getLast? with _ | q
                      · rw [List.getLast?_eq_none_iff] at h; have := HAK.out; rw [h] at this; exact absurd this.symm hj0
                      · exact ⟨q, rfl⟩
                    have hlj : ak[j - 1]? = some las := by rw [← hlas, List.getLast?_eq_getElem?, HAK.out]
                    have k5 : wk.cell? ⟨gx, j - 1, none⟩ = some (.string (mkS las)) := (own.cellAt (j - 1) (by omega)).trans (by simp [hlj])
                    have ho := ord_text las E.2.1
                    have HLAS := Lib.hid hlas
                    obtain ⟨sk, hsk⟩ : ∃ sk, sk = mkS E.2.1 := ⟨_, rfl⟩
                    obtain ⟨sl, hsl⟩ : ∃ sl, sl = mkS las := ⟨_, rfl⟩
                    rw [← hsk] at k3 ho
                    rw [← hsl] at k5 ho
                    obtain ⟨i1, hi1⟩ : ∃ i1 : Nat, i1 = j - 1 := ⟨_, rfl⟩
                    have hij : IntKind.i64.wrap ((j : Int) - 1) = (i1 : Int) := by rw [IntKind.wrap_i64]; omega
                    have hij2 : (j : Int) - 1 = (i1 : Int) := by omega
                    have hij3 : IntKind.i64.wrap (i1 : Int) = (i1 : Int) := by rw [IntKind.wrap_i64]; have := HN.out; omega
                    have hil : (i1 : Int) < (j : Int) := by omega
                    have hil0 : (0 : Int) ≤ (i1 : Int) := by omega
                    rw [← hi1] at k5
                    have k5' : wk.cell? ⟨gx, 0 + i1, none⟩ = some (.string sl) := by rw [Nat.zero_add]; exact k5
                    have hcap := own
                    clear own hv hlj hsk hsl hi1 hlas
                    obtain ⟨ob, hob⟩ : ∃ ob, ob = ordB (some las) E.2.1 := ⟨_, rfl⟩
                    rw [← hob] at ho
                    have HOB := Lib.hid hob
                    clear hob
                    go_quiet (fail)
                    go_wp2_with fail
                    go_meet
                    exact ⟨by rw [HLAS.out, decide_eq_true H0.out, ← HOB.out]; rfl, Lib.hid (still_drewN (Still.refl _) _)⟩
              · have b0 : (E.1 == 0) = false := by simpa using h0
                have H0 := Lib.hid h0
                go_quiet (fail)
                go_wp2_with fail
                go_meet
                exact ⟨by rw [decide_eq_false H0.out]; rfl, Lib.hid (still_drewN (Still.refl _) _)⟩
            case rest =>
              obtain ⟨hcc, sx⟩ := hcut
              subst hcc
              have GX := Lib.hid (grown_trans GK.out (grown_of_still sx.out))
              have LX := Lib.hid (LK.out.grown (grown_of_still sx.out) ZG.out.1)
              have RX := Lib.hid (RK.out.still sx.out)
              have JX := Lib.hid (JK.out.grown (grown_of_still sx.out))
              have BX := Lib.hid (BK.out.still sx.out)
              clear k2
              have k2 : wc.cell? ⟨g, 2, none⟩ = some (.int .i64 E.1) := RX.out.blk.cell 2
              by_cases h0 : E.1 = 0
              · rw [decide_eq_true h0, Bool.true_and]
                by_cases ho : ordB ak.getLast? E.2.1 = true
                · rw [ho]
                  have hE4 := Lib.hid (show D.1 = 4 by rw [HSTEP.out, if_neg (by rw [h0]; decide), if_pos ho])
                  have f2 : wc.frozen? ⟨g, 2, none⟩ = false := RX.out.blk.frozen 2
                  have FIN := Lib.hid (show DRd (wc.setCell ⟨g, 2, none⟩ (.int .i64 4)) B g A N c bs p2 4 ∧ w.grownBy (wc.setCell ⟨g, 2, none⟩ (.int .i64 4)) (some g) ∧ LsB (wc.setCell ⟨g, 2, none⟩ (.int .i64 4)) gb gv 7 kv lv from
                    ⟨RX.out.set p2 4 RX.out.at_ (by have h := RX.out.blk.setc 2 (.int .i64 4); simpa using h) (grown_setc (World.grownBy.refl _ _)), grown_setc GX.out, LX.out.grown (grown_setc (World.grownBy.refl _ _)) ZG.out.1⟩)
                  obtain ⟨wq, hwq⟩ : ∃ wq, wq = wc.setCell ⟨g, 2, none⟩ (.int .i64 4) := ⟨_, rfl⟩
                  have HWQ := Lib.hid hwq
                  rw [← hwq] at FIN
                  have LQ := Lib.hid FIN.out.2.2
                  clear hwq ho
                  go_upto_region 12 with fail
                  rw [← HWQ.out]
                  clear k2 f2 HWQ
                  have k2 : wq.cell? ⟨g, 2, none⟩ = some (.int .i64 4) := FIN.out.1.blk.cell 2
                  go_upto_region 13 with fail
                  refine wp_region_lit ?_
                  refine wpList_load_row rfl 26 (.tmp 7) rfl gv rfl _ _ _ _ LQ.out.bv HU.out rfl (by rw [sizeValue]; rfl) ?_
                  go_wp2_with (guard_target =~ wpList _ _ _ (Oper.mk none (Op.store _ _ _) _ _ _ _ :: _) _ _; go_must (refine wpList_store_rowTo rfl 26 (.tmp 6) (.tmp 116) rfl rfl gb #[.int .i64 7, .int .i64 0, .slice none 0 0, .string ⟨#[]⟩, kv, lv] rfl rfl 26 _ LQ.out.bb (by rw [sizeValue]; simp) (by simp [cellsZ]) (by simp [Value.oneCell']; exact ONE.out) ?_))
                  (try simp only [Exit.inBlock, Exit.then])
                  refine bodyPost_ret (results_cell_row rfl _ _ gb _ _ _ _ rfl (setRow_heap wq _ _ _ _ _ LQ.out.bb) HU.out rfl (by rw [sizeValue]; simp)) rfl ?_
                  exact ls_bad ZG.out.2.1 ZG.out.1 FIN.out.2.1 FIN.out.1 hE4.out (by rw [hE4.out]; decide) (by simp [Value.oneCell']; exact ONE.out) rfl
                · have ho' : ordB ak.getLast? E.2.1 = false := by simpa using ho
                  rw [ho']
                  rw [h0] at k2
                  have HO := Lib.hid ho'
                  have H0 := Lib.hid h0
                  clear ho ho'
                  have q4 : wc.cell? ⟨gv, 4, none⟩ = some kv := LX.out.bv.cell 4
                  have f4 : wc.frozen? ⟨gv, 4, none⟩ = false := LX.out.bv.frozen 4
                  have k3 : wc.cell? ⟨gk, 3, none⟩ = some (.string (mkS E.2.1)) := (BX.out.cell 3).trans (by
                    obtain ⟨_, q2⟩ := H2.out (by exact h0)
                    exact hasP_text q2)
                  obtain ⟨sk, hsk⟩ : ∃ sk, sk = mkS E.2.1 := ⟨_, rfl⟩
                  rw [← hsk] at k3
                  have HSK := Lib.hid hsk
                  clear hsk h0
                  go_upto_region 14 with fail
                  have HJ : Hid (j ≤ 1048576) := Lib.hid (by have := HLT.out; have := HN.out; omega)
                  obtain ⟨w4, hw4⟩ : ∃ w4, w4 = wc.alloc (.cells #[.string sk] 9) := ⟨_, rfl⟩
                  have S4 := Lib.hid (show Still wc w4 by rw [hw4]; exact (Still.refl _).alloc (Nat.le_refl _) _)
                  have C4 := Lib.hid (show w4.cell? ⟨wc.heap.size, 0, none⟩ = some (.string sk) by rw [hw4]; exact (Blk.new _ _ _).cell 0)
                  have J4 := Lib.hid (JX.out.grown (grown_of_still S4.out))
                  have L4 := Lib.hid (LX.out.grown (grown_of_still S4.out) ZG.out.1)
                  have HW4 := Lib.hid hw4
                  clear hw4 k2
                  go_upto_region 15 with (at_builtin; go_must (rw [← HW4.out]; refine wpList_pushS w4 rfl (.tmp 118) (.tmp 121) rfl (gv + 1) kv j (ak.map fun k => .string (mkS k)) rfl J4.out.ownk wc.heap.size sk rfl C4.out HJ.out J4.out.z ?_))
                  intro v5 w5 own5 gr5 loc5
                  have O5 := Lib.hid (show v5.oneCell' = true by
                    rcases own5.2 with ⟨h, _⟩ | ⟨_, _, _, h, _⟩ <;> (rw [h]; rfl))
                  have o5 := O5.out
                  have B5 := Lib.hid (show Blk w5 gv 26 #[.int .i64 7, .int .i64 0, .slice none 0 0, .string ⟨#[]⟩, kv, lv] from (gr5.block gv L4.out.bv.lt (fun e => by have := (J4.out.ownk.lt gv e.symm).1; omega)).trans L4.out.bv)
                  have q5 : w5.cell? ⟨gv, 4, none⟩ = some kv := B5.out.cell 4
                  have f5 : w5.frozen? ⟨gv, 4, none⟩ = false := B5.out.frozen 4
                  have ST5 := Lib.hid (lk_step GX.out (by rw [ZG.out.2.1]; exact Nat.le_refl _) JX.out LX.out ZG.out.1 S4.out own5 gr5 loc5 RX.out)
                  clear own5 gr5 loc5 HW4 q4 f4 k3
                  go_upto_region 15 with (guard_target =~ wpList _ _ _ (Oper.mk none (Op.store _ _ _) _ _ _ _ :: _) _ _; go_must (refine wpList_store_cell rfl 23 (.tmp 123) (.tmp 122) rfl rfl gv 4 v5 kv rfl rfl O5.out (by kernel_rfl) q5 f5 ?_))
                  obtain ⟨w6, hw6⟩ : ∃ w6, w6 = w5.setCell ⟨gv, 4, none⟩ v5 := ⟨_, rfl⟩
                  rw [← hw6] at ST5 ⊢
                  clear hw6
                  have LL6 := Lib.hid ST5.out.2.1
                  have RJ6 : Hid (DRd w6 B g A N c bs p2 0) := Lib.hid (by have h := ST5.out.1; rw [H0.out] at h; exact h)
                  have J6 := Lib.hid ST5.out.2.2.2
                  have GRJ6 := Lib.hid ST5.out.2.2.1
                  have HP2 := Lib.hid (show bs.drop p2 = E.2.2 from (H2.out H0.out).1)
                  obtain ⟨F, hF⟩ : ∃ F, F = dec E.2.2 := ⟨_, rfl⟩
                  have HS3 := Lib.hid (show D = if F.1 ≠ 0 then (F.1, ([], []), []) else preM (ak ++ [E.2.1]) (al ++ [F.2.1]) (decM dec (n - (j + 1)) (some E.2.1) F.2.2) by
                    rw [HSTEP.out, if_neg (by rw [H0.out]; decide), if_neg (by rw [HO.out]; decide), hF])
                  have HFF := Lib.hid hF
                  clear hF ST5 LL RJ J GRJ HSTEP GK LK RK JK BX JX LX GX RX BK S4 C4 J4 L4 B5 q5 f5 sx
                  refine wp_region_held_drew (S := fun _ => True) (by kernel_rfl) trivial (fun hHeld => ?_)
                  have K0 := Lib.hid (show Still w6 w6.drew from (Still.refl w6).drew)
                  obtain ⟨wa, hwa⟩ : ∃ wa, wa = w6.drew := ⟨_, rfl⟩
                  rw [← hwa] at K0 ⊢
                  clear hwa
                  have LA := Lib.hid (LL6.out.grown (grown_of_still K0.out) ZG.out.1)
                  have RA := Lib.hid (RJ6.out.still K0.out)
                  have JA := Lib.hid (J6.out.grown (grown_of_still K0.out))
                  have GA := Lib.hid (grown_trans GRJ6.out (grown_of_still K0.out))
                  have VL := Lib.hid (OK'.out wa B g A N c bs p2 RA.out)
                  rw [HP2.out, ← HFF.out] at VL
                  clear RJ6 LL6 J6 GRJ6 K0
                  try simp only [Act.put, List.setIfInBounds_toArray, List.set_cons_zero, List.set_cons_succ]
                  refine wpAnyH_take (i := 0) (v := .pointer (some ⟨gv, 5, none⟩)) rfl (by kernel_rfl) (by kernel_rfl) (by kernel_rfl) (fun _ _ _ h => h) (Or.inl ⟨by kernel_rfl, fun w _ => by go_simp⟩) (by assumption) ?_
                  try simp only [Act.put, List.setIfInBounds_toArray, List.set_cons_zero, List.set_cons_succ]
                  refine wpAnyH_take (i := 2) (v := .pointer (some ⟨g, 0, none⟩)) rfl (by kernel_rfl) (by kernel_rfl) (by kernel_rfl) (fun _ _ _ h => h) (Or.inl ⟨by kernel_rfl, fun w _ => by go_simp⟩) (by assumption) ?_
                  try simp only [Act.put, List.setIfInBounds_toArray, List.set_cons_zero, List.set_cons_succ]
                  refine wpAnyH_take (i := 3) (v := .int .i64 dp) rfl (by kernel_rfl) (by kernel_rfl) (by kernel_rfl) (fun _ _ _ h => h) (Or.inl ⟨by kernel_rfl, fun w _ => by go_simp⟩) (by assumption) ?_
                  try simp only [Act.put, List.setIfInBounds_toArray, List.set_cons_zero, List.set_cons_succ]
                  refine wpAnyH_take (i := 4) (v := .int .i64 dq) rfl (by kernel_rfl) (by kernel_rfl) (by kernel_rfl) (fun _ _ _ h => h) (Or.inl ⟨by kernel_rfl, fun w _ => by go_simp⟩) (by assumption) ?_
                  try simp only [Act.put, List.setIfInBounds_toArray, List.set_cons_zero, List.set_cons_succ]
                  refine wpAnyH_ready (rs := [1, 5]) (by kernel_rfl) (by simp) ?_
                  refine AllReadyH.cons rfl (fun K hK => ?_) (AllReadyH.cons rfl (fun K hK => ?_) AllReadyH.nil)
                  · skip
                    rw [if_pos (by kernel_rfl)]
                    have kq0 : wa.cell? ⟨gv, 5, none⟩ = some lv := LA.out.bv.cell 5
                    with_reducible refine step_loadS wa (.tmp 124) (by kernel_rfl) ⟨gv, 5, none⟩ lv (by kernel_rfl) kq0 ?_
                    refine hK.out _ _ trivial (fun hHeld => ?_)
                    clear hK K
                    try simp only [Act.put, List.setIfInBounds_toArray, List.set_cons_zero, List.set_cons_succ]
                    refine wpAnyH_ready (rs := [5]) (by kernel_rfl) (by simp) ?_
                    refine AllReadyH.cons rfl (fun K hK => ?_) AllReadyH.nil
                    go_simp
                    go_wp2_with (go_at_call 31; refine VL.out.mono ?_; rintro e wb2 ⟨⟨ds, rfl, hd6, hdall, p3, r3, h3⟩, gr3⟩)
                    have D6 := Lib.hid hd6
                    have DALL := Lib.hid hdall
                    have R3 := Lib.hid r3
                    have H3 := Lib.hid h3
                    have GR3 := Lib.hid gr3
                    have LB := Lib.hid (LA.out.grown gr3 ZG.out.1)
                    clear hd6 hdall r3 h3 gr3
                    refine hK.out _ _ trivial (fun hHeld => ?_)
                    clear hK K
                    try simp only [Act.put, List.setIfInBounds_toArray, List.set_cons_zero, List.set_cons_succ]
                    refine wpAnyH_ready (rs := [6]) (by kernel_rfl) (by simp) ?_
                    refine AllReadyH.cons rfl (fun K hK => ?_) AllReadyH.nil
                    rw [if_pos (by kernel_rfl)]
                    refine step_boxV wb2 (.tmp 129) (by kernel_rfl) ds D6.out (by kernel_rfl) ?_
                    obtain ⟨wc2, hwc⟩ : ∃ wc2, wc2 = wb2.alloc (.cells ds.toArray 26) := ⟨_, rfl⟩
                    obtain ⟨gx, hgx⟩ : ∃ gx, gx = wb2.heap.size := ⟨_, rfl⟩
                    have SC := Lib.hid (show Still wb2 wc2 by rw [hwc]; exact (Still.refl wb2).alloc (Nat.le_refl _) _)
                    have BC := Lib.hid (show Blk wc2 gx 26 ds.toArray by rw [hwc, hgx]; exact Blk.new _ _ _)
                    have LC := Lib.hid (LB.out.grown (grown_of_still SC.out) ZG.out.1)
                    have HWC := Lib.hid hwc
                    rw [← hwc, ← hgx]
                    clear hwc hgx
                    refine hK.out _ _ trivial (fun hHeld => ?_)
                    clear hK K
                    try simp only [Act.put, List.setIfInBounds_toArray, List.set_cons_zero, List.set_cons_succ]
                    refine wpAnyH_ready (rs := [7]) (by kernel_rfl) (by simp) ?_
                    refine AllReadyH.cons rfl (fun K hK => ?_) AllReadyH.nil
                    rw [if_pos (by kernel_rfl)]
                    refine step_pushV wc2 (.tmp 125) (.tmp 130) (by kernel_rfl) (gv + 1) lv j xs (by kernel_rfl) ((JA.out.grown GR3.out).grown (grown_of_still SC.out)).ownl gx ds (by kernel_rfl) (fun q u hq => (BC.out.cell q).trans (by simpa using hq)) D6.out (fun u hu => (Array.all_eq_true_iff_forall_mem.1 DALL.out) u (by simpa using hu)) HJ.out ((JA.out.grown GR3.out).grown (grown_of_still SC.out)).z ?_
                    intro v6 wd own6 gr6 loc6
                    have ST := Lib.hid (ls_step GA.out (by rw [ZG.out.2.1]; exact Nat.le_refl _) JA.out LA.out ZG.out.1 GR3.out own6 (by rw [← HWC.out]; exact gr6) (by rw [← HWC.out]; exact loc6) D6.out R3.out)
                    have BD := Lib.hid (show Blk wd gv 26 #[.int .i64 7, .int .i64 0, .slice none 0 0, .string ⟨#[]⟩, v5, lv] from (gr6.block gv LC.out.bv.lt (fun e => by have := (JA.out.ownl.lt gv e.symm).1; omega)).trans LC.out.bv)
                    have O6 := Lib.hid (show v6.oneCell' = true by
                      rcases own6.2 with ⟨h, _⟩ | ⟨_, _, _, h, _⟩ <;> (rw [h]; rfl))
                    have FIN := Lib.hid (show ∃ (kv lv : Value) (p' : Nat) (er : Int) (xs : List Value) (ak : List (List UInt8)) (al : List Tr), LsB (wd.setCell ⟨gv, 5, none⟩ v6) gb gv 7 kv lv ∧ kv.oneCell' = true ∧ lv.oneCell' = true ∧ DRd (wd.setCell ⟨gv, 5, none⟩ v6) B g A N c bs p' er ∧ w.grownBy (wd.setCell ⟨gv, 5, none⟩ v6) (some g) ∧
                            (er = 0 → AccV (wd.setCell ⟨gv, 5, none⟩ v6) (gv + 1) g gv kv (j + 1) (ak.map fun k => .string (mkS k)) lv (j + 1) xs al ∧ ak.length = (j + 1) ∧ al.length = (j + 1) ∧ (∀ k ∈ ak, k.length ≤ 65535) ∧ D = preM ak al (decM dec (n - (j + 1)) ak.getLast? (bs.drop p'))) ∧ (er ≠ 0 → D.1 = er) from by
                      obtain ⟨h1, h2, h5, h4⟩ := ST.out
                      refine ⟨v5, v6, p3, F.1, xs ++ ds, ak ++ [E.2.1], al ++ [F.2.1], h2, O5.out, O6.out, h1, h5, fun h0 => ?_, fun h0 => ?_⟩
                      · obtain ⟨q1, q2⟩ := H3.out h0
                        have h4' := h4 _ q2
                        have hk : (ak ++ [E.2.1]).map (fun k => Value.string (mkS k)) = ak.map (fun k => Value.string (mkS k)) ++ [.string sk] := by rw [List.map_append, HSK.out]; rfl
                        refine ⟨by rw [hk]; exact h4', by rw [List.length_append, HAK.out]; rfl, by rw [List.length_append, HAL.out]; rfl, fun k hk2 => ?_, ?_⟩
                        · rcases List.mem_append.1 hk2 with hk3 | hk3
                          · exact HKL.out k hk3
                          · rw [List.mem_singleton.1 hk3]
                            exact keD_len (bs.drop p') E.2.1 E.2.2 (by rw [← HEE.out, ← H0.out])
                        · rw [HS3.out, if_neg (by rw [h0]; decide), keD_last, q1]
                      · rw [HS3.out, if_pos h0])
                    clear own6 gr6 loc6 ST
                    refine hK.out _ _ trivial (fun hHeld => ?_)
                    clear hK K
                    try simp only [Act.put, List.setIfInBounds_toArray, List.set_cons_zero, List.set_cons_succ]
                    refine wpAnyH_take (i := 8) (v := .pointer (some ⟨gv, 5, none⟩)) rfl (by kernel_rfl) (by kernel_rfl) (by kernel_rfl) (fun _ _ _ h => h) (Or.inl ⟨by kernel_rfl, fun w _ => by go_simp⟩) (by assumption) ?_
                    try simp only [Act.put, List.setIfInBounds_toArray, List.set_cons_zero, List.set_cons_succ]
                    refine wpAnyH_ready (rs := [9]) (by kernel_rfl) (by simp) ?_
                    refine AllReadyH.cons rfl (fun K hK => ?_) AllReadyH.nil
                    rw [if_pos (by kernel_rfl)]
                    have kq1 : wd.cell? ⟨gv, 5, none⟩ = some lv := BD.out.cell 5
                    have kq2 : wd.frozen? ⟨gv, 5, none⟩ = false := BD.out.frozen 5
                    have kq3 := O6.out
                    with_reducible refine step_storeC wd 24 (.tmp 132) (.tmp 131) (by kernel_rfl) gv 5 v6 lv (by kernel_rfl) (by kernel_rfl) kq3 infoRowV kq1 kq2 ?_
                    refine hK.out _ _ trivial (fun hHeld => ?_)
                    clear hK K
                    try simp only [Act.put, List.setIfInBounds_toArray, List.set_cons_zero, List.set_cons_succ]
                    refine wpAnyH_done (by kernel_rfl) ?_ _
                    go_wp2_with fail
                    go_roundw
                    case rel => exact ⟨j + 1, by have := HLT.out; omega, by go_num, FIN.out⟩
                    case measure => simp [intOf]; have := HLT.out; omega
                  · skip
                    go_simp
                    go_wp2_with (go_at_call 31; refine VL.out.mono ?_; rintro e wb2 ⟨⟨ds, rfl, hd6, hdall, p3, r3, h3⟩, gr3⟩)
                    have D6 := Lib.hid hd6
                    have DALL := Lib.hid hdall
                    have R3 := Lib.hid r3
                    have H3 := Lib.hid h3
                    have GR3 := Lib.hid gr3
                    have LB := Lib.hid (LA.out.grown gr3 ZG.out.1)
                    clear hd6 hdall r3 h3 gr3
                    refine hK.out _ _ trivial (fun hHeld => ?_)
                    clear hK K
                    try simp only [Act.put, List.setIfInBounds_toArray, List.set_cons_zero, List.set_cons_succ]
                    refine wpAnyH_ready (rs := [1, 6]) (by kernel_rfl) (by simp) ?_
                    refine AllReadyH.cons rfl (fun K hK => ?_) (AllReadyH.cons rfl (fun K hK => ?_) AllReadyH.nil)
                    · skip
                      rw [if_pos (by kernel_rfl)]
                      have kq0 : wb2.cell? ⟨gv, 5, none⟩ = some lv := LB.out.bv.cell 5
                      with_reducible refine step_loadS wb2 (.tmp 124) (by kernel_rfl) ⟨gv, 5, none⟩ lv (by kernel_rfl) kq0 ?_
                      refine hK.out _ _ trivial (fun hHeld => ?_)
                      clear hK K
                      try simp only [Act.put, List.setIfInBounds_toArray, List.set_cons_zero, List.set_cons_succ]
                      refine wpAnyH_ready (rs := [6]) (by kernel_rfl) (by simp) ?_
                      refine AllReadyH.cons rfl (fun K hK => ?_) AllReadyH.nil
                      rw [if_pos (by kernel_rfl)]
                      refine step_boxV wb2 (.tmp 129) (by kernel_rfl) ds D6.out (by kernel_rfl) ?_
                      obtain ⟨wc2, hwc⟩ : ∃ wc2, wc2 = wb2.alloc (.cells ds.toArray 26) := ⟨_, rfl⟩
                      obtain ⟨gx, hgx⟩ : ∃ gx, gx = wb2.heap.size := ⟨_, rfl⟩
                      have SC := Lib.hid (show Still wb2 wc2 by rw [hwc]; exact (Still.refl wb2).alloc (Nat.le_refl _) _)
                      have BC := Lib.hid (show Blk wc2 gx 26 ds.toArray by rw [hwc, hgx]; exact Blk.new _ _ _)
                      have LC := Lib.hid (LB.out.grown (grown_of_still SC.out) ZG.out.1)
                      have HWC := Lib.hid hwc
                      rw [← hwc, ← hgx]
                      clear hwc hgx
                      refine hK.out _ _ trivial (fun hHeld => ?_)
                      clear hK K
                      try simp only [Act.put, List.setIfInBounds_toArray, List.set_cons_zero, List.set_cons_succ]
                      refine wpAnyH_ready (rs := [7]) (by kernel_rfl) (by simp) ?_
                      refine AllReadyH.cons rfl (fun K hK => ?_) AllReadyH.nil
                      rw [if_pos (by kernel_rfl)]
                      refine step_pushV wc2 (.tmp 125) (.tmp 130) (by kernel_rfl) (gv + 1) lv j xs (by kernel_rfl) ((JA.out.grown GR3.out).grown (grown_of_still SC.out)).ownl gx ds (by kernel_rfl) (fun q u hq => (BC.out.cell q).trans (by simpa using hq)) D6.out (fun u hu => (Array.all_eq_true_iff_forall_mem.1 DALL.out) u (by simpa using hu)) HJ.out ((JA.out.grown GR3.out).grown (grown_of_still SC.out)).z ?_
                      intro v6 wd own6 gr6 loc6
                      have ST := Lib.hid (ls_step GA.out (by rw [ZG.out.2.1]; exact Nat.le_refl _) JA.out LA.out ZG.out.1 GR3.out own6 (by rw [← HWC.out]; exact gr6) (by rw [← HWC.out]; exact loc6) D6.out R3.out)
                      have BD := Lib.hid (show Blk wd gv 26 #[.int .i64 7, .int .i64 0, .slice none 0 0, .string ⟨#[]⟩, v5, lv] from (gr6.block gv LC.out.bv.lt (fun e => by have := (JA.out.ownl.lt gv e.symm).1; omega)).trans LC.out.bv)
                      have O6 := Lib.hid (show v6.oneCell' = true by
                        rcases own6.2 with ⟨h, _⟩ | ⟨_, _, _, h, _⟩ <;> (rw [h]; rfl))
                      have FIN := Lib.hid (show ∃ (kv lv : Value) (p' : Nat) (er : Int) (xs : List Value) (ak : List (List UInt8)) (al : List Tr), LsB (wd.setCell ⟨gv, 5, none⟩ v6) gb gv 7 kv lv ∧ kv.oneCell' = true ∧ lv.oneCell' = true ∧ DRd (wd.setCell ⟨gv, 5, none⟩ v6) B g A N c bs p' er ∧ w.grownBy (wd.setCell ⟨gv, 5, none⟩ v6) (some g) ∧
                              (er = 0 → AccV (wd.setCell ⟨gv, 5, none⟩ v6) (gv + 1) g gv kv (j + 1) (ak.map fun k => .string (mkS k)) lv (j + 1) xs al ∧ ak.length = (j + 1) ∧ al.length = (j + 1) ∧ (∀ k ∈ ak, k.length ≤ 65535) ∧ D = preM ak al (decM dec (n - (j + 1)) ak.getLast? (bs.drop p'))) ∧ (er ≠ 0 → D.1 = er) from by
                        obtain ⟨h1, h2, h5, h4⟩ := ST.out
                        refine ⟨v5, v6, p3, F.1, xs ++ ds, ak ++ [E.2.1], al ++ [F.2.1], h2, O5.out, O6.out, h1, h5, fun h0 => ?_, fun h0 => ?_⟩
                        · obtain ⟨q1, q2⟩ := H3.out h0
                          have h4' := h4 _ q2
                          have hk : (ak ++ [E.2.1]).map (fun k => Value.string (mkS k)) = ak.map (fun k => Value.string (mkS k)) ++ [.string sk] := by rw [List.map_append, HSK.out]; rfl
                          refine ⟨by rw [hk]; exact h4', by rw [List.length_append, HAK.out]; rfl, by rw [List.length_append, HAL.out]; rfl, fun k hk2 => ?_, ?_⟩
                          · rcases List.mem_append.1 hk2 with hk3 | hk3
                            · exact HKL.out k hk3
                            · rw [List.mem_singleton.1 hk3]
                              exact keD_len (bs.drop p') E.2.1 E.2.2 (by rw [← HEE.out, ← H0.out])
                          · rw [HS3.out, if_neg (by rw [h0]; decide), keD_last, q1]
                        · rw [HS3.out, if_pos h0])
                      clear own6 gr6 loc6 ST
                      refine hK.out _ _ trivial (fun hHeld => ?_)
                      clear hK K
                      try simp only [Act.put, List.setIfInBounds_toArray, List.set_cons_zero, List.set_cons_succ]
                      refine wpAnyH_take (i := 8) (v := .pointer (some ⟨gv, 5, none⟩)) rfl (by kernel_rfl) (by kernel_rfl) (by kernel_rfl) (fun _ _ _ h => h) (Or.inl ⟨by kernel_rfl, fun w _ => by go_simp⟩) (by assumption) ?_
                      try simp only [Act.put, List.setIfInBounds_toArray, List.set_cons_zero, List.set_cons_succ]
                      refine wpAnyH_ready (rs := [9]) (by kernel_rfl) (by simp) ?_
                      refine AllReadyH.cons rfl (fun K hK => ?_) AllReadyH.nil
                      rw [if_pos (by kernel_rfl)]
                      have kq1 : wd.cell? ⟨gv, 5, none⟩ = some lv := BD.out.cell 5
                      have kq2 : wd.frozen? ⟨gv, 5, none⟩ = false := BD.out.frozen 5
                      have kq3 := O6.out
                      with_reducible refine step_storeC wd 24 (.tmp 132) (.tmp 131) (by kernel_rfl) gv 5 v6 lv (by kernel_rfl) (by kernel_rfl) kq3 infoRowV kq1 kq2 ?_
                      refine hK.out _ _ trivial (fun hHeld => ?_)
                      clear hK K
                      try simp only [Act.put, List.setIfInBounds_toArray, List.set_cons_zero, List.set_cons_succ]
                      refine wpAnyH_done (by kernel_rfl) ?_ _
                      go_wp2_with fail
                      go_roundw
                      case rel => exact ⟨j + 1, by have := HLT.out; omega, by go_num, FIN.out⟩
                      case measure => simp [intOf]; have := HLT.out; omega
                    · skip
                      rw [if_pos (by kernel_rfl)]
                      refine step_boxV wb2 (.tmp 129) (by kernel_rfl) ds D6.out (by kernel_rfl) ?_
                      obtain ⟨wc2, hwc⟩ : ∃ wc2, wc2 = wb2.alloc (.cells ds.toArray 26) := ⟨_, rfl⟩
                      obtain ⟨gx, hgx⟩ : ∃ gx, gx = wb2.heap.size := ⟨_, rfl⟩
                      have SC := Lib.hid (show Still wb2 wc2 by rw [hwc]; exact (Still.refl wb2).alloc (Nat.le_refl _) _)
                      have BC := Lib.hid (show Blk wc2 gx 26 ds.toArray by rw [hwc, hgx]; exact Blk.new _ _ _)
                      have LC := Lib.hid (LB.out.grown (grown_of_still SC.out) ZG.out.1)
                      have HWC := Lib.hid hwc
                      rw [← hwc, ← hgx]
                      clear hwc hgx
                      refine hK.out _ _ trivial (fun hHeld => ?_)
                      clear hK K
                      try simp only [Act.put, List.setIfInBounds_toArray, List.set_cons_zero, List.set_cons_succ]
                      refine wpAnyH_ready (rs := [1]) (by kernel_rfl) (by simp) ?_
                      refine AllReadyH.cons rfl (fun K hK => ?_) AllReadyH.nil
                      rw [if_pos (by kernel_rfl)]
                      have kq0 : wc2.cell? ⟨gv, 5, none⟩ = some lv := LC.out.bv.cell 5
                      with_reducible refine step_loadS wc2 (.tmp 124) (by kernel_rfl) ⟨gv, 5, none⟩ lv (by kernel_rfl) kq0 ?_
                      refine hK.out _ _ trivial (fun hHeld => ?_)
                      clear hK K
                      try simp only [Act.put, List.setIfInBounds_toArray, List.set_cons_zero, List.set_cons_succ]
                      refine wpAnyH_ready (rs := [7]) (by kernel_rfl) (by simp) ?_
                      refine AllReadyH.cons rfl (fun K hK => ?_) AllReadyH.nil
                      rw [if_pos (by kernel_rfl)]
                      refine step_pushV wc2 (.tmp 125) (.tmp 130) (by kernel_rfl) (gv + 1) lv j xs (by kernel_rfl) ((JA.out.grown GR3.out).grown (grown_of_still SC.out)).ownl gx ds (by kernel_rfl) (fun q u hq => (BC.out.cell q).trans (by simpa using hq)) D6.out (fun u hu => (Array.all_eq_true_iff_forall_mem.1 DALL.out) u (by simpa using hu)) HJ.out ((JA.out.grown GR3.out).grown (grown_of_still SC.out)).z ?_
                      intro v6 wd own6 gr6 loc6
                      have ST := Lib.hid (ls_step GA.out (by rw [ZG.out.2.1]; exact Nat.le_refl _) JA.out LA.out ZG.out.1 GR3.out own6 (by rw [← HWC.out]; exact gr6) (by rw [← HWC.out]; exact loc6) D6.out R3.out)
                      have BD := Lib.hid (show Blk wd gv 26 #[.int .i64 7, .int .i64 0, .slice none 0 0, .string ⟨#[]⟩, v5, lv] from (gr6.block gv LC.out.bv.lt (fun e => by have := (JA.out.ownl.lt gv e.symm).1; omega)).trans LC.out.bv)
                      have O6 := Lib.hid (show v6.oneCell' = true by
                        rcases own6.2 with ⟨h, _⟩ | ⟨_, _, _, h, _⟩ <;> (rw [h]; rfl))
                      have FIN := Lib.hid (show ∃ (kv lv : Value) (p' : Nat) (er : Int) (xs : List Value) (ak : List (List UInt8)) (al : List Tr), LsB (wd.setCell ⟨gv, 5, none⟩ v6) gb gv 7 kv lv ∧ kv.oneCell' = true ∧ lv.oneCell' = true ∧ DRd (wd.setCell ⟨gv, 5, none⟩ v6) B g A N c bs p' er ∧ w.grownBy (wd.setCell ⟨gv, 5, none⟩ v6) (some g) ∧
                              (er = 0 → AccV (wd.setCell ⟨gv, 5, none⟩ v6) (gv + 1) g gv kv (j + 1) (ak.map fun k => .string (mkS k)) lv (j + 1) xs al ∧ ak.length = (j + 1) ∧ al.length = (j + 1) ∧ (∀ k ∈ ak, k.length ≤ 65535) ∧ D = preM ak al (decM dec (n - (j + 1)) ak.getLast? (bs.drop p'))) ∧ (er ≠ 0 → D.1 = er) from by
                        obtain ⟨h1, h2, h5, h4⟩ := ST.out
                        refine ⟨v5, v6, p3, F.1, xs ++ ds, ak ++ [E.2.1], al ++ [F.2.1], h2, O5.out, O6.out, h1, h5, fun h0 => ?_, fun h0 => ?_⟩
                        · obtain ⟨q1, q2⟩ := H3.out h0
                          have h4' := h4 _ q2
                          have hk : (ak ++ [E.2.1]).map (fun k => Value.string (mkS k)) = ak.map (fun k => Value.string (mkS k)) ++ [.string sk] := by rw [List.map_append, HSK.out]; rfl
                          refine ⟨by rw [hk]; exact h4', by rw [List.length_append, HAK.out]; rfl, by rw [List.length_append, HAL.out]; rfl, fun k hk2 => ?_, ?_⟩
                          · rcases List.mem_append.1 hk2 with hk3 | hk3
                            · exact HKL.out k hk3
                            · rw [List.mem_singleton.1 hk3]
                              exact keD_len (bs.drop p') E.2.1 E.2.2 (by rw [← HEE.out, ← H0.out])
                          · rw [HS3.out, if_neg (by rw [h0]; decide), keD_last, q1]
                        · rw [HS3.out, if_pos h0])
                      clear own6 gr6 loc6 ST
                      refine hK.out _ _ trivial (fun hHeld => ?_)
                      clear hK K
                      try simp only [Act.put, List.setIfInBounds_toArray, List.set_cons_zero, List.set_cons_succ]
                      refine wpAnyH_take (i := 8) (v := .pointer (some ⟨gv, 5, none⟩)) rfl (by kernel_rfl) (by kernel_rfl) (by kernel_rfl) (fun _ _ _ h => h) (Or.inl ⟨by kernel_rfl, fun w _ => by go_simp⟩) (by assumption) ?_
                      try simp only [Act.put, List.setIfInBounds_toArray, List.set_cons_zero, List.set_cons_succ]
                      refine wpAnyH_ready (rs := [9]) (by kernel_rfl) (by simp) ?_
                      refine AllReadyH.cons rfl (fun K hK => ?_) AllReadyH.nil
                      rw [if_pos (by kernel_rfl)]
                      have kq1 : wd.cell? ⟨gv, 5, none⟩ = some lv := BD.out.cell 5
                      have kq2 : wd.frozen? ⟨gv, 5, none⟩ = false := BD.out.frozen 5
                      have kq3 := O6.out
                      with_reducible refine step_storeC wd 24 (.tmp 132) (.tmp 131) (by kernel_rfl) gv 5 v6 lv (by kernel_rfl) (by kernel_rfl) kq3 infoRowV kq1 kq2 ?_
                      refine hK.out _ _ trivial (fun hHeld => ?_)
                      clear hK K
                      try simp only [Act.put, List.setIfInBounds_toArray, List.set_cons_zero, List.set_cons_succ]
                      refine wpAnyH_done (by kernel_rfl) ?_ _
                      go_wp2_with fail
                      go_roundw
                      case rel => exact ⟨j + 1, by have := HLT.out; omega, by go_num, FIN.out⟩
                      case measure => simp [intOf]; have := HLT.out; omega
              · rw [decide_eq_false h0, Bool.false_and]
                have hE4 := Lib.hid (show D.1 = E.1 by rw [HSTEP.out, if_pos h0])
                have HER := Lib.hid h0
                have b0 : (E.1 == 0) = false := by simpa using h0
                have b1 : (E.1 != 0) = true := by simpa using h0
                go_upto_region 13 with fail
                refine wp_region_lit ?_
                refine wpList_load_row rfl 26 (.tmp 7) rfl gv rfl _ _ _ _ LX.out.bv HU.out rfl (by rw [sizeValue]; rfl) ?_
                go_wp2_with (guard_target =~ wpList _ _ _ (Oper.mk none (Op.store _ _ _) _ _ _ _ :: _) _ _; go_must (refine wpList_store_rowTo rfl 26 (.tmp 6) (.tmp 116) rfl rfl gb #[.int .i64 7, .int .i64 0, .slice none 0 0, .string ⟨#[]⟩, kv, lv] rfl rfl 26 _ LX.out.bb (by rw [sizeValue]; simp) (by simp [cellsZ]) (by simp [Value.oneCell']; exact ONE.out) ?_))
                (try simp only [Exit.inBlock, Exit.then])
                refine bodyPost_ret (results_cell_row rfl _ _ gb _ _ _ _ rfl (setRow_heap wc _ _ _ _ _ LX.out.bb) HU.out rfl (by rw [sizeValue]; simp)) rfl ?_
                exact ls_bad ZG.out.2.1 ZG.out.1 GX.out RX.out hE4.out (by rw [hE4.out]; exact HER.out) (by simp [Value.oneCell']; exact ONE.out) rfl
      · have d5 : (er == 0) = false := by simpa using her
        have HE := Lib.hid (HNO.out her)
        have HER := Lib.hid her
        clear her HOK HNO
        go_upto_region 16 with fail
        refine wp_region_lit ?_
        refine wpList_load_row rfl 26 (.tmp 7) rfl gv rfl _ _ _ _ LL.out.bv HU.out rfl (by rw [sizeValue]; rfl) ?_
        go_wp2_with (guard_target =~ wpList _ _ _ (Oper.mk none (Op.store _ _ _) _ _ _ _ :: _) _ _; go_must (refine wpList_store_rowTo rfl 26 (.tmp 6) (.tmp 133) rfl rfl gb #[.int .i64 7, .int .i64 0, .slice none 0 0, .string ⟨#[]⟩, kv, lv] rfl rfl 26 _ LL.out.bb (by rw [sizeValue]; simp) (by simp [cellsZ]) (by simp [Value.oneCell']; exact ONE.out) ?_))
        (try simp only [Exit.inBlock, Exit.then])
        refine bodyPost_ret (results_cell_row rfl _ _ gb _ _ _ _ rfl (setRow_heap wr _ _ _ _ _ LL.out.bb) HU.out rfl (by rw [sizeValue]; simp)) rfl ?_
        exact ls_bad ZG.out.2.1 ZG.out.1 GRJ.out RJ.out (by rw [HE.out]) (by rw [HE.out]; exact HER.out) (by simp [Value.oneCell']; exact ONE.out) rfl
    · obtain rfl : j = n := by omega
      by_cases her : er = 0
      · subst her
        have J := Lib.hid (HOK.out rfl).1
        have HAK := Lib.hid (HOK.out rfl).2.1
        have HAL := Lib.hid (HOK.out rfl).2.2.1
        have HKL := Lib.hid (HOK.out rfl).2.2.2.1
        have HDJ := Lib.hid (show D = (0, (ak, al), bs.drop p') by
          have h := (HOK.out rfl).2.2.2.2
          rw [h, Nat.sub_self, preM_zero])
        clear HOK HNO hlt
        go_upto_region 16 with fail
        refine wp_region_lit ?_
        refine wpList_load_row rfl 26 (.tmp 7) rfl gv rfl _ _ _ _ LL.out.bv HU.out rfl (by rw [sizeValue]; rfl) ?_
        go_wp2_with (guard_target =~ wpList _ _ _ (Oper.mk none (Op.store _ _ _) _ _ _ _ :: _) _ _; go_must (refine wpList_store_rowTo rfl 26 (.tmp 6) (.tmp 133) rfl rfl gb #[.int .i64 7, .int .i64 0, .slice none 0 0, .string ⟨#[]⟩, kv, lv] rfl rfl 26 _ LL.out.bb (by rw [sizeValue]; simp) (by simp [cellsZ]) (by simp [Value.oneCell']; exact ONE.out) ?_))
        (try simp only [Exit.inBlock, Exit.then])
        refine bodyPost_ret (results_cell_row rfl _ _ gb _ _ _ _ rfl (setRow_heap wr _ _ _ _ _ LL.out.bb) HU.out rfl (by rw [sizeValue]; simp)) rfl ?_
        rw [HDJ.out]
        exact lk_good ZG.out.2.1 ZG.out.1 ZG.out.2.2.1 GRJ.out RJ.out J.out HAK.out HAL.out (fun k h => by have := HKL.out k h; omega) LL.out (by have := HN.out; omega) ONE.out.2 ONE.out.1
      · have HE := Lib.hid (HNO.out her)
        have HER := Lib.hid her
        clear her HOK HNO hlt
        go_upto_region 16 with fail
        refine wp_region_lit ?_
        refine wpList_load_row rfl 26 (.tmp 7) rfl gv rfl _ _ _ _ LL.out.bv HU.out rfl (by rw [sizeValue]; rfl) ?_
        go_wp2_with (guard_target =~ wpList _ _ _ (Oper.mk none (Op.store _ _ _) _ _ _ _ :: _) _ _; go_must (refine wpList_store_rowTo rfl 26 (.tmp 6) (.tmp 133) rfl rfl gb #[.int .i64 7, .int .i64 0, .slice none 0 0, .string ⟨#[]⟩, kv, lv] rfl rfl 26 _ LL.out.bb (by rw [sizeValue]; simp) (by simp [cellsZ]) (by simp [Value.oneCell']; exact ONE.out) ?_))
        (try simp only [Exit.inBlock, Exit.then])
        refine bodyPost_ret (results_cell_row rfl _ _ gb _ _ _ _ rfl (setRow_heap wr _ _ _ _ _ LL.out.bb) HU.out rfl (by rw [sizeValue]; simp)) rfl ?_
        exact ls_bad ZG.out.2.1 ZG.out.1 GRJ.out RJ.out (by rw [HE.out]) (by rw [HE.out]; exact HER.out) (by simp [Value.oneCell']; exact ONE.out) rfl
end Go.Proofs.YtmpnehhndhepgaaDoor
