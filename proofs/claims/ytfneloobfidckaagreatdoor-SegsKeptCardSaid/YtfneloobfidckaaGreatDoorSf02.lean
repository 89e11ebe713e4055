/- Contracts and facts, several texts in one. It proves no statement. -/
import Derived.Test.YtfneloobfidckaaGreatDoorSf01
import Derived.StillTailTactics
import Derived.Deep.DeepCutAuto
import Derived.Deep.CutBlock
import Derived.Deep.QuietTactic
import Derived.BigQuiet
import Derived.Test.YtfneloobfidckaaGreatDoorSf00

/- Contract: a step that changes names. It proves no statement. -/








namespace Go.Proofs.YtfneloobfidckaaGreatDoor
open Go.RowKit Go.Maps Go.WideMaps
set_option linter.unusedVariables false
set_option linter.unusedSimpArgs false

theorem own_ne {w : World} {base z n g : Nat} {e t : TypeId} {v : Value} {xs : List Value} {cs : Array Value} (h : w.ownsRow base e z v n xs) (hb : Blk w g t cs) (ne : e ≠ t) : v.ownBlock ≠ some g := by
  intro q
  rcases h.2 with ⟨rfl, _⟩ | ⟨g', c, cur, rfl, _, h3, _⟩
  · simp [Value.ownBlock] at q
  · have : g' = g := by simpa [Value.ownBlock] using q
    subst this
    have hb' : w.heap[g']? = some (.cells cs t (0, 0)) := hb
    rw [hb'] at h3
    simp only [Option.some.injEq, Obj.cells.injEq] at h3
    exact ne h3.2.1.symm
theorem nm_ne {w : World} {g b n : Nat} {D : DataW Unit} {t : TypeId} {cs : Array Value} (h : NM w b n D) (hb : Blk w g t cs) : b ≠ g := by
  intro q
  subst q
  obtain ⟨es, clock, h1, _⟩ := h
  have hb' : w.heap[b]? = some (.cells cs t (0, 0)) := hb
  rw [hb'] at h1
  cases h1
theorem nm_own_ne {w : World} {base z n m b : Nat} {D : DataW Unit} {e : TypeId} {v : Value} {xs : List Value} (h : NM w b m D) (ho : w.ownsRow base e z v n xs) : v.ownBlock ≠ some b := by
  intro q
  rcases ho.2 with ⟨rfl, _⟩ | ⟨g', c, cur, rfl, _, h3, _⟩
  · simp [Value.ownBlock] at q
  · have : g' = b := by simpa [Value.ownBlock] using q
    subst this
    obtain ⟨es, clock, h1, _⟩ := h
    rw [h3] at h1
    cases h1
theorem own_formV {w : World} {base n z : Nat} {e : TypeId} {v : Value} {xs : List Value} (h : w.ownsRow base e z v n xs) : ∃ A c, v = .slice A n c := by
  rcases h.2 with ⟨h, h0⟩ | ⟨g, c, cur, h, _⟩
  · exact ⟨_, _, by rw [h, h0]⟩
  · exact ⟨_, _, h⟩
def nmL (s t : ByteArray) (f : Int) : List Value := [.string s, .string t, pv f]
set_option maxRecDepth 100000 in
set_option maxHeartbeats 1600000 in
theorem name_yes {w : World} {g : Nat} {room : Int} {bn bf : Nat} {wv : Value} {left : Int} {off : Bool} (h : MedB w g room bn bf wv left off) (hl : left ≤ 9223372036854775807) (s t : ByteArray) (f : Int) (hf : f = -1 ∨ 0 ≤ f) (n k base : Nat) (D : DataW Unit) (xs : List Value)
    (hown : NM w bn n D) (hn : n ≤ 1000000) (hs : s.size ≤ maxLen) (ht : t.size ≤ maxLen) (hw : w.ownsRow base 263 3 wv k xs) (hk : k ≤ 1000000) (hbase : base ≤ w.heap.size) (he : (stepR left off).2.2 = 0) :
    Calls Tryz.prog 174 #[.pointer (some ⟨g, 0, none⟩), .agg #[.string s, .string t, pv f]] w fun e w' => e = .returned (.int .i64 0) ∧ ∃ wv', MedB w' g room bn bf wv' (stepR left off).1 (stepR left off).2.1 ∧ w'.ownsRow base 263 3 wv' (k + 1) (xs ++ nmL s t f) ∧ NM w' bn (n + 1) (nmDo D s t f) ∧ Chg w w' (fun x => x = g ∨ x = bn ∨ wv.ownBlock = some x) ∧ (wv'.ownBlock = wv.ownBlock ∨ ∃ j, wv'.ownBlock = some j ∧ w.heap.size ≤ j) := by
  obtain ⟨gc, hgc⟩ : ∃ gc, gc = w.heap.size := ⟨_, rfl⟩
  obtain ⟨w1, hw1⟩ : ∃ w1, w1 = w.alloc (.cells #[.string s, .string t, pv f] 263) := ⟨_, rfl⟩
  have S1 : Still w w1 := by rw [hw1]; exact (Still.refl w).alloc (Nat.le_refl _) _
  have B1 : Blk w1 gc 263 #[.string s, .string t, pv f] := by rw [hw1, hgc]; exact Blk.new _ _ _
  have M1 := h.still S1
  have ST := Lib.hid (step_yes M1 hl)
  rw [he] at ST
  obtain ⟨L2, hL2⟩ : ∃ L2, L2 = (stepR left off).1 := ⟨_, rfl⟩
  obtain ⟨O2, hO2⟩ : ∃ O2, O2 = (stepR left off).2.1 := ⟨_, rfl⟩
  rw [← hL2, ← hO2] at ST ⊢
  have hgw : g < w.heap.size := Blk.lt h
  have NE1 := Lib.hid (nm_ne hown h)
  have NE2 := Lib.hid (own_ne hw h (by decide))
  have NE3 := Lib.hid (nm_own_ne hown hw)
  have HN1 := Lib.hid ((Chg.of_still S1 (fun _ => False)).nm hown (fun h => h))
  have HR1 := Lib.hid ((Chg.of_still S1 (fun _ => False)).own hw (fun _ _ h => h))
  have HS1 := Lib.hid S1
  have HB1 := Lib.hid B1
  have HW1 := Lib.hid hw1
  have HGC := Lib.hid hgc
  have HGW := Lib.hid hgw
  have HBS := Lib.hid hbase
  have HOWN := Lib.hid (And.intro hown.lt (fun j (e : wv.ownBlock = some j) => (hw.lt j e).2))
  have HK := Lib.hid (And.intro hn hk)
  obtain ⟨p, hp⟩ : ∃ p, p = pa f := ⟨_, rfl⟩
  have hpv : pv f = .pointer p := by rw [hp]; rfl
  have HP := Lib.hid hpv
  have DO := Lib.hid (fun (W : World) (ho : NM W bn n D) => naming_do s t f hf bn n D W ho (by omega) hs ht)
  rw [hpv] at DO HW1 HB1 ⊢
  clear h hl hown hn hs ht hw hk hbase he S1 B1 M1 hw1 hgc hgw hL2 hO2 hp hpv
  go_enter Tryz.func174, Tryz.ntmps174
  go_wp2_with fail
  rw [← HW1.out, ← HGC.out]
  refine ST.out.mono ?_
  rintro e w2 ⟨rfl, m2, gr2⟩
  have S12 := Lib.hid (Chg.of_grown (S := fun x => x = g) gr2 (fun k e _ => by injection e with e; exact e.symm))
  have hgcg : gc ≠ g := by have := HGC.out; have := HGW.out; omega
  have B2 := Lib.hid (S12.out.blk HB1.out hgcg)
  have k0 : w2.cell? ⟨gc, 0, none⟩ = some (.string s) := Blk.cell B2.out 0
  have k1 : w2.cell? ⟨gc, 1, none⟩ = some (.string t) := Blk.cell B2.out 1
  have k2 : w2.cell? ⟨gc, 2, none⟩ = some (.pointer p) := Blk.cell B2.out 2
  have c1 : w2.cell? ⟨g, 1, none⟩ = some (.map (some bn)) := Blk.cell m2 1
  have M2 := Lib.hid m2
  have HG := Lib.hid hgcg
  have N2 := Lib.hid (S12.out.nm HN1.out NE1.out)
  have R2 := Lib.hid (S12.out.own HR1.out (fun k e q => NE2.out (q ▸ e)))
  clear ST m2 gr2 hgcg
  go_wp2_with fail
  go_still_tail 5, (by kernel_rfl)
  repeat still_step
  change wpList _ _ _ _ _ w2.drew
  obtain ⟨wd, hwd⟩ : ∃ wd, wd = w2.drew := ⟨_, rfl⟩
  have SD := Lib.hid (show Still w2 wd by rw [hwd]; exact (Still.refl _).drew)
  rw [← hwd]
  have DD := Lib.hid (DO.out wd ((Chg.of_still SD.out (fun _ => False)).nm N2.out (fun h => h)))
  clear hwd k0 k1 k2 c1 DO
  go_wp2_with fail
  refine DD.out.mono ?_
  rintro e w3 ⟨rfl, n3, gr3⟩
  have C3 := Lib.hid (Chg.of_grown (S := fun x => x = bn) gr3 (fun k e _ => by injection e with e; exact e.symm))
  have C2d := Lib.hid (Chg.of_still SD.out (fun _ => False))
  have B3 := Lib.hid (C3.out.blk (C2d.out.blk B2.out (fun h => h)) (fun e => by have := HGC.out; have := HOWN.out.1; omega))
  have M3 := Lib.hid (show MedB w3 g room bn bf wv L2 O2 from C3.out.blk (C2d.out.blk M2.out (fun h => h)) (fun e => NE1.out e.symm))
  have R3 := Lib.hid (C3.out.own (C2d.out.own R2.out (fun _ _ h => h)) (fun k e q => NE3.out (q ▸ e)))
  have N3 := Lib.hid n3
  have DE := Lib.hid (show Still w3 w3.drew from (Still.refl _).drew)
  obtain ⟨we, hwe⟩ : ∃ we, we = w3.drew := ⟨_, rfl⟩
  rw [← hwe] at DE
  have C3e := Lib.hid (Chg.of_still DE.out (fun _ => False))
  have Be := Lib.hid (C3e.out.blk B3.out (fun h => h))
  have Me := Lib.hid (show MedB we g room bn bf wv L2 O2 from C3e.out.blk M3.out (fun h => h))
  obtain ⟨w4, hw4⟩ : ∃ w4, w4 = we.alloc (.cells #[.string s, .string t, .pointer p] 263) := ⟨_, rfl⟩
  obtain ⟨g4, hg4⟩ : ∃ g4, g4 = we.heap.size := ⟨_, rfl⟩
  have S34 := Lib.hid (show Still w3 w4 by rw [hw4]; exact DE.out.trans ((Still.refl _).alloc (Nat.le_refl _) _))
  have B4 := Lib.hid (show Blk w4 g4 263 #[.string s, .string t, .pointer p] by rw [hw4, hg4]; exact Blk.new _ _ _)
  have C34 := Lib.hid (Chg.of_still S34.out (fun _ => False))
  have R4 := Lib.hid (C34.out.own R3.out (fun _ _ h => h))
  have M4 := Lib.hid (show MedB w4 g room bn bf wv L2 O2 from C34.out.blk M3.out (fun h => h))
  have HW4 := Lib.hid hw4
  have HG4 := Lib.hid hg4
  have SZ := Lib.hid (show w.heap.size ≤ w4.heap.size from Nat.le_trans HS1.out.size (Nat.le_trans S12.out.size (Nat.le_trans C2d.out.size (Nat.le_trans C3.out.size C34.out.size))))
  have GC4 := Lib.hid (show ∀ q u, ([.string s, .string t, .pointer p] : List Value)[q]? = some u → w4.cell? ⟨g4, q, none⟩ = some u from fun q u hq => (Blk.cell B4.out q).trans (by simpa using hq))
  have ONE := Lib.hid (show ∀ u ∈ ([.string s, .string t, .pointer p] : List Value), u.oneCell' = true by
    intro u hu
    simp only [List.mem_cons, List.not_mem_nil, or_false] at hu
    rcases hu with rfl | rfl | rfl <;> rfl)
  have HK6 := Lib.hid (show k ≤ 1048576 by have := HK.out; omega)
  have HBS4 := Lib.hid (Nat.le_trans HBS.out SZ.out)
  have FINAL := Lib.hid (show ∀ v5 w5, w5.ownsRow base 263 3 v5 (k + 1) (xs ++ [.string s, .string t, .pointer p]) → w4.grownBy w5 wv.ownBlock → (v5.ownBlock = wv.ownBlock ∨ v5.ownBlock = some w4.heap.size) → w5.cell? ⟨g, 3, none⟩ = some wv ∧ w5.frozen? ⟨g, 3, none⟩ = false ∧ (∃ wv', MedB (w5.setCell ⟨g, 3, none⟩ v5) g room bn bf wv' L2 O2 ∧ (w5.setCell ⟨g, 3, none⟩ v5).ownsRow base 263 3 wv' (k + 1) (xs ++ nmL s t f) ∧ NM (w5.setCell ⟨g, 3, none⟩ v5) bn (n + 1) (nmDo D s t f) ∧ Chg w (w5.setCell ⟨g, 3, none⟩ v5) (fun x => x = g ∨ x = bn ∨ wv.ownBlock = some x) ∧ (wv'.ownBlock = wv.ownBlock ∨ ∃ j, wv'.ownBlock = some j ∧ w.heap.size ≤ j)) by
    intro v5 w5 r5 gr5 loc5
    have C45 := Chg.of_grown (S := fun x => wv.ownBlock = some x) gr5 (fun k e _ => e)
    have M5 : MedB w5 g room bn bf wv L2 O2 := C45.blk M4.out (fun e => NE2.out e)
    have N5 : NM w5 bn (n + 1) (nmDo D s t f) := C45.nm (C34.out.nm N3.out (fun h => h)) (fun e => NE3.out e)
    have C56 := Chg.of_grown (S := fun x => x = g) (grownBy_set w5 g 3 v5) (fun k e _ => by injection e with e; exact e.symm)
    have NEV : v5.ownBlock ≠ some g := own_ne r5 M5 (by decide)
    refine ⟨Blk.cell M5 3, Blk.frozen M5 3, v5, M5.setwait v5, ?_, C56.nm N5 NE1.out, ?_, ?_⟩
    · have h := C56.own r5 (fun k e q => NEV (q ▸ e))
      unfold nmL
      rw [HP.out]
      exact h
    · have a1 := Chg.trans (S := fun x => x = g ∨ x = bn ∨ wv.ownBlock = some x) (Chg.of_still HS1.out _) S12.out (fun x _ h => .inl h)
      have a2 := Chg.trans a1 C2d.out (fun x _ h => h.elim)
      have a3 := Chg.trans a2 C3.out (fun x _ h => .inr (.inl h))
      have a4 := Chg.trans a3 C34.out (fun x _ h => h.elim)
      have a5 := Chg.trans a4 C45 (fun x _ h => .inr (.inr h))
      exact Chg.trans a5 C56 (fun x _ h => .inl h)
    · rcases loc5 with h | h
      · exact .inl h
      · exact .inr ⟨_, h, SZ.out⟩)
  have k0 : we.cell? ⟨gc, 0, none⟩ = some (.string s) := Blk.cell Be.out 0
  have k1 : we.cell? ⟨gc, 1, none⟩ = some (.string t) := Blk.cell Be.out 1
  have k2 : we.cell? ⟨gc, 2, none⟩ = some (.pointer p) := Blk.cell Be.out 2
  have c3 : we.cell? ⟨g, 3, none⟩ = some wv := Blk.cell Me.out 3
  have c4 : w4.cell? ⟨g, 3, none⟩ = some wv := Blk.cell M4.out 3
  have HWE := Lib.hid hwe
  clear n3 gr3 DD hwe hw4 hg4
  go_upto_region 5 with fail
  go_cut [5] (fun ev wx => ev = .int .i64 0 ∧ ∃ wv', MedB wx g room bn bf wv' L2 O2 ∧ wx.ownsRow base 263 3 wv' (k + 1) (xs ++ nmL s t f) ∧ NM wx bn (n + 1) (nmDo D s t f) ∧ Chg w wx (fun x => x = g ∨ x = bn ∨ wv.ownBlock = some x) ∧ (wv'.ownBlock = wv.ownBlock ∨ ∃ j, wv'.ownBlock = some j ∧ w.heap.size ≤ j))
  case first =>
    refine wp_region_any (by kernel_rfl) ?_
    change wpAny _ _ _ _ _ _ _ w3.drew
    rw [← HWE.out]
    try simp only [Act.put, List.setIfInBounds_toArray, List.set_cons_zero, List.set_cons_succ]
    refine wpAny_take (i := 0) (v := .pointer (some ⟨g, 0, none⟩)) rfl (by kernel_rfl) (by kernel_rfl) (by kernel_rfl) (fun _ _ _ h => h) (Or.inl ⟨by kernel_rfl, fun w => by go_simp⟩) ?_
    try simp only [Act.put, List.setIfInBounds_toArray, List.set_cons_zero, List.set_cons_succ]
    refine wpAny_take (i := 1) (v := .pointer (some ⟨g, 0, none⟩)) rfl (by kernel_rfl) (by kernel_rfl) (by kernel_rfl) (fun _ _ _ h => h) (Or.inl ⟨by kernel_rfl, fun w => by go_simp⟩) ?_
    try simp only [Act.put, List.setIfInBounds_toArray, List.set_cons_zero, List.set_cons_succ]
    refine wpAny_take (i := 2) (v := .pointer (some ⟨g, 0, none⟩)) rfl (by kernel_rfl) (by kernel_rfl) (by kernel_rfl) (fun _ _ _ h => h) (Or.inl ⟨by kernel_rfl, fun w => by go_simp⟩) ?_
    try simp only [Act.put, List.setIfInBounds_toArray, List.set_cons_zero, List.set_cons_succ]
    refine wpAny_take (i := 3) (v := .pointer (some ⟨g, 3, none⟩)) rfl (by kernel_rfl) (by kernel_rfl) (by kernel_rfl) (fun _ _ _ h => h) (Or.inl ⟨by kernel_rfl, fun w => by go_simp⟩) ?_
    try simp only [Act.put, List.setIfInBounds_toArray, List.set_cons_zero, List.set_cons_succ]
    refine wpAny_ready (rs := [4, 5]) (by kernel_rfl) (by simp) ?_
    refine AllReady.cons (o := ⟨some 21, .load 145 (.tmp 20), _, _, _, none⟩) rfl (fun K' hK' => ?_) (AllReady.cons (o := ⟨some 22, .load 263 (.tmp 3), _, _, _, none⟩) rfl (fun K' hK' => ?_) AllReady.nil)
    · have HK' := Lib.hid hK'
      clear hK'
      rw [if_pos (by kernel_rfl)]
      go_simp
      refine HK'.out _ _ ?_
      clear HK' K'
      try simp only [Act.put, List.setIfInBounds_toArray, List.set_cons_zero, List.set_cons_succ]
      refine wpAny_ready (rs := [5]) (by kernel_rfl) (by simp) ?_
      refine AllReady.cons (o := ⟨some 22, .load 263 (.tmp 3), _, _, _, none⟩) rfl (fun K' hK' => ?_) AllReady.nil
      have HK' := Lib.hid hK'
      clear hK'
      rw [if_pos (by kernel_rfl)]
      go_simp
      refine HK'.out _ _ ?_
      clear HK' K'
      try simp only [Act.put, List.setIfInBounds_toArray, List.set_cons_zero, List.set_cons_succ]
      refine wpAny_ready (rs := [6]) (by kernel_rfl) (by simp) ?_
      refine AllReady.cons (o := ⟨some 23, .buildSlice 145 1 #[(0, .tmp 22)], _, _, _, none⟩) rfl (fun K' hK' => ?_) AllReady.nil
      have HK' := Lib.hid hK'
      clear hK'
      rw [if_pos (by kernel_rfl)]
      with_reducible refine step_boxNm we (.tmp 22) (by kernel_rfl) s t p (by kernel_rfl) ?_
      rw [← HW4.out, ← HG4.out]
      refine HK'.out _ _ ?_
      clear HK' K'
      try simp only [Act.put, List.setIfInBounds_toArray, List.set_cons_zero, List.set_cons_succ]
      refine wpAny_ready (rs := [7]) (by kernel_rfl) (by simp) ?_
      refine AllReady.cons (o := ⟨some 24, .call { callee := .builtin .append, args := #[.tmp 21, .tmp 23], argTypes := #[145, 145] }, _, _, _, none⟩) rfl (fun K' hK' => ?_) AllReady.nil
      have HK' := Lib.hid hK'
      clear hK'
      rw [if_pos (by kernel_rfl)]
      with_reducible refine step_pushNm w4 (.tmp 21) (.tmp 23) (by kernel_rfl) base wv k xs (by kernel_rfl) R4.out g4 [.string s, .string t, .pointer p] (by kernel_rfl) GC4.out rfl ONE.out HK6.out HBS4.out ?_
      intro v5 w5 r5 gr5 loc5
      refine HK'.out _ _ ?_
      clear HK' K'
      obtain ⟨d3, f3, FIN⟩ := FINAL.out v5 w5 r5 gr5 loc5
      obtain ⟨A5, c5, rfl⟩ := own_formV r5
      clear r5 gr5 loc5
      try simp only [Act.put, List.setIfInBounds_toArray, List.set_cons_zero, List.set_cons_succ]
      refine wpAny_take (i := 8) (v := .pointer (some ⟨g, 0, none⟩)) rfl (by kernel_rfl) (by kernel_rfl) (by kernel_rfl) (fun _ _ _ h => h) (Or.inl ⟨by kernel_rfl, fun w => by go_simp⟩) ?_
      try simp only [Act.put, List.setIfInBounds_toArray, List.set_cons_zero, List.set_cons_succ]
      refine wpAny_take (i := 9) (v := .pointer (some ⟨g, 3, none⟩)) rfl (by kernel_rfl) (by kernel_rfl) (by kernel_rfl) (fun _ _ _ h => h) (Or.inl ⟨by kernel_rfl, fun w => by go_simp⟩) ?_
      try simp only [Act.put, List.setIfInBounds_toArray, List.set_cons_zero, List.set_cons_succ]
      refine wpAny_ready (rs := [10]) (by kernel_rfl) (by simp) ?_
      refine AllReady.cons (o := ⟨none, .store 145 (.tmp 26) (.tmp 24), _, _, _, none⟩) rfl (fun K' hK' => ?_) AllReady.nil
      have HK' := Lib.hid hK'
      clear hK'
      rw [if_pos (by kernel_rfl)]
      go_simp
      refine HK'.out _ _ ?_
      clear HK' K'
      try simp only [Act.put, List.setIfInBounds_toArray, List.set_cons_zero, List.set_cons_succ]
      refine wpAny_done (by kernel_rfl) ?_ _
      go_simp
      go_wp2_with fail
      go_meet
      exact ⟨rfl, FIN⟩
    · have HK' := Lib.hid hK'
      clear hK'
      rw [if_pos (by kernel_rfl)]
      go_simp
      refine HK'.out _ _ ?_
      clear HK' K'
      try simp only [Act.put, List.setIfInBounds_toArray, List.set_cons_zero, List.set_cons_succ]
      refine wpAny_ready (rs := [4, 6]) (by kernel_rfl) (by simp) ?_
      refine AllReady.cons (o := ⟨some 21, .load 145 (.tmp 20), _, _, _, none⟩) rfl (fun K' hK' => ?_) (AllReady.cons (o := ⟨some 23, .buildSlice 145 1 #[(0, .tmp 22)], _, _, _, none⟩) rfl (fun K' hK' => ?_) AllReady.nil)
      · have HK' := Lib.hid hK'
        clear hK'
        rw [if_pos (by kernel_rfl)]
        go_simp
        refine HK'.out _ _ ?_
        clear HK' K'
        try simp only [Act.put, List.setIfInBounds_toArray, List.set_cons_zero, List.set_cons_succ]
        refine wpAny_ready (rs := [6]) (by kernel_rfl) (by simp) ?_
        refine AllReady.cons (o := ⟨some 23, .buildSlice 145 1 #[(0, .tmp 22)], _, _, _, none⟩) rfl (fun K' hK' => ?_) AllReady.nil
        have HK' := Lib.hid hK'
        clear hK'
        rw [if_pos (by kernel_rfl)]
        with_reducible refine step_boxNm we (.tmp 22) (by kernel_rfl) s t p (by kernel_rfl) ?_
        rw [← HW4.out, ← HG4.out]
        refine HK'.out _ _ ?_
        clear HK' K'
        try simp only [Act.put, List.setIfInBounds_toArray, List.set_cons_zero, List.set_cons_succ]
        refine wpAny_ready (rs := [7]) (by kernel_rfl) (by simp) ?_
        refine AllReady.cons (o := ⟨some 24, .call { callee := .builtin .append, args := #[.tmp 21, .tmp 23], argTypes := #[145, 145] }, _, _, _, none⟩) rfl (fun K' hK' => ?_) AllReady.nil
        have HK' := Lib.hid hK'
        clear hK'
        rw [if_pos (by kernel_rfl)]
        with_reducible refine step_pushNm w4 (.tmp 21) (.tmp 23) (by kernel_rfl) base wv k xs (by kernel_rfl) R4.out g4 [.string s, .string t, .pointer p] (by kernel_rfl) GC4.out rfl ONE.out HK6.out HBS4.out ?_
        intro v5 w5 r5 gr5 loc5
        refine HK'.out _ _ ?_
        clear HK' K'
        obtain ⟨d3, f3, FIN⟩ := FINAL.out v5 w5 r5 gr5 loc5
        obtain ⟨A5, c5, rfl⟩ := own_formV r5
        clear r5 gr5 loc5
        try simp only [Act.put, List.setIfInBounds_toArray, List.set_cons_zero, List.set_cons_succ]
        refine wpAny_take (i := 8) (v := .pointer (some ⟨g, 0, none⟩)) rfl (by kernel_rfl) (by kernel_rfl) (by kernel_rfl) (fun _ _ _ h => h) (Or.inl ⟨by kernel_rfl, fun w => by go_simp⟩) ?_
        try simp only [Act.put, List.setIfInBounds_toArray, List.set_cons_zero, List.set_cons_succ]
        refine wpAny_take (i := 9) (v := .pointer (some ⟨g, 3, none⟩)) rfl (by kernel_rfl) (by kernel_rfl) (by kernel_rfl) (fun _ _ _ h => h) (Or.inl ⟨by kernel_rfl, fun w => by go_simp⟩) ?_
        try simp only [Act.put, List.setIfInBounds_toArray, List.set_cons_zero, List.set_cons_succ]
        refine wpAny_ready (rs := [10]) (by kernel_rfl) (by simp) ?_
        refine AllReady.cons (o := ⟨none, .store 145 (.tmp 26) (.tmp 24), _, _, _, none⟩) rfl (fun K' hK' => ?_) AllReady.nil
        have HK' := Lib.hid hK'
        clear hK'
        rw [if_pos (by kernel_rfl)]
        go_simp
        refine HK'.out _ _ ?_
        clear HK' K'
        try simp only [Act.put, List.setIfInBounds_toArray, List.set_cons_zero, List.set_cons_succ]
        refine wpAny_done (by kernel_rfl) ?_ _
        go_simp
        go_wp2_with fail
        go_meet
        exact ⟨rfl, FIN⟩
      · have HK' := Lib.hid hK'
        clear hK'
        rw [if_pos (by kernel_rfl)]
        with_reducible refine step_boxNm we (.tmp 22) (by kernel_rfl) s t p (by kernel_rfl) ?_
        rw [← HW4.out, ← HG4.out]
        refine HK'.out _ _ ?_
        clear HK' K'
        try simp only [Act.put, List.setIfInBounds_toArray, List.set_cons_zero, List.set_cons_succ]
        refine wpAny_ready (rs := [4]) (by kernel_rfl) (by simp) ?_
        refine AllReady.cons (o := ⟨some 21, .load 145 (.tmp 20), _, _, _, none⟩) rfl (fun K' hK' => ?_) AllReady.nil
        have HK' := Lib.hid hK'
        clear hK'
        rw [if_pos (by kernel_rfl)]
        go_simp
        refine HK'.out _ _ ?_
        clear HK' K'
        try simp only [Act.put, List.setIfInBounds_toArray, List.set_cons_zero, List.set_cons_succ]
        refine wpAny_ready (rs := [7]) (by kernel_rfl) (by simp) ?_
        refine AllReady.cons (o := ⟨some 24, .call { callee := .builtin .append, args := #[.tmp 21, .tmp 23], argTypes := #[145, 145] }, _, _, _, none⟩) rfl (fun K' hK' => ?_) AllReady.nil
        have HK' := Lib.hid hK'
        clear hK'
        rw [if_pos (by kernel_rfl)]
        with_reducible refine step_pushNm w4 (.tmp 21) (.tmp 23) (by kernel_rfl) base wv k xs (by kernel_rfl) R4.out g4 [.string s, .string t, .pointer p] (by kernel_rfl) GC4.out rfl ONE.out HK6.out HBS4.out ?_
        intro v5 w5 r5 gr5 loc5
        refine HK'.out _ _ ?_
        clear HK' K'
        obtain ⟨d3, f3, FIN⟩ := FINAL.out v5 w5 r5 gr5 loc5
        obtain ⟨A5, c5, rfl⟩ := own_formV r5
        clear r5 gr5 loc5
        try simp only [Act.put, List.setIfInBounds_toArray, List.set_cons_zero, List.set_cons_succ]
        refine wpAny_take (i := 8) (v := .pointer (some ⟨g, 0, none⟩)) rfl (by kernel_rfl) (by kernel_rfl) (by kernel_rfl) (fun _ _ _ h => h) (Or.inl ⟨by kernel_rfl, fun w => by go_simp⟩) ?_
        try simp only [Act.put, List.setIfInBounds_toArray, List.set_cons_zero, List.set_cons_succ]
        refine wpAny_take (i := 9) (v := .pointer (some ⟨g, 3, none⟩)) rfl (by kernel_rfl) (by kernel_rfl) (by kernel_rfl) (fun _ _ _ h => h) (Or.inl ⟨by kernel_rfl, fun w => by go_simp⟩) ?_
        try simp only [Act.put, List.setIfInBounds_toArray, List.set_cons_zero, List.set_cons_succ]
        refine wpAny_ready (rs := [10]) (by kernel_rfl) (by simp) ?_
        refine AllReady.cons (o := ⟨none, .store 145 (.tmp 26) (.tmp 24), _, _, _, none⟩) rfl (fun K' hK' => ?_) AllReady.nil
        have HK' := Lib.hid hK'
        clear hK'
        rw [if_pos (by kernel_rfl)]
        go_simp
        refine HK'.out _ _ ?_
        clear HK' K'
        try simp only [Act.put, List.setIfInBounds_toArray, List.set_cons_zero, List.set_cons_succ]
        refine wpAny_done (by kernel_rfl) ?_ _
        go_simp
        go_wp2_with fail
        go_meet
        exact ⟨rfl, FIN⟩
  case rest =>
    obtain ⟨rfl, wv', hh⟩ := hcut
    have HH := Lib.hid hh
    clear hh
    go_wp2_with fail
    go_ret
    exact ⟨rfl, wv', HH.out⟩
end Go.Proofs.YtfneloobfidckaaGreatDoor

/- 'append(b, c...)', told where the row lies behind it. It proves no statement. -/

namespace Go.Proofs.YtfneloobfidckaaGreatDoor
open Go.RowKit
set_option linter.unusedVariables false

theorem run_adds_at (w : World) (ty : TypeId) (base : Nat) (v : Value) (n : Nat) (l : List UInt8) (hown : w.ownsRow base 5 1 v n (bytesV l)) (A : Option Addr) (n' c' : Nat) (B : Nat) (l' : List UInt8)
    (hr : Reads w B A n' l') (hA : A = none → c' = 0) (hn : n + n' ≤ 140737488355328) (hbase : base ≤ w.heap.size) :
    ∃ v' w', (Builtin.append_ #[42, 42] ty #[v, .slice A n' c']).run Tryz.prog w = .ok v' w' ∧ w'.ownsRow base 5 1 v' (n + n') (bytesV (l ++ l')) ∧ w.grownBy w' v.ownBlock ∧ (v'.ownBlock = v.ownBlock ∨ v'.ownBlock = some w.heap.size) := by
  obtain ⟨i0, hi, hz0, hz1, hz2⟩ := info_parts Tryz.infoByte
  rcases A with _ | ad
  · have h0 : n' = 0 := by
      rcases Nat.eq_zero_or_pos n' with h0 | h0
      · exact h0
      · obtain ⟨_, _, e, _⟩ := hr.2 h0
        cases e
    subst h0
    have hl : l' = [] := List.eq_nil_of_length_eq_zero hr.1
    subst hl
    obtain rfl := hA rfl
    exact ⟨v, w, run_append_owned_none (P := Tryz.prog) w base 42 ty 5 i0 1 Tryz.underlying42 hi v n _ hown, by simpa using hown, World.grownBy.refl _ _, .inl rfl⟩
  · have hnews : ∀ j u, (bytesV l')[j]? = some u → w.cell? (ad.add j) = some u := by
      intro j u hu
      rcases Nat.eq_zero_or_pos n' with h0 | h0
      · subst h0
        have hl : l' = [] := List.eq_nil_of_length_eq_zero hr.1
        subst hl
        simp [bytesV] at hu
      · exact hr.news ad rfl h0 j u hu
    obtain ⟨v', w', hrun, h2, h3, _, h5⟩ := run_append_own_at (P := Tryz.prog) w base 42 ty 5 i0 (.int .u8 0) 1 1 Tryz.underlying42 hi hz0 hz1 hz2 rfl (by decide) v n _ hown ad n' c' (bytesV l') (by rw [bytesV_length, hr.1]; omega) hnews (bytesV_one _) (by unfold maxLen; omega) (by omega) hbase
    rw [← bytesV_append] at h2
    exact ⟨v', w', hrun, h2, h3, h5⟩
theorem wpList_adds_at (w : World) {ops : Array Oper} {rest : List Oper} {o : Oper} {a : Act} {Q : Exit → Act → World → Prop} (hgd : o.guard = none) (s x : Operand)
    (ho : o.op = .call { callee := .builtin .append, args := #[s, x], argTypes := #[42, 42] })
    (base : Nat) (v : Value) (n : Nat) (l : List UInt8) (hs : a.eval s = v) (hown : w.ownsRow base 5 1 v n (bytesV l)) (A : Option Addr) (n' c' : Nat) (B : Nat) (l' : List UInt8)
    (hx : a.eval x = .slice A n' c') (hr : Reads w B A n' l') (hA : A = none → c' = 0) (hn : n + n' ≤ 140737488355328) (hbase : base ≤ w.heap.size)
    (h : ∀ v' w', w'.ownsRow base 5 1 v' (n + n') (bytesV (l ++ l')) → w.grownBy w' v.ownBlock → (v'.ownBlock = v.ownBlock ∨ v'.ownBlock = some w.heap.size) → wpList Tryz.prog ops Q rest (a.put o.dst v') w') :
    wpList Tryz.prog ops Q (o :: rest) a w := by
  refine wpList_plain hgd fun K hK => ?_
  obtain ⟨v', w', hrun, h2, h3, h4⟩ := run_adds_at w o.type base v n l hown A n' c' B l' hr hA hn hbase
  unfold Oper.wp execOp
  simp only [ho, resolve, invoke, builtin, Sem.run_bind, Sem.run_pure, Result.andThen_ok, List.map_toArray, List.map_cons, List.map_nil, hs, hx, hrun]
  exact hK _ _ (h v' w' h2 h3 h4)
end Go.Proofs.YtfneloobfidckaaGreatDoor
