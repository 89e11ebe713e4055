/- Contracts and facts, several texts in one. It proves no statement. -/
import Derived.Test.YtblgphfdicffcaaGreatDoorHfb
import Derived.StillTailTactics
import Derived.Deep.DeepCutAuto
import Derived.Deep.CutBlock
import Derived.Deep.QuietTactic
import Derived.BigQuiet
import Derived.Test.YtblgphfdicffcaaGreatDoorHfa
import Derived.Laws.IdiomStrings

/- Worlds in which only some blocks have turned: maps. It proves no statement. -/


namespace Go.Proofs.YtblgphfdicffcaaGreatDoor
open Go.RowKit Go.Maps Go.WideMaps
set_option linter.unusedVariables false
set_option linter.unusedSimpArgs false

theorem Chg.nm {a b : World} {S : Nat → Prop} (h : Chg a b S) {m n : Nat} {D : DataW Unit} (hm : NM a m n D) (hS : ¬ S m) : NM b m n D := by
  have hlt := hm.lt
  obtain ⟨es, clock, hb, F, hs, hD⟩ := hm
  exact ⟨es, clock, (h.block m hlt hS).trans hb, F, hs, hD⟩
end Go.Proofs.YtblgphfdicffcaaGreatDoor

/- Contract: a step that changes names. It proves no statement. -/








namespace Go.Proofs.YtblgphfdicffcaaGreatDoor
open Go.RowKit Go.Maps Go.WideMaps
set_option linter.unusedVariables false
set_option linter.unusedSimpArgs false

theorem own_ne {w : World} {base z n g : Nat} {e t : TypeId} {v : Value} {xs : List Value} {cs : Array Value} (h : w.ownsRow base e z v n xs) (hb : Blk w g t cs) (ne : e ≠ t) : v.ownBlock ≠ some g := by
  intro q
  rcases h.2 with ⟨rfl, _⟩ | ⟨g', c, cur, rfl, _, h3, _⟩
  · simp [Value.ownBlock] at q
  · have : g' = g := by simpa [Value.ownBlock] using q
    subst this
    have hb' : w.heap[g']? = some (.cells cs t (0, 0)) := hb
    rw [hb'] at h3
    simp only [Option.some.injEq, Obj.cells.injEq] at h3
    exact ne h3.2.1.symm
theorem nm_ne {w : World} {g b n : Nat} {D : DataW Unit} {t : TypeId} {cs : Array Value} (h : NM w b n D) (hb : Blk w g t cs) : b ≠ g := by
  intro q
  subst q
  obtain ⟨es, clock, h1, _⟩ := h
  have hb' : w.heap[b]? = some (.cells cs t (0, 0)) := hb
  rw [hb'] at h1
  cases h1
theorem nm_own_ne {w : World} {base z n m b : Nat} {D : DataW Unit} {e : TypeId} {v : Value} {xs : List Value} (h : NM w b m D) (ho : w.ownsRow base e z v n xs) : v.ownBlock ≠ some b := by
  intro q
  rcases ho.2 with ⟨rfl, _⟩ | ⟨g', c, cur, rfl, _, h3, _⟩
  · simp [Value.ownBlock] at q
  · have : g' = b := by simpa [Value.ownBlock] using q
    subst this
    obtain ⟨es, clock, h1, _⟩ := h
    rw [h3] at h1
    cases h1
theorem own_formV {w : World} {base n z : Nat} {e : TypeId} {v : Value} {xs : List Value} (h : w.ownsRow base e z v n xs) : ∃ A c, v = .slice A n c := by
  rcases h.2 with ⟨h, h0⟩ | ⟨g, c, cur, h, _⟩
  · exact ⟨_, _, by rw [h, h0]⟩
  · exact ⟨_, _, h⟩
def nmL (s t : ByteArray) (f : Int) : List Value := [.string s, .string t, pv f]
set_option maxRecDepth 100000 in
set_option maxHeartbeats 1600000 in
theorem name_yes {w : World} {g : Nat} {room : Int} {bn bf : Nat} {wv : Value} {left : Int} {off : Bool} (h : MedB w g room bn bf wv left off) (hl : left ≤ 9223372036854775807) (s t : ByteArray) (f : Int) (hf : f = -1 ∨ 0 ≤ f) (n k base : Nat) (D : DataW Unit) (xs : List Value)
    (hown : NM w bn n D) (hn : n ≤ 1000000) (hs : s.size ≤ maxLen) (ht : t.size ≤ maxLen) (hw : w.ownsRow base 214 3 wv k xs) (hk : k ≤ 1000000) (hbase : base ≤ w.heap.size) (he : (stepR left off).2.2 = 0) :
    Calls Tryz.prog 204 #[.pointer (some ⟨g, 0, none⟩), .agg #[.string s, .string t, pv f]] w fun e w' => e = .returned (.int .i64 0) ∧ ∃ wv', MedB w' g room bn bf wv' (stepR left off).1 (stepR left off).2.1 ∧ w'.ownsRow base 214 3 wv' (k + 1) (xs ++ nmL s t f) ∧ NM w' bn (n + 1) (nmDo D s t f) ∧ Chg w w' (fun x => x = g ∨ x = bn ∨ wv.ownBlock = some x) ∧ (wv'.ownBlock = wv.ownBlock ∨ ∃ j, wv'.ownBlock = some j ∧ w.heap.size ≤ j) := by
  obtain ⟨gc, hgc⟩ : ∃ gc, gc = w.heap.size := ⟨_, rfl⟩
  obtain ⟨w1, hw1⟩ : ∃ w1, w1 = w.alloc (.cells #[.string s, .string t, pv f] 214) := ⟨_, rfl⟩
  have S1 : Still w w1 := by rw [hw1]; exact (Still.refl w).alloc (Nat.le_refl _) _
  have B1 : Blk w1 gc 214 #[.string s, .string t, pv f] := by rw [hw1, hgc]; exact Blk.new _ _ _
  have M1 := h.still S1
  have ST := Lib.hid (step_yes M1 hl)
  rw [he] at ST
  obtain ⟨L2, hL2⟩ : ∃ L2, L2 = (stepR left off).1 := ⟨_, rfl⟩
  obtain ⟨O2, hO2⟩ : ∃ O2, O2 = (stepR left off).2.1 := ⟨_, rfl⟩
  rw [← hL2, ← hO2] at ST ⊢
  have hgw : g < w.heap.size := Blk.lt h
  have NE1 := Lib.hid (nm_ne hown h)
  have NE2 := Lib.hid (own_ne hw h (by decide))
  have NE3 := Lib.hid (nm_own_ne hown hw)
  have HN1 := Lib.hid ((Chg.of_still S1 (fun _ => False)).nm hown (fun h => h))
  have HR1 := Lib.hid ((Chg.of_still S1 (fun _ => False)).own hw (fun _ _ h => h))
  have HS1 := Lib.hid S1
  have HB1 := Lib.hid B1
  have HW1 := Lib.hid hw1
  have HGC := Lib.hid hgc
  have HGW := Lib.hid hgw
  have HBS := Lib.hid hbase
  have HOWN := Lib.hid (And.intro hown.lt (fun j (e : wv.ownBlock = some j) => (hw.lt j e).2))
  have HK := Lib.hid (And.intro hn hk)
  obtain ⟨p, hp⟩ : ∃ p, p = pa f := ⟨_, rfl⟩
  have hpv : pv f = .pointer p := by rw [hp]; rfl
  have HP := Lib.hid hpv
  have DO := Lib.hid (fun (W : World) (ho : NM W bn n D) => naming_do s t f hf bn n D W ho (by omega) hs ht)
  rw [hpv] at DO HW1 HB1 ⊢
  clear h hl hown hn hs ht hw hk hbase he S1 B1 M1 hw1 hgc hgw hL2 hO2 hp hpv
  go_enter Tryz.func204, Tryz.ntmps204
  go_wp2_with fail
  rw [← HW1.out, ← HGC.out]
  refine ST.out.mono ?_
  rintro e w2 ⟨rfl, m2, gr2⟩
  have S12 := Lib.hid (Chg.of_grown (S := fun x => x = g) gr2 (fun k e _ => by injection e with e; exact e.symm))
  have hgcg : gc ≠ g := by have := HGC.out; have := HGW.out; omega
  have B2 := Lib.hid (S12.out.blk HB1.out hgcg)
  have k0 : w2.cell? ⟨gc, 0, none⟩ = some (.string s) := Blk.cell B2.out 0
  have k1 : w2.cell? ⟨gc, 1, none⟩ = some (.string t) := Blk.cell B2.out 1
  have k2 : w2.cell? ⟨gc, 2, none⟩ = some (.pointer p) := Blk.cell B2.out 2
  have c1 : w2.cell? ⟨g, 1, none⟩ = some (.map (some bn)) := Blk.cell m2 1
  have M2 := Lib.hid m2
  have HG := Lib.hid hgcg
  have N2 := Lib.hid (S12.out.nm HN1.out NE1.out)
  have R2 := Lib.hid (S12.out.own HR1.out (fun k e q => NE2.out (q ▸ e)))
  clear ST m2 gr2 hgcg
  go_wp2_with fail
  go_still_tail 5, (by kernel_rfl)
  repeat still_step
  change wpList _ _ _ _ _ w2.drew
  obtain ⟨wd, hwd⟩ : ∃ wd, wd = w2.drew := ⟨_, rfl⟩
  have SD := Lib.hid (show Still w2 wd by rw [hwd]; exact (Still.refl _).drew)
  rw [← hwd]
  have DD := Lib.hid (DO.out wd ((Chg.of_still SD.out (fun _ => False)).nm N2.out (fun h => h)))
  clear hwd k0 k1 k2 c1 DO
  go_wp2_with fail
  refine DD.out.mono ?_
  rintro e w3 ⟨rfl, n3, gr3⟩
  have C3 := Lib.hid (Chg.of_grown (S := fun x => x = bn) gr3 (fun k e _ => by injection e with e; exact e.symm))
  have C2d := Lib.hid (Chg.of_still SD.out (fun _ => False))
  have B3 := Lib.hid (C3.out.blk (C2d.out.blk B2.out (fun h => h)) (fun e => by have := HGC.out; have := HOWN.out.1; omega))
  have M3 := Lib.hid (show MedB w3 g room bn bf wv L2 O2 from C3.out.blk (C2d.out.blk M2.out (fun h => h)) (fun e => NE1.out e.symm))
  have R3 := Lib.hid (C3.out.own (C2d.out.own R2.out (fun _ _ h => h)) (fun k e q => NE3.out (q ▸ e)))
  have N3 := Lib.hid n3
  have DE := Lib.hid (show Still w3 w3.drew from (Still.refl _).drew)
  obtain ⟨we, hwe⟩ : ∃ we, we = w3.drew := ⟨_, rfl⟩
  rw [← hwe] at DE
  have C3e := Lib.hid (Chg.of_still DE.out (fun _ => False))
  have Be := Lib.hid (C3e.out.blk B3.out (fun h => h))
  have Me := Lib.hid (show MedB we g room bn bf wv L2 O2 from C3e.out.blk M3.out (fun h => h))
  obtain ⟨w4, hw4⟩ : ∃ w4, w4 = we.alloc (.cells #[.string s, .string t, .pointer p] 214) := ⟨_, rfl⟩
  obtain ⟨g4, hg4⟩ : ∃ g4, g4 = we.heap.size := ⟨_, rfl⟩
  have S34 := Lib.hid (show Still w3 w4 by rw [hw4]; exact DE.out.trans ((Still.refl _).alloc (Nat.le_refl _) _))
  have B4 := Lib.hid (show Blk w4 g4 214 #[.string s, .string t, .pointer p] by rw [hw4, hg4]; exact Blk.new _ _ _)
  have C34 := Lib.hid (Chg.of_still S34.out (fun _ => False))
  have R4 := Lib.hid (C34.out.own R3.out (fun _ _ h => h))
  have M4 := Lib.hid (show MedB w4 g room bn bf wv L2 O2 from C34.out.blk M3.out (fun h => h))
  have HW4 := Lib.hid hw4
  have HG4 := Lib.hid hg4
  have SZ := Lib.hid (show w.heap.size ≤ w4.heap.size from Nat.le_trans HS1.out.size (Nat.le_trans S12.out.size (Nat.le_trans C2d.out.size (Nat.le_trans C3.out.size C34.out.size))))
  have GC4 := Lib.hid (show ∀ q u, ([.string s, .string t, .pointer p] : List Value)[q]? = some u → w4.cell? ⟨g4, q, none⟩ = some u from fun q u hq => (Blk.cell B4.out q).trans (by simpa using hq))
  have ONE := Lib.hid (show ∀ u ∈ ([.string s, .string t, .pointer p] : List Value), u.oneCell' = true by
    intro u hu
    simp only [List.mem_cons, List.not_mem_nil, or_false] at hu
    rcases hu with rfl | rfl | rfl <;> rfl)
  have HK6 := Lib.hid (show k ≤ 1048576 by have := HK.out; omega)
  have HBS4 := Lib.hid (Nat.le_trans HBS.out SZ.out)
  have FINAL := Lib.hid (show ∀ v5 w5, w5.ownsRow base 214 3 v5 (k + 1) (xs ++ [.string s, .string t, .pointer p]) → w4.grownBy w5 wv.ownBlock → (v5.ownBlock = wv.ownBlock ∨ v5.ownBlock = some w4.heap.size) → w5.cell? ⟨g, 3, none⟩ = some wv ∧ w5.frozen? ⟨g, 3, none⟩ = false ∧ (∃ wv', MedB (w5.setCell ⟨g, 3, none⟩ v5) g room bn bf wv' L2 O2 ∧ (w5.setCell ⟨g, 3, none⟩ v5).ownsRow base 214 3 wv' (k + 1) (xs ++ nmL s t f) ∧ NM (w5.setCell ⟨g, 3, none⟩ v5) bn (n + 1) (nmDo D s t f) ∧ Chg w (w5.setCell ⟨g, 3, none⟩ v5) (fun x => x = g ∨ x = bn ∨ wv.ownBlock = some x) ∧ (wv'.ownBlock = wv.ownBlock ∨ ∃ j, wv'.ownBlock = some j ∧ w.heap.size ≤ j)) by
    intro v5 w5 r5 gr5 loc5
    have C45 := Chg.of_grown (S := fun x => wv.ownBlock = some x) gr5 (fun k e _ => e)
    have M5 : MedB w5 g room bn bf wv L2 O2 := C45.blk M4.out (fun e => NE2.out e)
    have N5 : NM w5 bn (n + 1) (nmDo D s t f) := C45.nm (C34.out.nm N3.out (fun h => h)) (fun e => NE3.out e)
    have C56 := Chg.of_grown (S := fun x => x = g) (grownBy_set w5 g 3 v5) (fun k e _ => by injection e with e; exact e.symm)
    have NEV : v5.ownBlock ≠ some g := own_ne r5 M5 (by decide)
    refine ⟨Blk.cell M5 3, Blk.frozen M5 3, v5, M5.setwait v5, ?_, C56.nm N5 NE1.out, ?_, ?_⟩
    · have h := C56.own r5 (fun k e q => NEV (q ▸ e))
      unfold nmL
      rw [HP.out]
      exact h
    · have a1 := Chg.trans (S := fun x => x = g ∨ x = bn ∨ wv.ownBlock = some x) (Chg.of_still HS1.out _) S12.out (fun x _ h => .inl h)
      have a2 := Chg.trans a1 C2d.out (fun x _ h => h.elim)
      have a3 := Chg.trans a2 C3.out (fun x _ h => .inr (.inl h))
      have a4 := Chg.trans a3 C34.out (fun x _ h => h.elim)
      have a5 := Chg.trans a4 C45 (fun x _ h => .inr (.inr h))
      exact Chg.trans a5 C56 (fun x _ h => .inl h)
    · rcases loc5 with h | h
      · exact .inl h
      · exact .inr ⟨_, h, SZ.out⟩)
  have k0 : we.cell? ⟨gc, 0, none⟩ = some (.string s) := Blk.cell Be.out 0
  have k1 : we.cell? ⟨gc, 1, none⟩ = some (.string t) := Blk.cell Be.out 1
  have k2 : we.cell? ⟨gc, 2, none⟩ = some (.pointer p) := Blk.cell Be.out 2
  have c3 : we.cell? ⟨g, 3, none⟩ = some wv := Blk.cell Me.out 3
  have c4 : w4.cell? ⟨g, 3, none⟩ = some wv := Blk.cell M4.out 3
  have HWE := Lib.hid hwe
  clear n3 gr3 DD hwe hw4 hg4
  go_upto_region 5 with fail
  go_cut [5] (fun ev wx => ev = .int .i64 0 ∧ ∃ wv', MedB wx g room bn bf wv' L2 O2 ∧ wx.ownsRow base 214 3 wv' (k + 1) (xs ++ nmL s t f) ∧ NM wx bn (n + 1) (nmDo D s t f) ∧ Chg w wx (fun x => x = g ∨ x = bn ∨ wv.ownBlock = some x) ∧ (wv'.ownBlock = wv.ownBlock ∨ ∃ j, wv'.ownBlock = some j ∧ w.heap.size ≤ j))
  case first =>
    refine wp_region_any (by kernel_rfl) ?_
    change wpAny _ _ _ _ _ _ _ w3.drew
    rw [← HWE.out]
    try simp only [Act.put, List.setIfInBounds_toArray, List.set_cons_zero, List.set_cons_succ]
    refine wpAny_take (i := 0) (v := .pointer (some ⟨g, 0, none⟩)) rfl (by kernel_rfl) (by kernel_rfl) (by kernel_rfl) (fun _ _ _ h => h) (Or.inl ⟨by kernel_rfl, fun w => by go_simp⟩) ?_
    try simp only [Act.put, List.setIfInBounds_toArray, List.set_cons_zero, List.set_cons_succ]
    refine wpAny_take (i := 1) (v := .pointer (some ⟨g, 0, none⟩)) rfl (by kernel_rfl) (by kernel_rfl) (by kernel_rfl) (fun _ _ _ h => h) (Or.inl ⟨by kernel_rfl, fun w => by go_simp⟩) ?_
    try simp only [Act.put, List.setIfInBounds_toArray, List.set_cons_zero, List.set_cons_succ]
    refine wpAny_take (i := 2) (v := .pointer (some ⟨g, 0, none⟩)) rfl (by kernel_rfl) (by kernel_rfl) (by kernel_rfl) (fun _ _ _ h => h) (Or.inl ⟨by kernel_rfl, fun w => by go_simp⟩) ?_
    try simp only [Act.put, List.setIfInBounds_toArray, List.set_cons_zero, List.set_cons_succ]
    refine wpAny_take (i := 3) (v := .pointer (some ⟨g, 3, none⟩)) rfl (by kernel_rfl) (by kernel_rfl) (by kernel_rfl) (fun _ _ _ h => h) (Or.inl ⟨by kernel_rfl, fun w => by go_simp⟩) ?_
    try simp only [Act.put, List.setIfInBounds_toArray, List.set_cons_zero, List.set_cons_succ]
    refine wpAny_ready (rs := [4, 5]) (by kernel_rfl) (by simp) ?_
    refine AllReady.cons (o := ⟨some 21, .load 134 (.tmp 20), _, _, _, none⟩) rfl (fun K' hK' => ?_) (AllReady.cons (o := ⟨some 22, .load 214 (.tmp 3), _, _, _, none⟩) rfl (fun K' hK' => ?_) AllReady.nil)
    · have HK' := Lib.hid hK'
      clear hK'
      rw [if_pos (by kernel_rfl)]
      go_simp
      refine HK'.out _ _ ?_
      clear HK' K'
      try simp only [Act.put, List.setIfInBounds_toArray, List.set_cons_zero, List.set_cons_succ]
      refine wpAny_ready (rs := [5]) (by kernel_rfl) (by simp) ?_
      refine AllReady.cons (o := ⟨some 22, .load 214 (.tmp 3), _, _, _, none⟩) rfl (fun K' hK' => ?_) AllReady.nil
      have HK' := Lib.hid hK'
      clear hK'
      rw [if_pos (by kernel_rfl)]
      go_simp
      refine HK'.out _ _ ?_
      clear HK' K'
      try simp only [Act.put, List.setIfInBounds_toArray, List.set_cons_zero, List.set_cons_succ]
      refine wpAny_ready (rs := [6]) (by kernel_rfl) (by simp) ?_
      refine AllReady.cons (o := ⟨some 23, .buildSlice 134 1 #[(0, .tmp 22)], _, _, _, none⟩) rfl (fun K' hK' => ?_) AllReady.nil
      have HK' := Lib.hid hK'
      clear hK'
      rw [if_pos (by kernel_rfl)]
      with_reducible refine step_boxNm we (.tmp 22) (by kernel_rfl) s t p (by kernel_rfl) ?_
      rw [← HW4.out, ← HG4.out]
      refine HK'.out _ _ ?_
      clear HK' K'
      try simp only [Act.put, List.setIfInBounds_toArray, List.set_cons_zero, List.set_cons_succ]
      refine wpAny_ready (rs := [7]) (by kernel_rfl) (by simp) ?_
      refine AllReady.cons (o := ⟨some 24, .call { callee := .builtin .append, args := #[.tmp 21, .tmp 23], argTypes := #[134, 134] }, _, _, _, none⟩) rfl (fun K' hK' => ?_) AllReady.nil
      have HK' := Lib.hid hK'
      clear hK'
      rw [if_pos (by kernel_rfl)]
      with_reducible refine step_pushNm w4 (.tmp 21) (.tmp 23) (by kernel_rfl) base wv k xs (by kernel_rfl) R4.out g4 [.string s, .string t, .pointer p] (by kernel_rfl) GC4.out rfl ONE.out HK6.out HBS4.out ?_
      intro v5 w5 r5 gr5 loc5
      refine HK'.out _ _ ?_
      clear HK' K'
      obtain ⟨d3, f3, FIN⟩ := FINAL.out v5 w5 r5 gr5 loc5
      obtain ⟨A5, c5, rfl⟩ := own_formV r5
      clear r5 gr5 loc5
      try simp only [Act.put, List.setIfInBounds_toArray, List.set_cons_zero, List.set_cons_succ]
      refine wpAny_take (i := 8) (v := .pointer (some ⟨g, 0, none⟩)) rfl (by kernel_rfl) (by kernel_rfl) (by kernel_rfl) (fun _ _ _ h => h) (Or.inl ⟨by kernel_rfl, fun w => by go_simp⟩) ?_
      try simp only [Act.put, List.setIfInBounds_toArray, List.set_cons_zero, List.set_cons_succ]
      refine wpAny_take (i := 9) (v := .pointer (some ⟨g, 3, none⟩)) rfl (by kernel_rfl) (by kernel_rfl) (by kernel_rfl) (fun _ _ _ h => h) (Or.inl ⟨by kernel_rfl, fun w => by go_simp⟩) ?_
      try simp only [Act.put, List.setIfInBounds_toArray, List.set_cons_zero, List.set_cons_succ]
      refine wpAny_ready (rs := [10]) (by kernel_rfl) (by simp) ?_
      refine AllReady.cons (o := ⟨none, .store 134 (.tmp 26) (.tmp 24), _, _, _, none⟩) rfl (fun K' hK' => ?_) AllReady.nil
      have HK' := Lib.hid hK'
      clear hK'
      rw [if_pos (by kernel_rfl)]
      go_simp
      refine HK'.out _ _ ?_
      clear HK' K'
      try simp only [Act.put, List.setIfInBounds_toArray, List.set_cons_zero, List.set_cons_succ]
      refine wpAny_done (by kernel_rfl) ?_ _
      go_simp
      go_wp2_with fail
      go_meet
      exact ⟨rfl, FIN⟩
    · have HK' := Lib.hid hK'
      clear hK'
      rw [if_pos (by kernel_rfl)]
      go_simp
      refine HK'.out _ _ ?_
      clear HK' K'
      try simp only [Act.put, List.setIfInBounds_toArray, List.set_cons_zero, List.set_cons_succ]
      refine wpAny_ready (rs := [4, 6]) (by kernel_rfl) (by simp) ?_
      refine AllReady.cons (o := ⟨some 21, .load 134 (.tmp 20), _, _, _, none⟩) rfl (fun K' hK' => ?_) (AllReady.cons (o := ⟨some 23, .buildSlice 134 1 #[(0, .tmp 22)], _, _, _, none⟩) rfl (fun K' hK' => ?_) AllReady.nil)
      · have HK' := Lib.hid hK'
        clear hK'
        rw [if_pos (by kernel_rfl)]
        go_simp
        refine HK'.out _ _ ?_
        clear HK' K'
        try simp only [Act.put, List.setIfInBounds_toArray, List.set_cons_zero, List.set_cons_succ]
        refine wpAny_ready (rs := [6]) (by kernel_rfl) (by simp) ?_
        refine AllReady.cons (o := ⟨some 23, .buildSlice 134 1 #[(0, .tmp 22)], _, _, _, none⟩) rfl (fun K' hK' => ?_) AllReady.nil
        have HK' := Lib.hid hK'
        clear hK'
        rw [if_pos (by kernel_rfl)]
        with_reducible refine step_boxNm we (.tmp 22) (by kernel_rfl) s t p (by kernel_rfl) ?_
        rw [← HW4.out, ← HG4.out]
        refine HK'.out _ _ ?_
        clear HK' K'
        try simp only [Act.put, List.setIfInBounds_toArray, List.set_cons_zero, List.set_cons_succ]
        refine wpAny_ready (rs := [7]) (by kernel_rfl) (by simp) ?_
        refine AllReady.cons (o := ⟨some 24, .call { callee := .builtin .append, args := #[.tmp 21, .tmp 23], argTypes := #[134, 134] }, _, _, _, none⟩) rfl (fun K' hK' => ?_) AllReady.nil
        have HK' := Lib.hid hK'
        clear hK'
        rw [if_pos (by kernel_rfl)]
        with_reducible refine step_pushNm w4 (.tmp 21) (.tmp 23) (by kernel_rfl) base wv k xs (by kernel_rfl) R4.out g4 [.string s, .string t, .pointer p] (by kernel_rfl) GC4.out rfl ONE.out HK6.out HBS4.out ?_
        intro v5 w5 r5 gr5 loc5
        refine HK'.out _ _ ?_
        clear HK' K'
        obtain ⟨d3, f3, FIN⟩ := FINAL.out v5 w5 r5 gr5 loc5
        obtain ⟨A5, c5, rfl⟩ := own_formV r5
        clear r5 gr5 loc5
        try simp only [Act.put, List.setIfInBounds_toArray, List.set_cons_zero, List.set_cons_succ]
        refine wpAny_take (i := 8) (v := .pointer (some ⟨g, 0, none⟩)) rfl (by kernel_rfl) (by kernel_rfl) (by kernel_rfl) (fun _ _ _ h => h) (Or.inl ⟨by kernel_rfl, fun w => by go_simp⟩) ?_
        try simp only [Act.put, List.setIfInBounds_toArray, List.set_cons_zero, List.set_cons_succ]
        refine wpAny_take (i := 9) (v := .pointer (some ⟨g, 3, none⟩)) rfl (by kernel_rfl) (by kernel_rfl) (by kernel_rfl) (fun _ _ _ h => h) (Or.inl ⟨by kernel_rfl, fun w => by go_simp⟩) ?_
        try simp only [Act.put, List.setIfInBounds_toArray, List.set_cons_zero, List.set_cons_succ]
        refine wpAny_ready (rs := [10]) (by kernel_rfl) (by simp) ?_
        refine AllReady.cons (o := ⟨none, .store 134 (.tmp 26) (.tmp 24), _, _, _, none⟩) rfl (fun K' hK' => ?_) AllReady.nil
        have HK' := Lib.hid hK'
        clear hK'
        rw [if_pos (by kernel_rfl)]
        go_simp
        refine HK'.out _ _ ?_
        clear HK' K'
        try simp only [Act.put, List.setIfInBounds_toArray, List.set_cons_zero, List.set_cons_succ]
        refine wpAny_done (by kernel_rfl) ?_ _
        go_simp
        go_wp2_with fail
        go_meet
        exact ⟨rfl, FIN⟩
      · have HK' := Lib.hid hK'
        clear hK'
        rw [if_pos (by kernel_rfl)]
        with_reducible refine step_boxNm we (.tmp 22) (by kernel_rfl) s t p (by kernel_rfl) ?_
        rw [← HW4.out, ← HG4.out]
        refine HK'.out _ _ ?_
        clear HK' K'
        try simp only [Act.put, List.setIfInBounds_toArray, List.set_cons_zero, List.set_cons_succ]
        refine wpAny_ready (rs := [4]) (by kernel_rfl) (by simp) ?_
        refine AllReady.cons (o := ⟨some 21, .load 134 (.tmp 20), _, _, _, none⟩) rfl (fun K' hK' => ?_) AllReady.nil
        have HK' := Lib.hid hK'
        clear hK'
        rw [if_pos (by kernel_rfl)]
        go_simp
        refine HK'.out _ _ ?_
        clear HK' K'
        try simp only [Act.put, List.setIfInBounds_toArray, List.set_cons_zero, List.set_cons_succ]
        refine wpAny_ready (rs := [7]) (by kernel_rfl) (by simp) ?_
        refine AllReady.cons (o := ⟨some 24, .call { callee := .builtin .append, args := #[.tmp 21, .tmp 23], argTypes := #[134, 134] }, _, _, _, none⟩) rfl (fun K' hK' => ?_) AllReady.nil
        have HK' := Lib.hid hK'
        clear hK'
        rw [if_pos (by kernel_rfl)]
        with_reducible refine step_pushNm w4 (.tmp 21) (.tmp 23) (by kernel_rfl) base wv k xs (by kernel_rfl) R4.out g4 [.string s, .string t, .pointer p] (by kernel_rfl) GC4.out rfl ONE.out HK6.out HBS4.out ?_
        intro v5 w5 r5 gr5 loc5
        refine HK'.out _ _ ?_
        clear HK' K'
        obtain ⟨d3, f3, FIN⟩ := FINAL.out v5 w5 r5 gr5 loc5
        obtain ⟨A5, c5, rfl⟩ := own_formV r5
        clear r5 gr5 loc5
        try simp only [Act.put, List.setIfInBounds_toArray, List.set_cons_zero, List.set_cons_succ]
        refine wpAny_take (i := 8) (v := .pointer (some ⟨g, 0, none⟩)) rfl (by kernel_rfl) (by kernel_rfl) (by kernel_rfl) (fun _ _ _ h => h) (Or.inl ⟨by kernel_rfl, fun w => by go_simp⟩) ?_
        try simp only [Act.put, List.setIfInBounds_toArray, List.set_cons_zero, List.set_cons_succ]
        refine wpAny_take (i := 9) (v := .pointer (some ⟨g, 3, none⟩)) rfl (by kernel_rfl) (by kernel_rfl) (by kernel_rfl) (fun _ _ _ h => h) (Or.inl ⟨by kernel_rfl, fun w => by go_simp⟩) ?_
        try simp only [Act.put, List.setIfInBounds_toArray, List.set_cons_zero, List.set_cons_succ]
        refine wpAny_ready (rs := [10]) (by kernel_rfl) (by simp) ?_
        refine AllReady.cons (o := ⟨none, .store 134 (.tmp 26) (.tmp 24), _, _, _, none⟩) rfl (fun K' hK' => ?_) AllReady.nil
        have HK' := Lib.hid hK'
        clear hK'
        rw [if_pos (by kernel_rfl)]
        go_simp
        refine HK'.out _ _ ?_
        clear HK' K'
        try simp only [Act.put, List.setIfInBounds_toArray, List.set_cons_zero, List.set_cons_succ]
        refine wpAny_done (by kernel_rfl) ?_ _
        go_simp
        go_wp2_with fail
        go_meet
        exact ⟨rfl, FIN⟩
  case rest =>
    obtain ⟨rfl, wv', hh⟩ := hcut
    have HH := Lib.hid hh
    clear hh
    go_wp2_with fail
    go_ret
    exact ⟨rfl, wv', HH.out⟩
end Go.Proofs.YtblgphfdicffcaaGreatDoor

/- 'append(b, c...)', told where the row lies behind it. It proves no statement. -/

namespace Go.Proofs.YtblgphfdicffcaaGreatDoor
open Go.RowKit
set_option linter.unusedVariables false

theorem run_adds_at (w : World) (ty : TypeId) (base : Nat) (v : Value) (n : Nat) (l : List UInt8) (hown : w.ownsRow base 5 1 v n (bytesV l)) (A : Option Addr) (n' c' : Nat) (B : Nat) (l' : List UInt8)
    (hr : Reads w B A n' l') (hA : A = none → c' = 0) (hn : n + n' ≤ 140737488355328) (hbase : base ≤ w.heap.size) :
    ∃ v' w', (Builtin.append_ #[34, 34] ty #[v, .slice A n' c']).run Tryz.prog w = .ok v' w' ∧ w'.ownsRow base 5 1 v' (n + n') (bytesV (l ++ l')) ∧ w.grownBy w' v.ownBlock ∧ (v'.ownBlock = v.ownBlock ∨ v'.ownBlock = some w.heap.size) := by
  obtain ⟨i0, hi, hz0, hz1, hz2⟩ := info_parts Tryz.infoByte
  rcases A with _ | ad
  · have h0 : n' = 0 := by
      rcases Nat.eq_zero_or_pos n' with h0 | h0
      · exact h0
      · obtain ⟨_, _, e, _⟩ := hr.2 h0
        cases e
    subst h0
    have hl : l' = [] := List.eq_nil_of_length_eq_zero hr.1
    subst hl
    obtain rfl := hA rfl
    exact ⟨v, w, run_append_owned_none (P := Tryz.prog) w base 34 ty 5 i0 1 Tryz.underlying34 hi v n _ hown, by simpa using hown, World.grownBy.refl _ _, .inl rfl⟩
  · have hnews : ∀ j u, (bytesV l')[j]? = some u → w.cell? (ad.add j) = some u := by
      intro j u hu
      rcases Nat.eq_zero_or_pos n' with h0 | h0
      · subst h0
        have hl : l' = [] := List.eq_nil_of_length_eq_zero hr.1
        subst hl
        simp [bytesV] at hu
      · exact hr.news ad rfl h0 j u hu
    obtain ⟨v', w', hrun, h2, h3, _, h5⟩ := run_append_own_at (P := Tryz.prog) w base 34 ty 5 i0 (.int .u8 0) 1 1 Tryz.underlying34 hi hz0 hz1 hz2 rfl (by decide) v n _ hown ad n' c' (bytesV l') (by rw [bytesV_length, hr.1]; omega) hnews (bytesV_one _) (by unfold maxLen; omega) (by omega) hbase
    rw [← bytesV_append] at h2
    exact ⟨v', w', hrun, h2, h3, h5⟩
theorem wpList_adds_at (w : World) {ops : Array Oper} {rest : List Oper} {o : Oper} {a : Act} {Q : Exit → Act → World → Prop} (hgd : o.guard = none) (s x : Operand)
    (ho : o.op = .call { callee := .builtin .append, args := #[s, x], argTypes := #[34, 34] })
    (base : Nat) (v : Value) (n : Nat) (l : List UInt8) (hs : a.eval s = v) (hown : w.ownsRow base 5 1 v n (bytesV l)) (A : Option Addr) (n' c' : Nat) (B : Nat) (l' : List UInt8)
    (hx : a.eval x = .slice A n' c') (hr : Reads w B A n' l') (hA : A = none → c' = 0) (hn : n + n' ≤ 140737488355328) (hbase : base ≤ w.heap.size)
    (h : ∀ v' w', w'.ownsRow base 5 1 v' (n + n') (bytesV (l ++ l')) → w.grownBy w' v.ownBlock → (v'.ownBlock = v.ownBlock ∨ v'.ownBlock = some w.heap.size) → wpList Tryz.prog ops Q rest (a.put o.dst v') w') :
    wpList Tryz.prog ops Q (o :: rest) a w := by
  refine wpList_plain hgd fun K hK => ?_
  obtain ⟨v', w', hrun, h2, h3, h4⟩ := run_adds_at w o.type base v n l hown A n' c' B l' hr hA hn hbase
  unfold Oper.wp execOp
  simp only [ho, resolve, invoke, builtin, Sem.run_bind, Sem.run_pure, Result.andThen_ok, List.map_toArray, List.map_cons, List.map_nil, hs, hx, hrun]
  exact hK _ _ (h v' w' h2 h3 h4)
end Go.Proofs.YtblgphfdicffcaaGreatDoor

/- Contracts: find, bytes.Clone, an Append's change done. It proves no statement. -/



namespace Go.Proofs.YtblgphfdicffcaaGreatDoor
open Go.RowKit Go.Maps Go.WideMaps
set_option linter.unusedVariables false
set_option linter.unusedSimpArgs false

def findE (off : Bool) (f : Int) : Int := if off = true then 12 else if f < 0 then 9 else 0
def findV (off : Bool) (f : Int) : Value := if off = true then .pointer none else pv f
theorem look_cases {w : World} {b n : Nat} {D : DataW Unit} (hown : NM w b n D) (s : ByteArray) (hs : s.size ≤ maxLen) : look D s = -1 ∨ 0 ≤ look D s := by
  obtain ⟨v, ps, hrun, hv⟩ := hown.lookup mapLaw underNames (zeroPtr w) ptrElem_nil (key_of s hs)
  obtain ⟨f, hf, rfl, hz⟩ := ptrElem_inv hv
  have hl : look D s = f := by
    unfold look
    have := congrArg Prod.fst hz
    simp only at this
    rw [this]
    rfl
  rw [hl]
  exact hf
set_option maxRecDepth 100000 in
set_option maxHeartbeats 1600000 in
theorem find_yes {w : World} {g : Nat} {room : Int} {bn bf : Nat} {wv : Value} {left : Int} {off : Bool} (h : MedB w g room bn bf wv left off) (s : ByteArray) (n : Nat) (D : DataW Unit) (hown : NM w bn n D) (hs : s.size ≤ maxLen) :
    Calls Tryz.prog 117 #[.pointer (some ⟨g, 0, none⟩), .string s] w fun e w' => e = .returned (.tuple #[findV off (look D s), .int .i64 (findE off (look D s))]) ∧ w = w' := by
  have WK := Lib.hid (works_yes h)
  have c1 : w.cell? ⟨g, 1, none⟩ = some (.map (some bn)) := Blk.cell h 1
  have HO := Lib.hid hown
  have HS := Lib.hid hs
  have LC := Lib.hid (look_cases hown s hs)
  clear h hown hs
  cases off
  · have e1 : findV false (look D s) = pv (look D s) := rfl
    have e2 : findE false (look D s) = if look D s < 0 then 9 else 0 := rfl
    rw [e1, e2]
    rw [show (if false = true then (12 : Int) else 0) = 0 from rfl] at WK
    clear e1 e2
    obtain ⟨fl, hfl⟩ : ∃ fl, fl = look D s := ⟨_, rfl⟩
    rw [← hfl] at LC ⊢
    have HFL := Lib.hid hfl.symm
    clear hfl
    rcases LC.out with rfl | hlk
    all_goals (clear LC)
    · rw [pv_nil, if_pos (by decide)]
      go_enter Tryz.func117, Tryz.ntmps117
      go_wp2_with fail
      refine WK.out.mono ?_
      rintro e w2 ⟨rfl, rfl⟩
      go_wp2_with (at_lookup; go_must (refine wpList_look rfl (.tmp 16) (.tmp 17) rfl bn n D rfl HO.out s rfl HS.out ?_; intro f hf hlk; rw [HFL.out] at hlk; subst hlk; rw [pv_nil]; clear hf))
      go_ret2
      exact ⟨rfl, rfl⟩
    · obtain ⟨m, rfl⟩ := Int.eq_ofNat_of_zero_le hlk
      rw [pv_at, if_neg (by omega)]
      clear hlk
      go_enter Tryz.func117, Tryz.ntmps117
      go_wp2_with fail
      refine WK.out.mono ?_
      rintro e w2 ⟨rfl, rfl⟩
      go_wp2_with (at_lookup; go_must (refine wpList_look rfl (.tmp 16) (.tmp 17) rfl bn n D rfl HO.out s rfl HS.out ?_; intro f hf hlk; rw [HFL.out] at hlk; subst hlk; rw [pv_at]; clear hf))
      go_ret2
      exact ⟨rfl, rfl⟩
  · go_enter Tryz.func117, Tryz.ntmps117
    go_wp2_with fail
    refine WK.out.mono ?_
    rintro e w2 ⟨rfl, rfl⟩
    go_wp2_with fail
    go_ret2
    exact ⟨rfl, rfl⟩

set_option maxHeartbeats 400000 in
theorem bclone_any (A : Option Addr) (n c : Nat) (l : List UInt8) (w : World) (B : Nat) (h : Reads w B A n l) (hB : B ≤ w.heap.size) (hn : n ≤ 70368744177664) (hA : A = none → n = 0 ∧ c = 0) :
    Calls Tryz.prog 118 #[.slice A n c] w fun e w' => (∃ v, e = .returned v ∧ w'.ownsRow w.heap.size 5 1 v n (bytesV l)) ∧ Still w w' := by
  rcases A with _ | ad
  · obtain ⟨rfl, rfl⟩ := hA rfl
    have hl : l = [] := List.eq_nil_of_length_eq_zero h.1
    subst hl
    have hk : ∀ w : World, (binOp .eql 34 (.slice none 0 0) (.slice none 0 0)).run Tryz.prog w = .ok (.bool true) w := fun w => Lib.run_eql_slice_nil w _ _ none 0 0 0 0 Tryz.underlying34
    go_enter Tryz.func118, Tryz.ntmps118
    go_wp2
    go_ret
    exact ⟨⟨_, rfl, World.ownsRow_nil _ _ _ _⟩, Below.refl _ _⟩
  · have r1 : Reads (w.alloc (.cells #[] 5)) B (some ad) n l := h.keep fun p hp => World.cell?_alloc_lt w _ p (by omega)
    have o1 : (w.alloc (.cells #[] 5)).ownsRow w.heap.size 5 1 (.slice (some ⟨w.heap.size, 0, none⟩) 0 0) 0 (bytesV []) := World.ownsRow_made w #[] 0 (Nat.le_refl _) (by unfold maxLen; omega) rfl
    have s1 : Still w (w.alloc (.cells #[] 5)) := (Below.refl _ _).alloc (Nat.le_refl _) _
    have hk : ∀ w : World, (binOp .eql 34 (.slice (some ad) n c) (.slice none 0 0)).run Tryz.prog w = .ok (.bool false) w := fun w => Lib.run_eql_slice_nil w _ _ (some ad) n c 0 0 Tryz.underlying34
    go_enter Tryz.func118, Tryz.ntmps118
    go_wp2_with (at_builtin; go_must (refine wpList_adds _ rfl _ _ rfl w.heap.size _ 0 [] rfl o1 _ n c B l rfl r1 (fun e => by cases e) ?c1 ?c2 ?_))
    case c1 => omega
    case c2 => simp
    intro v' w' hown hg _
    have hst : Still w w' := s1.grown hg (by simp) (fun k hk => by simp [Value.ownBlock] at hk; omega)
    have hown' : w'.ownsRow w.heap.size 5 1 v' n (bytesV l) := by simpa using hown
    clear hg hown
    go_wp2_with fail
    go_ret
    exact ⟨⟨_, rfl, hown'⟩, hst⟩


set_option maxRecDepth 100000 in
set_option maxHeartbeats 1600000 in
/-- An Append's change: the bytes are laid behind a file's own. -/
theorem change_add (v : Value) (base n : Nat) (l : List UInt8) (A : Option Addr) (m c : Nat) (x : List UInt8) (w : World) (B : Nat) (hown : w.ownsRow base 5 1 v n (bytesV l)) (hbase : base ≤ w.heap.size) (hr : Reads w B A m x) (hB : B ≤ w.heap.size) (hA : A = none → c = 0) (hn : n + m ≤ 100000000) :
    Calls Tryz.prog 189 #[.agg #[.int .i64 n, .slice A m c], v] w fun e w' => ∃ v', e = .returned v' ∧ w'.ownsRow base 5 1 v' (n + m) (bytesV (l ++ x)) ∧ w.grownBy w' v.ownBlock ∧ (v'.ownBlock = v.ownBlock ∨ ∃ j, v'.ownBlock = some j ∧ w.heap.size ≤ j) := by
  obtain ⟨Av, cv, rfl, f1, f2, f3⟩ := own_form hown
  obtain ⟨w1, hw1⟩ : ∃ w1, w1 = w.alloc (.cells #[.int .i64 n, .slice A m c] 218) := ⟨_, rfl⟩
  obtain ⟨g1, hg1⟩ : ∃ g1, g1 = w.heap.size := ⟨_, rfl⟩
  have S1 := Lib.hid (show Still w w1.drew by rw [hw1]; exact ((Still.refl w).alloc (Nat.le_refl _) _).drew)
  have O1 := Lib.hid (show w1.drew.ownsRow base 5 1 (.slice Av n cv) n (bytesV l) from own_still hown S1.out)
  have R1 := Lib.hid (hr.still hB S1.out)
  have B1 := Lib.hid (show Blk w1 g1 218 #[.int .i64 n, .slice A m c] by rw [hw1, hg1]; exact Blk.new _ _ _)
  have k0 : w1.cell? ⟨g1, 0, none⟩ = some (.int .i64 n) := Blk.cell B1.out 0
  have k1 : w1.cell? ⟨g1, 1, none⟩ = some (.slice A m c) := Blk.cell B1.out 1
  have HW1 := Lib.hid hw1
  have HG1 := Lib.hid hg1
  have HA := Lib.hid hA
  have HBS := Lib.hid (Nat.le_trans hbase S1.out.size)
  have HN := Lib.hid hn
  have F := Lib.hid (And.intro f1 f2)
  clear hown hbase hr hB hA hw1 hg1 f3
  go_enter Tryz.func189, Tryz.ntmps189
  go_wp2_with fail
  rw [← HW1.out, ← HG1.out]
  go_still_tail 6, (by kernel_rfl)
  repeat still_step
  change wpList _ _ _ _ _ w1.drew
  go_wp2_with (at_builtin; go_must (refine wpList_adds_at w1.drew rfl (.tmp 8) (.tmp 10) rfl base (.slice Av n cv) n l rfl O1.out A m c B x rfl R1.out HA.out ?c1 HBS.out ?_))
  case c1 => have := HN.out; omega
  intro v2 w2 own2 gr2 loc2
  have OW2 := Lib.hid own2
  have GR2 := Lib.hid (show w.grownBy w2 (Value.slice Av n cv).ownBlock from ⟨gr2.os.trans S1.out.os, gr2.tape.trans S1.out.tape, gr2.output.trans S1.out.output, Nat.le_trans S1.out.size gr2.size, fun k hk hne => (gr2.block k (Nat.lt_of_lt_of_le hk S1.out.size) hne).trans (S1.out.block k hk)⟩)
  have LO2 := Lib.hid (show v2.ownBlock = (Value.slice Av n cv).ownBlock ∨ ∃ j, v2.ownBlock = some j ∧ w.heap.size ≤ j from by
    rcases loc2 with h | h
    · exact .inl h
    · exact .inr ⟨_, h, S1.out.size⟩)
  clear own2 gr2 loc2
  go_wp2_with fail
  go_ret
  exact ⟨_, rfl, OW2.out, GR2.out, LO2.out⟩
end Go.Proofs.YtblgphfdicffcaaGreatDoor

/- Contracts: names, room, works and step of a medium. It proves no statement. -/



namespace Go.Proofs.YtblgphfdicffcaaGreatDoor
open Go.RowKit Go.Maps Go.WideMaps
set_option linter.unusedVariables false
set_option linter.unusedSimpArgs false

theorem index_textM (s : ByteArray) (w : World) (k : Nat) (h : k < s.size) : (Instr.index 9 (.string s) (.int .i64 (k : Int))).run Tryz.prog w = .ok (.int .u8 ((s.data.toList.getD k 0).toNat : Int)) w := by
  rw [run_index_string w 9 s .i64 (k : Int) (by kernel_rfl), dif_pos ⟨by omega, by omega⟩]
  congr 3
  simp only [List.getD, Array.getElem?_toList]
  rw [Array.getElem?_eq_getElem (show k < s.data.size from h)]
  rfl
/-- A byte of a name. -/
def inNm (c : Nat) : Bool := decide ((97 ≤ c ∧ c ≤ 122) ∨ (48 ≤ c ∧ c ≤ 57) ∨ c = 46 ∨ c = 45)
def nmOK (l : List UInt8) : Bool := decide (1 ≤ l.length ∧ l.length ≤ 24) && l.all (fun c => inNm c.toNat)
set_option maxRecDepth 100000 in
set_option maxHeartbeats 800000 in
theorem inName_any (c : Nat) (hc : c < 256) (w : World) : Calls Tryz.prog 250 #[.int .u8 (c : Int)] w fun e w' => e = .returned (.bool (inNm c)) ∧ w = w' := by
  by_cases a1 : 97 ≤ c
  · by_cases a2 : c ≤ 122
    · have E := Lib.hid (show inNm c = true by unfold inNm; exact decide_eq_true (by omega))
      go_enter Tryz.func250, Tryz.ntmps250
      go_wp2_with fail
      go_ret
      exact ⟨by rw [E.out]; first | rfl | (simp; omega), rfl⟩
    · have E := Lib.hid (show inNm c = false by unfold inNm; exact decide_eq_false (by omega))
      have b1 : ((c : Int) == 46) = false := by rw [beq_eq_false_iff_ne]; omega
      have b2 : ((c : Int) == 45) = false := by rw [beq_eq_false_iff_ne]; omega
      go_enter Tryz.func250, Tryz.ntmps250
      go_wp2_with fail
      go_ret
      exact ⟨by rw [E.out]; first | rfl | (simp; omega), rfl⟩
  · by_cases a3 : 48 ≤ c
    · by_cases a4 : c ≤ 57
      · have E := Lib.hid (show inNm c = true by unfold inNm; exact decide_eq_true (by omega))
        go_enter Tryz.func250, Tryz.ntmps250
        go_wp2_with fail
        go_ret
        exact ⟨by rw [E.out]; first | rfl | (simp; omega), rfl⟩
      · have E := Lib.hid (show inNm c = false by unfold inNm; exact decide_eq_false (by omega))
        have b1 : ((c : Int) == 46) = false := by rw [beq_eq_false_iff_ne]; omega
        have b2 : ((c : Int) == 45) = false := by rw [beq_eq_false_iff_ne]; omega
        go_enter Tryz.func250, Tryz.ntmps250
        go_wp2_with fail
        go_ret
        exact ⟨by rw [E.out]; first | rfl | (simp; omega), rfl⟩
    · by_cases a5 : c = 46
      · have E := Lib.hid (show inNm c = true by unfold inNm; exact decide_eq_true (by omega))
        subst a5
        go_enter Tryz.func250, Tryz.ntmps250
        go_wp2_with fail
        go_ret
        exact ⟨by rw [E.out]; first | rfl | (simp; omega), rfl⟩
      · have b1 : ((c : Int) == 46) = false := by rw [beq_eq_false_iff_ne]; omega
        by_cases a6 : c = 45
        · have E := Lib.hid (show inNm c = true by unfold inNm; exact decide_eq_true (by omega))
          subst a6
          go_enter Tryz.func250, Tryz.ntmps250
          go_wp2_with fail
          go_ret
          exact ⟨by rw [E.out]; first | rfl | (simp; omega), rfl⟩
        · have E := Lib.hid (show inNm c = false by unfold inNm; exact decide_eq_false (by omega))
          have b2 : ((c : Int) == 45) = false := by rw [beq_eq_false_iff_ne]; omega
          go_enter Tryz.func250, Tryz.ntmps250
          go_wp2_with fail
          go_ret
          exact ⟨by rw [E.out]; first | rfl | (simp; omega), rfl⟩
set_option maxRecDepth 100000 in
set_option maxHeartbeats 800000 in
theorem isName_any (s : ByteArray) (hs : s.size ≤ 9223372036854775807) (w : World) : Calls Tryz.prog 205 #[.string s] w fun e w' => e = .returned (.bool (nmOK s.data.toList)) ∧ w = w' := by
  obtain ⟨l, hl⟩ : ∃ l, l = s.data.toList := ⟨_, rfl⟩
  have hix : ∀ (k : Nat) (w : World), k < s.size → (Instr.index 9 (.string s) (.int .i64 (k : Int))).run Tryz.prog w = .ok (.int .u8 ((l.getD k 0).toNat : Int)) w := fun k w h => by rw [hl]; exact index_textM s w k h
  have hll : l.length = s.size := by rw [hl]; simp
  rw [← hl]
  obtain ⟨n, hn⟩ : ∃ n, n = s.size := ⟨_, rfl⟩
  have HLL := Lib.hid (show l.length = n by rw [hll, hn])
  have HIX := Lib.hid (fun (k : Nat) (h : k < n) => fun w => hix k w (by omega))
  have hsz : s.size = n := hn.symm
  have hn63 : n ≤ 9223372036854775807 := by omega
  clear hl hll hix hs hn
  go_enter Tryz.func205, Tryz.ntmps205
  go_wp2_with fail
  go_loopw [6] (fun iv wr => ∃ k : Nat, k ≤ n ∧ iv = .int .i64 k ∧ wr = w ∧ Hid (∀ i, i < k → inNm (l.getD i 0).toNat = true)) (fun iv _ => n - (intOf iv).toNat)
  case atStart => exact ⟨0, Nat.zero_le _, rfl, rfl, fun i hi => by omega⟩
  case round =>
    obtain ⟨k, hk, rfl, hw, hall⟩ := hrel
    subst hw
    by_cases hlt : k < n
    · have ix := HIX.out k hlt
      have IN := Lib.hid (inName_any (l.getD k 0).toNat (l.getD k 0).toNat_lt)
      obtain ⟨c, hc⟩ : ∃ c, c = (l.getD k 0).toNat := ⟨_, rfl⟩
      rw [← hc] at ix IN
      have z1 : (k : Int) < (n : Int) := by omega
      have HLT := Lib.hid hlt
      have HCC := Lib.hid hc
      clear hc hlt
      obtain ⟨q, hq⟩ : ∃ q, q = inNm c := ⟨_, rfl⟩
      rw [← hq] at IN
      have HQ := Lib.hid hq
      clear hq
      go_wp2_with fail
      refine (IN.out _).mono ?_
      rintro e w1 ⟨rfl, rfl⟩
      cases q
      · have E := Lib.hid (show nmOK l = false by
          unfold nmOK
          rw [Bool.and_eq_false_iff]
          right
          rw [List.all_eq_false]
          have hk2 : k < l.length := by rw [HLL.out]; exact HLT.out
          refine ⟨l[k], List.getElem_mem _, ?_⟩
          have : l.getD k 0 = l[k] := by simp [List.getD, hk2]
          rw [← this, ← HCC.out, ← HQ.out]
          decide)
        go_wp2_with fail
        (try simp only [Exit.inBlock, Exit.then])
        go_ret
        exact ⟨by rw [E.out]; rfl, rfl⟩
      · go_wp2_with fail
        go_roundw
        case rel =>
          refine ⟨k + 1, by have := HLT.out; omega, by go_num, by first | rfl | trivial, fun i hi => ?_⟩
          by_cases h : i = k
          · rw [h, ← HCC.out, ← HQ.out]
          · exact hall.out i (by omega)
        case measure => simp [intOf]; have := HLT.out; omega
    · obtain rfl : k = n := by omega
      have E := Lib.hid (show nmOK l = decide (1 ≤ k ∧ k ≤ 24) by
        unfold nmOK
        rw [HLL.out]
        have : l.all (fun c => inNm c.toNat) = true := by
          rw [List.all_eq_true]
          intro x hx
          obtain ⟨i, hi, rfl⟩ := List.getElem_of_mem hx
          have := hall.out i (by rw [← HLL.out]; exact hi)
          simpa [List.getD, hi] using this
        rw [this, Bool.and_true])
      clear hall hlt
      by_cases b1 : 1 ≤ k
      · by_cases b2 : k ≤ 24
        · have E2 := Lib.hid (show nmOK l = true by rw [E.out]; exact decide_eq_true ⟨b1, b2⟩)
          go_wp2_with fail
          go_ret
          exact ⟨by rw [E2.out]; first | rfl | (simp; omega), rfl⟩
        · have E2 := Lib.hid (show nmOK l = false by rw [E.out]; exact decide_eq_false (by omega))
          go_wp2_with fail
          go_ret
          exact ⟨by rw [E2.out]; first | rfl | (simp; omega), rfl⟩
      · have E2 := Lib.hid (show nmOK l = false by rw [E.out]; exact decide_eq_false (by omega))
        go_wp2_with fail
        go_ret
        exact ⟨by rw [E2.out]; first | rfl | (simp; omega), rfl⟩
end Go.Proofs.YtblgphfdicffcaaGreatDoor

/- Contract: Create, where it creates. It proves no statement. -/


namespace Go.Proofs.YtblgphfdicffcaaGreatDoor
open Go.RowKit Go.Maps Go.WideMaps
set_option linter.unusedVariables false
set_option linter.unusedSimpArgs false

/-- A file's block. -/
def FileB (w : World) (gf : Nat) (a b c : Value) : Prop := Blk w gf 201 #[a, b, c]
set_option maxRecDepth 100000 in
set_option maxHeartbeats 1600000 in
theorem create_ok {w : World} {g : Nat} {room : Int} {bn bf : Nat} {wv : Value} {left : Int} (h : MedB w g room bn bf wv left false) (hl : left ≤ 9223372036854775807) (hl0 : left ≠ 0) (s : ByteArray) (n k base : Nat) (D : DataW Unit) (xs : List Value)
    (hown : NM w bn n D) (hn : n ≤ 1000000) (hs : s.size ≤ maxLen) (hw : w.ownsRow base 214 3 wv k xs) (hk : k ≤ 1000000) (hbase : base ≤ w.heap.size) (hnm : nmOK s.data.toList = true) (hlook : look D s = -1) (hsz : Maps.size D < 500) :
    Calls Tryz.prog 142 #[.pointer (some ⟨g, 0, none⟩), .string s] w fun e w' => e = .returned (.int .i64 0) ∧ ∃ gf wv', w.heap.size ≤ gf ∧ FileB w' gf (.slice none 0 0) (.slice none 0 0) (.slice none 0 0) ∧ MedB w' g room bn bf wv' (stepR left false).1 false ∧ w'.ownsRow base 214 3 wv' (k + 1) (xs ++ nmL ⟨#[]⟩ s gf) ∧ NM w' bn (n + 1) (nmDo D ⟨#[]⟩ s gf) ∧ Chg w w' (fun x => x = g ∨ x = bn ∨ wv.ownBlock = some x) ∧ (wv'.ownBlock = wv.ownBlock ∨ ∃ j, wv'.ownBlock = some j ∧ w.heap.size ≤ j) := by
  have hst : (stepR left false).2.2 = 0 ∧ (stepR left false).2.1 = false := by
    unfold stepR
    rw [if_neg hl0]
    split <;> exact ⟨rfl, rfl⟩
  obtain ⟨gf, hgf⟩ : ∃ gf, gf = w.heap.size := ⟨_, rfl⟩
  obtain ⟨w1, hw1⟩ : ∃ w1, w1 = w.alloc (.cells #[.slice none 0 0, .slice none 0 0, .slice none 0 0] 201) := ⟨_, rfl⟩
  have S1 : Still w w1 := by rw [hw1]; exact (Still.refl w).alloc (Nat.le_refl _) _
  have F1 : FileB w1 gf (.slice none 0 0) (.slice none 0 0) (.slice none 0 0) := by rw [hw1, hgf]; exact Blk.new _ _ _
  have C1 := Chg.of_still S1 (fun _ => False)
  have NA := Lib.hid (name_yes (h.still S1) hl ⟨#[]⟩ s (gf : Int) (.inr (by omega)) n k base D xs (C1.nm hown (fun h => h)) hn (by decide) hs (C1.own hw (fun _ _ h => h)) hk (Nat.le_trans hbase S1.size) hst.1)
  rw [hst.2, pv_at] at NA
  have WK := Lib.hid (works_yes h)
  have IN := Lib.hid (isName_any s hs w)
  rw [hnm] at IN
  have c1 : w.cell? ⟨g, 1, none⟩ = some (.map (some bn)) := Blk.cell h 1
  have HS := Lib.hid hs
  have HL := Lib.hid hlook
  have HO := Lib.hid hown
  have HF := Lib.hid F1
  have HC1 := Lib.hid C1
  have HW1 := Lib.hid hw1
  have HG := Lib.hid hgf
  have HNE := Lib.hid (And.intro (Nat.ne_of_lt (Blk.lt h)) (And.intro hown.lt (fun j (e : wv.ownBlock = some j) => (hw.lt j e).2)))
  have hsz2 : (Maps.size D : Int) < 500 := by omega
  clear h hl hl0 hown hn hs hw hk hbase hnm hlook hst S1 F1 C1 hw1 hgf hsz
  go_enter Tryz.func142, Tryz.ntmps142
  go_wp2_with fail
  refine WK.out.mono ?_
  rintro e w2 ⟨rfl, rfl⟩
  go_wp2_with fail
  refine IN.out.mono ?_
  rintro e w2 ⟨rfl, rfl⟩
  go_wp2_with (first
    | (at_lookup; go_must (refine wpList_look rfl (.tmp 20) (.tmp 21) rfl bn n D rfl HO.out s rfl HS.out ?_; intro f hf hlk; rw [HL.out] at hlk; subst hlk; rw [pv_nil]))
    | (at_len; go_must (refine wpList_len_own _ rfl _ 133 rfl 9 153 underNames ptrElem bn n D rfl HO.out ?_)))
  rw [← HW1.out, ← HG.out]
  refine NA.out.mono ?_
  rintro e w3 ⟨rfl, wv', m3, r3, n3, c3, loc3⟩
  have FIN := Lib.hid (show ∃ gf wv', w.heap.size ≤ gf ∧ FileB w3 gf (.slice none 0 0) (.slice none 0 0) (.slice none 0 0) ∧ MedB w3 g room bn bf wv' (stepR left false).1 false ∧ w3.ownsRow base 214 3 wv' (k + 1) (xs ++ nmL ⟨#[]⟩ s gf) ∧ NM w3 bn (n + 1) (nmDo D ⟨#[]⟩ s gf) ∧ Chg w w3 (fun x => x = g ∨ x = bn ∨ wv.ownBlock = some x) ∧ (wv'.ownBlock = wv.ownBlock ∨ ∃ j, wv'.ownBlock = some j ∧ w.heap.size ≤ j) by
    refine ⟨gf, wv', by rw [HG.out]; exact Nat.le_refl _, c3.blk HF.out ?_, m3, r3, n3, Chg.trans (HC1.out.mono (fun _ _ h => h.elim)) c3 (fun _ _ h => h), ?_⟩
    · rintro (h | h | h)
      · have := HG.out; have := HNE.out.1; omega
      · have := HG.out; have := HNE.out.2.1; omega
      · have := HG.out; have := HNE.out.2.2 _ h; omega
    · rcases loc3 with h | ⟨j, h, hj⟩
      · exact .inl h
      · exact .inr ⟨j, h, Nat.le_trans HC1.out.size hj⟩)
  clear m3 r3 n3 c3 loc3 NA
  go_wp2_with fail
  go_ret
  exact ⟨rfl, FIN.out⟩
end Go.Proofs.YtblgphfdicffcaaGreatDoor
