/- Contracts and facts, several texts in one. It proves no statement. -/
import Derived.Test.YtfneloobfidckaaGreatDoorSf05
import Derived.Test.YtfneloobfidckaaGreatDoorSf06

/- A file's settle, where only appends wait. It proves no statement. -/


namespace Go.Proofs.YtfneloobfidckaaGreatDoor
open Go.RowKit Go.Maps Go.WideMaps
set_option linter.unusedVariables false
set_option linter.unusedSimpArgs false

/-- A row of changes, each of which lays bytes behind all that is there: the bytes X, the cells cs; their rows lie in blocks of F. -/
def HasA (w : World) (base st : Nat) (X : List (List UInt8)) (cs : List Value) (F : Nat → Prop) : Prop :=
  cs.length = 2 * X.length ∧ ∀ j x, X[j]? = some x → ∃ cv, cs[2 * j]? = some (.int .i64 ((st + (X.take j).flatten.length : Nat) : Int)) ∧ cs[2 * j + 1]? = some cv ∧ w.ownsRow base 5 1 cv x.length (bytesV x) ∧ ∀ k, cv.ownBlock = some k → F k
theorem HasA.nil (w : World) (base st : Nat) (F : Nat → Prop) : HasA w base st [] [] F := ⟨rfl, fun j x h => by simp at h⟩
theorem HasA.keep {w w' : World} {base st : Nat} {X : List (List UInt8)} {cs : List Value} {F S : Nat → Prop} (h : HasA w base st X cs F) (c : Chg w w' S) (hS : ∀ k, F k → ¬ S k) : HasA w' base st X cs F :=
  ⟨h.1, fun j x hx => by
    obtain ⟨cv, h1, h2, h3, h4⟩ := h.2 j x hx
    exact ⟨cv, h1, h2, c.own h3 (fun k hk => hS k (h4 k hk)), h4⟩⟩
theorem HasA.snoc {w : World} {base st : Nat} {X : List (List UInt8)} {cs : List Value} {F : Nat → Prop} (h : HasA w base st X cs F) (x : List UInt8) (cv : Value) (ho : w.ownsRow base 5 1 cv x.length (bytesV x)) :
    HasA w base st (X ++ [x]) (cs ++ [.int .i64 ((st + X.flatten.length : Nat) : Int), cv]) (fun k => F k ∨ cv.ownBlock = some k) := by
  refine ⟨by simp [h.1]; omega, fun j y hy => ?_⟩
  by_cases hj : j < X.length
  · rw [List.getElem?_append_left hj] at hy
    obtain ⟨cv', h1, h2, h3, h4⟩ := h.2 j y hy
    refine ⟨cv', ?_, ?_, h3, fun k hk => .inl (h4 k hk)⟩
    · rw [List.getElem?_append_left (by rw [h.1]; omega), List.take_append_of_le_length (by omega)]; exact h1
    · rw [List.getElem?_append_left (by rw [h.1]; omega)]; exact h2
  · have hl : j < (X ++ [x]).length := (List.getElem?_eq_some_iff.1 hy).1
    have hje : j = X.length := by simp at hl; omega
    subst hje
    have hyx : y = x := by simpa using hy.symm
    subst hyx
    refine ⟨cv, ?_, ?_, ho, fun k hk => .inr hk⟩
    · rw [List.getElem?_append_right (by rw [h.1]; omega), h.1]; simp
    · rw [List.getElem?_append_right (by rw [h.1]; omega), h.1]; simp
theorem Tryz.infoChange : (Tryz.prog.info? 267).map (fun i => (i.zero, i.size)) = some (some (.agg #[.int .i64 0, .slice none 0 0]), 2) := by kernel_rfl
theorem sizeCh : (Tryz.prog.info? 267).map (·.size) = some 2 := by kernel_rfl
theorem load_midM {P : Program} {ops : Array Oper} {rest : List Oper} {op : Oper} {a : Act} {w : World} {Q : Exit → Act → World → Prop} (hw : Region.wanted op (yielded ops a.tmps) = true) (ty : TypeId) (x : Operand) (ho : op.op = .load ty x)
    (b o : Nat) (hx : a.eval x = .pointer (some ⟨b, o, none⟩)) (cs : List Value) (d : TypeDesc) (hc : w.rangeAt b o cs)
    (hu : P.underlying ty = some d) (hd : d.isRow = true) (hi : (P.info? ty).map (·.size) = some cs.length)
    (h : wpList P ops Q rest (a.put op.dst (.agg cs.toArray)) w) : wpList P ops Q (op :: rest) a w := by
  unfold wpList
  rw [if_pos hw]
  exact .inl (wp_load_mid ty x ho b o hx cs d hc hu hd hi h)
theorem wpList_storeCh {ops : Array Oper} {rest : List Oper} {o : Oper} {a : Act} {w : World} {Q : Exit → Act → World → Prop} (hgd : o.guard = none) (x y : Operand) (ho : o.op = .store 267 x y)
    (g : Nat) (hx : a.eval x = .pointer (some ⟨g, 0, none⟩)) (cs old : Array Value) (hy : a.eval y = .agg cs) (h2 : cs.size = 2) (ho2 : old.size = 2) (h1 : cs.all (·.oneCell') = true) (hg : Blk w g 267 old)
    (h : wpList Tryz.prog ops Q rest (a.put o.dst undef) (w.setRow g cs)) : wpList Tryz.prog ops Q (o :: rest) a w :=
  wpList_plain hgd fun _ hQ => wp_store_row 267 x y ho g cs hx hy _ old hg (by rw [sizeCh, h2]) (by rw [h2, ho2]) h1 (hQ _ _ h)
theorem own_neM {w : World} {g base n z : Nat} {t e : TypeId} {cs : Array Value} {v : Value} {xs : List Value} (hb : Blk w g t cs) (ho : w.ownsRow base e z v n xs) (ne : e ≠ t) : v.ownBlock ≠ some g := by
  intro h
  rcases ho.2 with ⟨q, _⟩ | ⟨k, c, cur, q, _, h3, _⟩
  · rw [q] at h; cases h
  · rw [q] at h
    have e' : k = g := by simpa [Value.ownBlock] using h
    subst e'
    have h4 : w.heap[k]? = some (.cells cs t (0, 0)) := hb
    rw [h3] at h4
    simp at h4
    exact ne h4.2
theorem chg_set (w : World) (g i : Nat) (u : Value) : Chg w (w.setCell ⟨g, i, none⟩ u) (fun b => b = g) :=
  ⟨rfl, rfl, rfl, by simp [World.setCell], fun k _ hn => Below.heap_setCell w ⟨g, i, none⟩ u k hn⟩
theorem flat_more (X : List (List UInt8)) (j : Nat) (x : List UInt8) (h : X[j]? = some x) : (X.take (j + 1)).flatten = (X.take j).flatten ++ x := by
  rw [List.take_add_one, h, List.flatten_append]
  simp
theorem flat_le (X : List (List UInt8)) (j : Nat) : (X.take j).flatten.length ≤ X.flatten.length := by
  have h : X.flatten = (X.take j).flatten ++ (X.drop j).flatten := by rw [← List.flatten_append, List.take_append_drop]
  rw [h, List.length_append]
  omega

set_option maxRecDepth 100000 in
set_option maxHeartbeats 6400000 in
theorem fsettle_app {w : World} (gf : Nat) (nv fv : Value) (base n k bw cap : Nat) (l : List UInt8) (X : List (List UInt8)) (cs : List Value) (F : Nat → Prop) (hf : FileB w gf nv fv (.slice (some ⟨bw, 0, none⟩) k cap)) (hw : w.ownsRow base 267 2 (.slice (some ⟨bw, 0, none⟩) k cap) k cs)
    (hx : HasA w base l.length X cs F) (hk : k = X.length) (hfv : w.ownsRow base 5 1 fv l.length (bytesV l)) (hsep : ∀ b, fv.ownBlock = some b → ¬ F b) (hFg : ¬ F gf) (hbase : base ≤ w.heap.size) (hn : n ≤ k) (hk6 : k ≤ 1000000) (htot : l.length + X.flatten.length ≤ 100000000) :
    Calls Tryz.prog 150 #[.pointer (some ⟨gf, 0, none⟩), .int .i64 (n : Int)] w fun e w' => e = .returned (.tuple #[]) ∧ ∃ fv', FileB w' gf nv fv' (.slice none 0 0) ∧ w'.ownsRow base 5 1 fv' (l.length + (X.take n).flatten.length) (bytesV (l ++ (X.take n).flatten)) ∧ Chg w w' (fun b => b = gf ∨ fv.ownBlock = some b) ∧ (fv'.ownBlock = fv.ownBlock ∨ ∃ j, fv'.ownBlock = some j ∧ w.heap.size ≤ j) := by
  obtain ⟨hgl, hcap, cur, hcur, hbw⟩ : gf < w.heap.size ∧ k ≤ cap ∧ ∃ cur, Blk w bw 267 cur ∧ base ≤ bw := by
    rcases hw.2 with ⟨h, _⟩ | ⟨g, c, cur, h, h2, h3, h4, _⟩
    · cases h
    · injection h with q1 q2 q3
      injection q1 with q1
      injection q1 with q1 _ _
      subst q1 q3
      exact ⟨hf.lt, h4, cur, h3, h2⟩
  have hcapm : cap ≤ 9223372036854775807 := by
    rcases hw.2 with ⟨h, _⟩ | ⟨g, c, cur, h, h2, h3, h4, h5, _⟩
    · cases h
    · injection h with q1 q2 q3
      subst q3
      unfold maxLen at h5
      omega
  have hgb : gf ≠ bw := by
    intro e
    subst e
    have h1 : w.heap[gf]? = some (.cells #[nv, fv, .slice (some ⟨gf, 0, none⟩) k cap] 203 (0, 0)) := hf
    have h2 : w.heap[gf]? = some (.cells cur 267 (0, 0)) := hcur
    rw [h1] at h2
    simp at h2
  have hfb : fv.ownBlock ≠ some bw := by
    intro e
    rcases hfv.2 with ⟨h, _⟩ | ⟨g, c, cur', h, h2, h3, _⟩
    · rw [h] at e; cases e
    · rw [h] at e
      have e' : g = bw := by simpa [Value.ownBlock] using e
      subst e'
      have h4 : w.heap[g]? = some (.cells cur 267 (0, 0)) := hcur
      rw [h3] at h4
      simp at h4
  have hfg : fv.ownBlock ≠ some gf := by
    intro e
    rcases hfv.2 with ⟨h, _⟩ | ⟨g, c, cur', h, h2, h3, _⟩
    · rw [h] at e; cases e
    · rw [h] at e
      have e' : g = gf := by simpa [Value.ownBlock] using e
      subst e'
      have h4 : w.heap[g]? = some (.cells #[nv, fv, .slice (some ⟨bw, 0, none⟩) k cap] 203 (0, 0)) := hf
      rw [h3] at h4
      simp at h4
  obtain ⟨S, hS⟩ : ∃ S : Nat → Prop, S = fun b => b = gf ∨ fv.ownBlock = some b := ⟨_, rfl⟩
  have SF := Lib.hid (show ∀ b, F b → ¬ S b from fun b hb hs => by
    rw [hS] at hs
    rcases hs with rfl | hs
    · exact hFg hb
    · exact hsep b hs hb)
  have SB := Lib.hid (show ¬ S bw from fun hs => by
    rw [hS] at hs
    rcases hs with hs | hs
    · exact hgb hs.symm
    · exact hfb hs)
  rw [← hS]
  have c2 : w.cell? ⟨gf, 2, none⟩ = some (.slice (some ⟨bw, 0, none⟩) k cap) := hf.cell 2
  have FB := Lib.hid hf
  have OW := Lib.hid hw
  have HX := Lib.hid hx
  have HF := Lib.hid hfv
  have HB := Lib.hid hbase
  have HS := Lib.hid hS
  have HT := Lib.hid htot
  have GL := Lib.hid hgl
  have GB := Lib.hid (And.intro hgb (And.intro hfb hfg))
  have HK := Lib.hid hk
  clear hf hw hx hfv hsep hFg hbase htot hgl hcur hgb hfb hfg hS hbw hk
  go_enter Tryz.func150, Tryz.ntmps150
  go_wp2_with fail
  go_loopw [13] (fun iv wr => ∃ j : Nat, j ≤ n ∧ iv = .int .i64 j ∧ Hid (∃ fj, FileB wr gf nv fj (.slice (some ⟨bw, 0, none⟩) k cap) ∧ wr.ownsRow base 5 1 fj (l.length + (X.take j).flatten.length) (bytesV (l ++ (X.take j).flatten)) ∧ Chg w wr S ∧ (fj.ownBlock = fv.ownBlock ∨ ∃ q, fj.ownBlock = some q ∧ w.heap.size ≤ q))) (fun iv _ => n - (intOf iv).toNat)
  case atStart => exact ⟨0, by omega, rfl, fv, FB.out, by simpa using HF.out, Chg.refl _ _, .inl rfl⟩
  case round =>
    obtain ⟨j, hj, rfl, hh⟩ := hrel
    by_cases hlt : j < n
    · obtain ⟨fj, f1, f2, f3, f4⟩ := hh.out
      obtain ⟨x, hxj⟩ : ∃ x, X[j]? = some x := ⟨_, List.getElem?_eq_getElem (by have := HK.out; omega)⟩
      obtain ⟨cv, e0, e1, e2, e3⟩ := (HX.out.keep f3 SF.out).2 j x hxj
      obtain ⟨Ac, cc, rfl, q1, q2, q3⟩ := own_form e2
      obtain ⟨mc, hmc⟩ : ∃ mc, mc = x.length := ⟨_, rfl⟩
      obtain ⟨en, hen⟩ : ∃ en, en = l.length + (X.take j).flatten.length := ⟨_, rfl⟩
      obtain ⟨L, hL⟩ : ∃ L, L = l ++ (X.take j).flatten := ⟨_, rfl⟩
      have LL := Lib.hid (show L.length = en by rw [hL, List.length_append, hen])
      have NX := Lib.hid (show l.length + (X.take (j + 1)).flatten.length = en + mc ∧ l ++ (X.take (j + 1)).flatten = L ++ x by
        rw [flat_more X j x hxj, List.length_append, hen, hmc, hL, List.append_assoc]; exact ⟨by omega, rfl⟩)
      have EN := Lib.hid (show en + mc ≤ 100000000 by
        have h1 := flat_le X (j + 1)
        have h2 := NX.out.1
        have := HT.out
        omega)
      rw [← hen, ← hL] at f2
      rw [← hen] at e0
      rw [← hmc] at e2 q1 e1 e3
      obtain ⟨Av, vc, rfl, v1, v2, v3⟩ := own_form f2
      have F1 := Lib.hid f1
      have F2 := Lib.hid f2
      have F3 := Lib.hid f3
      have F4 := Lib.hid f4
      have E2 := Lib.hid e2
      have OWR := f3.own OW.out (fun k' hk' => by have h : bw = k' := by simpa [Value.ownBlock] using hk'
                                                  subst h; exact SB.out)
      have RNG := Lib.hid (show wr.rangeAt bw (2 * j) [.int .i64 (en : Int), .slice Ac mc cc] from by
        intro i u hu
        have hl2 : cs.length = 2 * k := by rw [HX.out.1, HK.out]
        have h5 : ∀ q u', cs[q]? = some u' → wr.cell? ⟨bw, q, none⟩ = some u' := fun q u' hq => by
          have hq2 : q < cs.length := (List.getElem?_eq_some_iff.1 hq).1
          have h6 := OWR.cellAt q (by omega)
          rw [hq] at h6
          exact h6
        match i, hu with
        | 0, hu =>
          have hu' : u = .int .i64 (en : Int) := by simpa using hu.symm
          subst hu'
          exact h5 _ _ e0
        | 1, hu =>
          have hu' : u = .slice Ac mc cc := by simpa using hu.symm
          subst hu'
          exact h5 _ _ e1)
      have RNG := Lib.hid (show wr.rangeAt bw (j * 2) [.int .i64 (en : Int), .slice Ac mc cc] by rw [Nat.mul_comm]; exact RNG.out)
      obtain ⟨gx, hgx⟩ : ∃ gx, gx = wr.heap.size := ⟨_, rfl⟩
      have BZ := Lib.hid (Blk.new wr 267 #[.int .i64 0, .slice none 0 0])
      have FJ := Lib.hid hlt
      have HFR := Lib.hid (F1.out.frozen 1)
      have G1 := Lib.hid (show gx ≠ gf by rw [hgx]; exact Nat.ne_of_gt F1.out.lt)
      have SZ := Lib.hid (show w.heap.size ≤ gx by rw [hgx]; exact F3.out.size)
      clear hh f1 f2 f3 f4 e0 e1 e2 e3 OWR hxj hen hL hmc c2
      go_upto_region 3 with (first
        | (guard_target =~ wpList _ _ _ (Oper.mk _ (Op.load _ _) _ _ _ _ :: _) _ _; go_must (refine load_midM (by kernel_rfl) 267 (.tmp 15) rfl bw (j * 2) (by kernel_rfl) [.int .i64 (en : Int), .slice Ac mc cc] _ RNG.out Tryz.underlying267 rfl sizeCh ?_))
        | (guard_target =~ wpList _ _ _ (Oper.mk _ (Op.alloc _) _ _ _ _ :: _) _ _; go_must (refine wpList_alloc_arr rfl 267 rfl (some 5) rfl _ 2 Tryz.infoChange ?_))
        | (guard_target =~ wpList _ _ _ (Oper.mk _ (Op.store _ _ _) _ _ _ _ :: _) _ _; go_must (refine wpList_storeCh rfl (.tmp 5) (.tmp 16) rfl wr.heap.size (by kernel_rfl) #[.int .i64 (en : Int), .slice Ac mc cc] _ (by kernel_rfl) rfl rfl (by kernel_rfl) BZ.out ?_)))
      rw [World.setRow_alloc_new, ← hgx]
      obtain ⟨w1, hw1⟩ : ∃ w1, w1 = wr.alloc (.cells #[.int .i64 (en : Int), .slice Ac mc cc] 267) := ⟨_, rfl⟩
      rw [← hw1]
      have S1 := Lib.hid (show Still wr w1 by rw [hw1]; exact (Still.refl _).alloc (Nat.le_refl _) _)
      have B1 := Lib.hid (show Blk w1 gx 267 #[.int .i64 (en : Int), .slice Ac mc cc] by rw [hw1, hgx]; exact Blk.new _ _ _)
      clear hw1 BZ hgx
      have SOK := Lib.hid (show ∀ W, Still w1 W → W.cell? ⟨gx, 0, none⟩ = some (.int .i64 (en : Int)) ∧ W.cell? ⟨gx, 1, none⟩ = some (.slice Ac mc cc) ∧ W.cell? ⟨gf, 1, none⟩ = some (.slice Av en vc) from fun W z => ⟨(B1.out.still z).cell 0, (B1.out.still z).cell 1, (Blk.still F1.out (S1.out.trans z)).cell 1⟩)
      refine wp_region_late (S := fun W => W.cell? ⟨gx, 0, none⟩ = some (.int .i64 (en : Int)) ∧ W.cell? ⟨gx, 1, none⟩ = some (.slice Ac mc cc) ∧ W.cell? ⟨gf, 1, none⟩ = some (.slice Av en vc)) [6, 9] (by kernel_rfl) (SOK.out _ ((Still.refl _).drew)) (fun hHeld => ?_)
      obtain ⟨wa, hwa⟩ : ∃ wa, wa = w1.drew := ⟨_, rfl⟩
      have SA := Lib.hid (show Still w1 wa by rw [hwa]; exact (Still.refl _).drew)
      try rw [← hwa] at hHeld
      rw [← hwa]
      clear hwa
      try simp only [Act.put, List.setIfInBounds_toArray, List.set_cons_zero, List.set_cons_succ]
      refine wpLate_pure (i := 0) (v := .pointer (some ⟨gf, 0, none⟩)) rfl (by kernel_rfl) (by kernel_rfl) (by kernel_rfl) (by kernel_rfl) (fun _ _ _ h => h) (Or.inl ⟨by kernel_rfl, fun w _ => by go_simp⟩) ?_
      try simp only [Act.put, List.setIfInBounds_toArray, List.set_cons_zero, List.set_cons_succ]
      refine wpLate_take (i := 1) (v := .agg #[.int .i64 (en : Int), .slice Ac mc cc]) [6, 9] rfl (by kernel_rfl) (by kernel_rfl) (by kernel_rfl) (by kernel_rfl) (by kernel_rfl) (by decide) (fun _ _ _ h => h) (Or.inl ⟨by kernel_rfl, fun w hS => by obtain ⟨h0, h1, h2⟩ := hS; go_simp⟩) (by assumption) (fun hHeld => ?_)
      try simp only [Act.put, List.setIfInBounds_toArray, List.set_cons_zero, List.set_cons_succ]
      refine wpLate_pure (i := 2) (v := .pointer (some ⟨gf, 0, none⟩)) rfl (by kernel_rfl) (by kernel_rfl) (by kernel_rfl) (by kernel_rfl) (fun _ _ _ h => h) (Or.inl ⟨by kernel_rfl, fun w _ => by go_simp⟩) ?_
      try simp only [Act.put, List.setIfInBounds_toArray, List.set_cons_zero, List.set_cons_succ]
      refine wpLate_pure (i := 3) (v := .pointer (some ⟨gf, 0, none⟩)) rfl (by kernel_rfl) (by kernel_rfl) (by kernel_rfl) (by kernel_rfl) (fun _ _ _ h => h) (Or.inl ⟨by kernel_rfl, fun w _ => by go_simp⟩) ?_
      try simp only [Act.put, List.setIfInBounds_toArray, List.set_cons_zero, List.set_cons_succ]
      refine wpLate_pure (i := 4) (v := .pointer (some ⟨gf, 1, none⟩)) rfl (by kernel_rfl) (by kernel_rfl) (by kernel_rfl) (by kernel_rfl) (fun _ _ _ h => h) (Or.inl ⟨by kernel_rfl, fun w _ => by go_simp⟩) ?_
      try simp only [Act.put, List.setIfInBounds_toArray, List.set_cons_zero, List.set_cons_succ]
      refine wpLate_take (i := 5) (v := .slice Av en vc) [6, 9] rfl (by kernel_rfl) (by kernel_rfl) (by kernel_rfl) (by kernel_rfl) (by kernel_rfl) (by decide) (fun _ _ _ h => h) (Or.inl ⟨by kernel_rfl, fun w hS => by obtain ⟨h0, h1, h2⟩ := hS; go_simp⟩) (by assumption) (fun hHeld => ?_)
      try simp only [Act.put, List.setIfInBounds_toArray, List.set_cons_zero, List.set_cons_succ]

      clear hHeld
      have CA := Lib.hid (change_add (.slice Av en vc) base en L Ac mc cc x wa wa.heap.size (own_still F2.out (S1.out.trans SA.out)) (Nat.le_trans HB.out (Nat.le_trans F3.out.size (S1.out.trans SA.out).size)) (Reads.of_own (own_low (own_still E2.out (S1.out.trans SA.out)) (Nat.le_refl _))) (Nat.le_refl _) (fun e => (q3 e).2) EN.out)
      refine wpLate_one (i := 6) (o := ⟨some 23, .call { callee := .value (.func 197), args := #[.tmp 18, .tmp 22], argTypes := #[267, 42] }, _, _, _, none⟩) (by kernel_rfl) rfl (fun K' hK' => ?_)
      go_simp
      go_wp2_with (go_at_call 197; refine CA.out.mono ?_; rintro e w3 ⟨v3, rfl, own3, gr3, loc3⟩)
      obtain ⟨A4, c4, rfl, z1, z2, z3⟩ := own_form own3
      have C3 := Lib.hid (show Chg wr w3 (fun b => (Value.slice Av en vc).ownBlock = some b) from (Chg.of_still (S1.out.trans SA.out) _).trans (Chg.of_grown gr3 (S := fun b => (Value.slice Av en vc).ownBlock = some b) (fun _ h _ => h)) (fun _ _ h => h))
      have NE := Lib.hid (own_neM F1.out F2.out (by decide))
      have F5 := Lib.hid (show FileB w3 gf nv (.slice Av en vc) (.slice (some ⟨bw, 0, none⟩) k cap) from C3.out.blk F1.out NE.out)
      have NE4 := Lib.hid (own_neM F5.out own3 (by decide))
      have O3 := Lib.hid own3
      have L3 := Lib.hid (show (Value.slice A4 (en + mc) c4).ownBlock = (Value.slice Av en vc).ownBlock ∨ ∃ q, (Value.slice A4 (en + mc) c4).ownBlock = some q ∧ w.heap.size ≤ q from by
        rcases loc3 with h | ⟨q, h, hq⟩
        · exact .inl h
        · exact .inr ⟨q, h, Nat.le_trans F3.out.size (Nat.le_trans (S1.out.trans SA.out).size hq)⟩)
      clear own3 gr3 loc3 z1 z2 z3 CA SOK SA S1 B1 RNG
      refine hK'.out _ _ (fun _ hu => absurd hu (by decide)) ?_
      clear hK' K'
      try simp only [Act.put, List.setIfInBounds_toArray, List.set_cons_zero, List.set_cons_succ]
      refine wpLate_pure (i := 7) (v := .pointer (some ⟨gf, 0, none⟩)) rfl (by kernel_rfl) (by kernel_rfl) (by kernel_rfl) (by kernel_rfl) (fun _ _ _ h => h) (Or.inl ⟨by kernel_rfl, fun w _ => by go_simp⟩) ?_
      try simp only [Act.put, List.setIfInBounds_toArray, List.set_cons_zero, List.set_cons_succ]
      refine wpLate_pure (i := 8) (v := .pointer (some ⟨gf, 1, none⟩)) rfl (by kernel_rfl) (by kernel_rfl) (by kernel_rfl) (by kernel_rfl) (fun _ _ _ h => h) (Or.inl ⟨by kernel_rfl, fun w _ => by go_simp⟩) ?_
      try simp only [Act.put, List.setIfInBounds_toArray, List.set_cons_zero, List.set_cons_succ]
      refine wpLate_one (i := 9) (o := ⟨none, .store 42 (.tmp 25) (.tmp 23), _, _, _, none⟩) (by kernel_rfl) rfl (fun K' hK' => ?_)
      rw [if_pos (by kernel_rfl)]
      have kc : w3.cell? ⟨gf, 1, none⟩ = some (.slice Av en vc) := F5.out.cell 1
      have kf := F5.out.frozen 1
      with_reducible refine step_storeC w3 42 (.tmp 25) (.tmp 23) (by kernel_rfl) gf 1 (.slice A4 (en + mc) c4) (.slice Av en vc) (by kernel_rfl) (by kernel_rfl) rfl (by kernel_rfl) kc kf ?_
      clear kc kf
      obtain ⟨w4, hw4⟩ : ∃ w4, w4 = w3.setCell ⟨gf, 1, none⟩ (.slice A4 (en + mc) c4) := ⟨_, rfl⟩
      rw [← hw4]
      have C4 := Lib.hid (show Chg w3 w4 (fun b => b = gf) by rw [hw4]; exact chg_set _ _ _ _)
      have F6 := Lib.hid (show FileB w4 gf nv (.slice A4 (en + mc) c4) (.slice (some ⟨bw, 0, none⟩) k cap) by rw [hw4]; exact Blk.setc F5.out 1 _)
      have FI4 := Lib.hid (show ∃ fj, FileB w4 gf nv fj (.slice (some ⟨bw, 0, none⟩) k cap) ∧ w4.ownsRow base 5 1 fj (l.length + (X.take (j + 1)).flatten.length) (bytesV (l ++ (X.take (j + 1)).flatten)) ∧ Chg w w4 S ∧ (fj.ownBlock = fv.ownBlock ∨ ∃ q, fj.ownBlock = some q ∧ w.heap.size ≤ q) from by
        refine ⟨_, F6.out, ?_, ?_, ?_⟩
        · rw [NX.out.1, NX.out.2]
          exact C4.out.own O3.out (fun b hb hs => NE4.out (by rw [hb, hs]))
        · refine (Chg.trans F3.out C3.out ?_).trans C4.out ?_
          · intro b hb hs
            rcases F4.out with h | ⟨q, h, hq⟩
            · rw [HS.out]; exact .inr (by rw [← h]; exact hs)
            · rw [h] at hs
              have : q = b := by simpa using hs
              omega
          · intro b hb hs
            rw [HS.out]
            exact .inl hs
        · rcases L3.out with h | h
          · rw [h]; exact F4.out
          · exact .inr h)
      clear hw4 C3 C4 F5 F6 O3 L3 NE NE4
      refine hK'.out _ _ (fun _ hu => absurd hu (by decide)) ?_
      clear hK' K'
      try simp only [Act.put, List.setIfInBounds_toArray, List.set_cons_zero, List.set_cons_succ]
      refine wpLate_done (by kernel_rfl) ?_ _
      go_wp2_with fail
      go_roundw
      case rel => exact ⟨j + 1, by have := FJ.out; omega, by go_num, FI4.out⟩
      case measure => simp [intOf]; have := FJ.out; omega
    · obtain rfl : j = n := by omega
      obtain ⟨fj, f1, f2, f3, f4⟩ := hh.out
      have k2 : wr.cell? ⟨gf, 2, none⟩ = some (.slice (some ⟨bw, 0, none⟩) k cap) := f1.cell 2
      have kf := f1.frozen 2
      have NE := Lib.hid (own_neM f1 f2 (by decide))
      have F1 := Lib.hid f1
      have F2 := Lib.hid f2
      have F3 := Lib.hid f3
      have F4 := Lib.hid f4
      clear hh f1 f2 f3 f4 c2
      go_wp2_with fail
      go_end0
      refine ⟨rfl, fj, Blk.setc F1.out 2 _, (chg_set wr gf 2 (.slice none 0 0)).own F2.out (fun b hb hs => NE.out (by rw [hb, hs])), F3.out.trans (chg_set wr gf 2 _) (fun b _ hs => by rw [HS.out]; exact .inl hs), F4.out⟩
end Go.Proofs.YtfneloobfidckaaGreatDoor

/- Contracts: Sync and SyncDir, where no error is met. They ask what settling does. It proves no statement. -/

namespace Go.Proofs.YtfneloobfidckaaGreatDoor
open Go.RowKit Go.Maps Go.WideMaps
set_option linter.unusedVariables false
set_option linter.unusedSimpArgs false

/-- A file's settle, where nothing waits. -/
theorem fsettle_nil {w : World} (gf : Nat) (nv fv : Value) (hf : FileB w gf nv fv (.slice none 0 0)) :
    Calls Tryz.prog 150 #[.pointer (some ⟨gf, 0, none⟩), .int .i64 0] w fun e w' => e = .returned (.tuple #[]) ∧ FileB w' gf nv fv (.slice none 0 0) ∧ Chg w w' (fun b => b = gf) := by
  have c2 : w.cell? ⟨gf, 2, none⟩ = some (.slice none 0 0) := hf.cell 2
  have kf := hf.frozen 2
  have FB := Lib.hid hf
  clear hf
  go_enter Tryz.func150, Tryz.ntmps150
  go_wp2_with fail
  go_loopw [13] (fun iv wr => iv = .int .i64 0 ∧ wr = w) (fun iv _ => 0)
  case atStart => exact ⟨rfl, rfl⟩
  case round =>
    obtain ⟨rfl, hw⟩ := hrel
    have hw' := hw.symm
    subst hw'
    clear hw
    go_wp2_with fail
    go_end0
    exact ⟨rfl, Blk.setc FB.out 2 _, chg_set _ gf 2 _⟩
theorem step_ok {left : Int} (hl0 : left ≠ 0) : (stepR left false).2.2 = 0 ∧ (stepR left false).2.1 = false := by
  unfold stepR
  rw [if_neg hl0]
  split <;> exact ⟨rfl, rfl⟩
set_option maxRecDepth 100000 in
set_option maxHeartbeats 1600000 in
theorem sync_ok {w : World} {g : Nat} {room : Int} {bn bf : Nat} {wv : Value} {left : Int} (h : MedB w g room bn bf wv left false) (hl : left ≤ 9223372036854775807) (hl0 : left ≠ 0) (s : ByteArray) (hs : s.size ≤ maxLen) (n : Nat) (D : DataW Unit) (hown : NM w bn n D)
    (gf k c : Nat) (A : Option Addr) (nv fv : Value) (hlk : look D s = (gf : Int)) (hf : FileB w gf nv fv (.slice A k c)) (hgg : gf ≠ g) (R : World → World → Prop)
    (SE : ∀ W, Chg w W (fun b => b = g) → Calls Tryz.prog 150 #[.pointer (some ⟨gf, 0, none⟩), .int .i64 (k : Int)] W fun e w' => e = .returned (.tuple #[]) ∧ R W w') :
    Calls Tryz.prog 88 #[.pointer (some ⟨g, 0, none⟩), .string s] w fun e w' => e = .returned (.int .i64 0) ∧ ∃ W, MedB W g room bn bf wv (stepR left false).1 false ∧ Chg w W (fun b => b = g) ∧ R W w' := by
  have FD := Lib.hid (find_yes h s n D hown hs)
  rw [hlk, show findV false (gf : Int) = pv (gf : Int) from rfl, pv_at, show findE false (gf : Int) = if (gf : Int) < 0 then 9 else 0 from rfl, if_neg (by omega)] at FD
  have ST0 := step_yes h hl
  have st := step_ok hl0
  rw [st.1, st.2] at ST0
  have ST := Lib.hid ST0
  have HF := Lib.hid (fun W (ch : Chg w W (fun b => b = g)) => (show W.cell? ⟨gf, 2, none⟩ = some (.slice A k c) from Blk.cell (ch.blk hf hgg) 2))
  have SEH := Lib.hid SE
  clear h hl hs hown hlk hf SE ST0 st
  go_enter Tryz.func88, Tryz.ntmps88
  go_wp2_with fail
  refine FD.out.mono ?_
  rintro e w2 ⟨rfl, rfl⟩
  go_wp2_with fail
  refine ST.out.mono ?_
  rintro e w3 ⟨rfl, m3, g3⟩
  have C3 := Lib.hid (show Chg w w3 (fun b => b = g) from Chg.of_grown g3 (fun k h _ => by simpa using h.symm))
  have M3 := Lib.hid m3
  have c2 := HF.out _ C3.out
  clear m3 g3
  go_wp2_with fail
  refine (SEH.out _ C3.out).mono ?_
  rintro e w4 ⟨rfl, r4⟩
  have R4 := Lib.hid r4
  clear r4 c2
  go_wp2_with fail
  go_ret
  exact ⟨rfl, w3, M3.out, C3.out, R4.out⟩
set_option maxRecDepth 100000 in
set_option maxHeartbeats 1600000 in
theorem syncDir_ok {w : World} {g : Nat} {room : Int} {bn bf : Nat} {left : Int} (k c : Nat) (A : Option Addr) (h : MedB w g room bn bf (.slice A k c) left false) (hl : left ≤ 9223372036854775807) (hl0 : left ≠ 0) (R : World → World → Prop)
    (SE : ∀ W, MedB W g room bn bf (.slice A k c) (stepR left false).1 false → Chg w W (fun b => b = g) → Calls Tryz.prog 100 #[.pointer (some ⟨g, 0, none⟩), .int .i64 (k : Int)] W fun e w' => e = .returned (.tuple #[]) ∧ R W w') :
    Calls Tryz.prog 90 #[.pointer (some ⟨g, 0, none⟩)] w fun e w' => e = .returned (.int .i64 0) ∧ ∃ W, MedB W g room bn bf (.slice A k c) (stepR left false).1 false ∧ Chg w W (fun b => b = g) ∧ R W w' := by
  have WK := Lib.hid (works_yes h)
  have ST0 := step_yes h hl
  have st := step_ok hl0
  rw [st.1, st.2] at ST0
  have ST := Lib.hid ST0
  have SEH := Lib.hid SE
  clear h hl SE ST0 st
  go_enter Tryz.func90, Tryz.ntmps90
  go_wp2_with fail
  refine WK.out.mono ?_
  rintro e w2 ⟨rfl, rfl⟩
  go_wp2_with fail
  refine ST.out.mono ?_
  rintro e w3 ⟨rfl, m3, g3⟩
  have C3 := Lib.hid (show Chg w w3 (fun b => b = g) from Chg.of_grown g3 (fun k h _ => by simpa using h.symm))
  have M3 := Lib.hid m3
  have c3 : w3.cell? ⟨g, 3, none⟩ = some (.slice A k c) := Blk.cell m3 3
  clear m3 g3
  go_wp2_with fail
  refine (SEH.out _ M3.out C3.out).mono ?_
  rintro e w4 ⟨rfl, r4⟩
  have R4 := Lib.hid r4
  clear r4 c3
  go_wp2_with fail
  go_ret
  exact ⟨rfl, w3, M3.out, C3.out, R4.out⟩
end Go.Proofs.YtfneloobfidckaaGreatDoor
