/- Contracts and facts, several texts in one. It proves no statement. -/
import Derived.Test.YtfneloobfidckaaGreatDoorSf07

/- A medium's settle: whatever namings wait. It proves no statement. -/

namespace Go.Proofs.YtfneloobfidckaaGreatDoor
open Go.RowKit Go.Maps Go.WideMaps
set_option linter.unusedVariables false
set_option linter.unusedSimpArgs false

/-- A row of namings, and its cells. -/
def HasN (X : List (ByteArray × ByteArray × Int)) (cs : List Value) : Prop :=
  cs.length = 3 * X.length ∧ ∀ j x, X[j]? = some x → cs[3 * j]? = some (.string x.1) ∧ cs[3 * j + 1]? = some (.string x.2.1) ∧ cs[3 * j + 2]? = some (pv x.2.2) ∧ x.1.size ≤ maxLen ∧ x.2.1.size ≤ maxLen ∧ (x.2.2 = -1 ∨ 0 ≤ x.2.2)
theorem HasN.nil : HasN [] [] := ⟨rfl, fun j x h => by simp at h⟩
theorem HasN.snoc {X : List (ByteArray × ByteArray × Int)} {cs : List Value} (h : HasN X cs) (s t : ByteArray) (f : Int) (hs : s.size ≤ maxLen) (ht : t.size ≤ maxLen) (hf : f = -1 ∨ 0 ≤ f) : HasN (X ++ [(s, t, f)]) (cs ++ [.string s, .string t, pv f]) := by
  refine ⟨by simp [h.1]; omega, fun j y hy => ?_⟩
  by_cases hj : j < X.length
  · rw [List.getElem?_append_left hj] at hy
    obtain ⟨h1, h2, h3, h4⟩ := h.2 j y hy
    refine ⟨?_, ?_, ?_, h4⟩
    · rw [List.getElem?_append_left (by rw [h.1]; omega)]; exact h1
    · rw [List.getElem?_append_left (by rw [h.1]; omega)]; exact h2
    · rw [List.getElem?_append_left (by rw [h.1]; omega)]; exact h3
  · have hl : j < (X ++ [(s, t, f)]).length := (List.getElem?_eq_some_iff.1 hy).1
    have hje : j = X.length := by simp at hl; omega
    subst hje
    have hyx : y = (s, t, f) := by simpa using hy.symm
    subst hyx
    refine ⟨?_, ?_, ?_, hs, ht, hf⟩
    · rw [List.getElem?_append_right (by rw [h.1]; omega), h.1]; simp
    · rw [List.getElem?_append_right (by rw [h.1]; omega), h.1]; simp
    · rw [List.getElem?_append_right (by rw [h.1]; omega), h.1]; simp
/-- Namings, one after another. -/
def nmAll (D : DataW Unit) (X : List (ByteArray × ByteArray × Int)) : DataW Unit := X.foldl (fun D x => nmDo D x.1 x.2.1 x.2.2) D
theorem nmAll_more (D : DataW Unit) (X : List (ByteArray × ByteArray × Int)) (j : Nat) (x : ByteArray × ByteArray × Int) (h : X[j]? = some x) : nmAll D (X.take (j + 1)) = nmDo (nmAll D (X.take j)) x.1 x.2.1 x.2.2 := by
  unfold nmAll
  rw [List.take_add_one, h, List.foldl_append]
  rfl
theorem nm_neB {w : World} {g b n : Nat} {t : TypeId} {cs : Array Value} {D : DataW Unit} (hb : Blk w g t cs) (hm : NM w b n D) : g ≠ b := by
  intro e
  subst e
  obtain ⟨es, clock, hb', _⟩ := hm
  have h4 : w.heap[g]? = some (.cells cs t (0, 0)) := hb
  rw [h4] at hb'
  cases hb'
theorem Tryz.infoNaming : (Tryz.prog.info? 263).map (fun i => (i.zero, i.size)) = some (some (.agg #[.string ⟨#[]⟩, .string ⟨#[]⟩, .pointer none]), 3) := by kernel_rfl
theorem sizeNm : (Tryz.prog.info? 263).map (·.size) = some 3 := by kernel_rfl
theorem wpList_storeNm {ops : Array Oper} {rest : List Oper} {o : Oper} {a : Act} {w : World} {Q : Exit → Act → World → Prop} (hgd : o.guard = none) (x y : Operand) (ho : o.op = .store 263 x y)
    (g : Nat) (hx : a.eval x = .pointer (some ⟨g, 0, none⟩)) (cs old : Array Value) (hy : a.eval y = .agg cs) (h2 : cs.size = 3) (ho2 : old.size = 3) (h1 : cs.all (·.oneCell') = true) (hg : Blk w g 263 old)
    (h : wpList Tryz.prog ops Q rest (a.put o.dst undef) (w.setRow g cs)) : wpList Tryz.prog ops Q (o :: rest) a w :=
  wpList_plain hgd fun _ hQ => wp_store_row 263 x y ho g cs hx hy _ old hg (by rw [sizeNm, h2]) (by rw [h2, ho2]) h1 (hQ _ _ h)

set_option maxRecDepth 100000 in
set_option maxHeartbeats 6400000 in
theorem msettle_any {w : World} {g : Nat} {room : Int} {bn bf : Nat} {left : Int} {off : Bool} (base n k bw cap nf : Nat) (X : List (ByteArray × ByteArray × Int)) (cs : List Value) (D : DataW Unit) (h : MedB w g room bn bf (.slice (some ⟨bw, 0, none⟩) k cap) left off) (hw : w.ownsRow base 263 3 (.slice (some ⟨bw, 0, none⟩) k cap) k cs)
    (hx : HasN X cs) (hk : k = X.length) (hown : NM w bf nf D) (hnf : nf + k ≤ 1000000) (hn : n ≤ k) :
    Calls Tryz.prog 100 #[.pointer (some ⟨g, 0, none⟩), .int .i64 (n : Int)] w fun e w' => e = .returned (.tuple #[]) ∧ MedB w' g room bn bf (.slice none 0 0) left off ∧ NM w' bf (nf + n) (nmAll D (X.take n)) ∧ Chg w w' (fun b => b = g ∨ b = bf) := by
  obtain ⟨hcap, cur, hcur⟩ : k ≤ cap ∧ ∃ cur, Blk w bw 263 cur := by
    rcases hw.2 with ⟨h, _⟩ | ⟨g, c, cur, h, h2, h3, h4, _⟩
    · cases h
    · injection h with q1 q2 q3
      injection q1 with q1
      injection q1 with q1 _ _
      subst q1 q3
      exact ⟨h4, cur, h3⟩
  have hcapm : cap ≤ 9223372036854775807 := by
    rcases hw.2 with ⟨h, _⟩ | ⟨g, c, cur, h, h2, h3, h4, h5, _⟩
    · cases h
    · injection h with q1 q2 q3
      subst q3
      unfold maxLen at h5
      omega
  have NE := Lib.hid (show bw ≠ bf ∧ g ≠ bf from ⟨nm_neB hcur hown, nm_neB h hown⟩)
  have c3 : w.cell? ⟨g, 3, none⟩ = some (.slice (some ⟨bw, 0, none⟩) k cap) := Blk.cell h 3
  have FB := Lib.hid h
  have OW := Lib.hid hw
  have HX := Lib.hid hx
  have HM := Lib.hid hown
  have HNF := Lib.hid hnf
  have HK := Lib.hid hk
  clear h hw hx hown hnf hcur hk
  go_enter Tryz.func100, Tryz.ntmps100
  go_wp2_with fail
  go_loopw [13] (fun iv wr => ∃ j : Nat, j ≤ n ∧ iv = .int .i64 j ∧ Hid (MedB wr g room bn bf (.slice (some ⟨bw, 0, none⟩) k cap) left off ∧ NM wr bf (nf + j) (nmAll D (X.take j)) ∧ Chg w wr (fun b => b = bf))) (fun iv _ => n - (intOf iv).toNat)
  case atStart => exact ⟨0, by omega, rfl, FB.out, HM.out, Chg.refl _ _⟩
  case round =>
    obtain ⟨j, hj, rfl, hh⟩ := hrel
    by_cases hlt : j < n
    · obtain ⟨f1, f2, f3⟩ := hh.out
      obtain ⟨x, hxj⟩ : ∃ x, X[j]? = some x := ⟨_, List.getElem?_eq_getElem (by have := HK.out; omega)⟩
      obtain ⟨e0, e1, e2, y1, y2, y3⟩ := HX.out.2 j x hxj
      have NX := Lib.hid (nmAll_more D X j x hxj)
      obtain ⟨sx, tx, fx⟩ := x
      simp only at e0 e1 e2 y1 y2 y3 NX
      have F1 := Lib.hid f1
      have F2 := Lib.hid f2
      have F3 := Lib.hid f3
      have OWR := f3.own OW.out (fun k' hk' hs => by
        have h : bw = k' := by simpa [Value.ownBlock] using hk'
        exact NE.out.1 (h.trans hs))
      have ND := Lib.hid (fun W (z : Still wr W) => naming_do sx tx fx y3 bf (nf + j) (nmAll D (X.take j)) W ((Chg.of_still z (fun _ => False)).nm f2 (fun h => h)) (by have := HNF.out; omega) y1 y2)
      obtain ⟨px, hpx⟩ : ∃ px, px = pv fx := ⟨_, rfl⟩
      have OC := Lib.hid (show px.oneCell' = true by
        rw [hpx]
        rcases y3 with rfl | h0
        · rw [pv_nil]; rfl
        · obtain ⟨m, rfl⟩ := Int.eq_ofNat_of_zero_le h0
          rw [pv_at]; rfl)
      rw [← hpx] at e2 ND
      have RNG := Lib.hid (show wr.rangeAt bw (j * 3) [.string sx, .string tx, px] from by
        intro i u hu
        have hl2 : cs.length = 3 * k := by rw [HX.out.1, HK.out]
        have h5 : ∀ q u', cs[q]? = some u' → wr.cell? ⟨bw, q, none⟩ = some u' := fun q u' hq => by
          have hq2 : q < cs.length := (List.getElem?_eq_some_iff.1 hq).1
          have h6 := OWR.cellAt q (by omega)
          rw [hq] at h6
          exact h6
        rw [Nat.mul_comm j 3]
        match i, hu with
        | 0, hu =>
          have hu' : u = .string sx := by simpa using hu.symm
          subst hu'
          exact h5 _ _ e0
        | 1, hu =>
          have hu' : u = .string tx := by simpa using hu.symm
          subst hu'
          exact h5 _ _ e1
        | 2, hu =>
          have hu' : u = px := by simpa using hu.symm
          subst hu'
          exact h5 _ _ e2)
      obtain ⟨gx, hgx⟩ : ∃ gx, gx = wr.heap.size := ⟨_, rfl⟩
      have BZ := Lib.hid (Blk.new wr 263 #[.string ⟨#[]⟩, .string ⟨#[]⟩, .pointer none])
      have FJ := Lib.hid hlt
      have ONE := Lib.hid (show (#[.string sx, .string tx, px] : Array Value).all (·.oneCell') = true by rw [List.all_toArray, List.all_cons, List.all_cons, List.all_cons, OC.out]; rfl)
      clear hh f1 f2 f3 e0 e1 e2 y1 y2 y3 OWR hxj hpx c3 OC
      go_upto_region 3 with (first
        | (guard_target =~ wpList _ _ _ (Oper.mk _ (Op.load _ _) _ _ _ _ :: _) _ _; go_must (refine load_midM (by kernel_rfl) 263 (.tmp 15) rfl bw (j * 3) (by kernel_rfl) [.string sx, .string tx, px] _ RNG.out Tryz.underlying263 rfl sizeNm ?_))
        | (guard_target =~ wpList _ _ _ (Oper.mk _ (Op.alloc _) _ _ _ _ :: _) _ _; go_must (refine wpList_alloc_arr rfl 263 rfl (some 5) rfl _ 3 Tryz.infoNaming ?_))
        | (guard_target =~ wpList _ _ _ (Oper.mk _ (Op.store _ _ _) _ _ _ _ :: _) _ _; go_must (refine wpList_storeNm rfl (.tmp 5) (.tmp 16) rfl wr.heap.size (by kernel_rfl) #[.string sx, .string tx, px] _ (by kernel_rfl) rfl rfl ONE.out BZ.out ?_)))
      rw [World.setRow_alloc_new, ← hgx]
      obtain ⟨w1, hw1⟩ : ∃ w1, w1 = wr.alloc (.cells #[.string sx, .string tx, px] 263) := ⟨_, rfl⟩
      rw [← hw1]
      have S1 := Lib.hid (show Still wr w1 by rw [hw1]; exact (Still.refl _).alloc (Nat.le_refl _) _)
      have B1 := Lib.hid (show Blk w1 gx 263 #[.string sx, .string tx, px] by rw [hw1, hgx]; exact Blk.new _ _ _)
      clear hw1 BZ hgx
      have SOK := Lib.hid (show ∀ W, Still w1 W → W.cell? ⟨gx, 0, none⟩ = some (.string sx) ∧ W.cell? ⟨gx, 1, none⟩ = some (.string tx) ∧ W.cell? ⟨gx, 2, none⟩ = some px ∧ W.cell? ⟨g, 2, none⟩ = some (.map (some bf)) from fun W z => ⟨(B1.out.still z).cell 0, (B1.out.still z).cell 1, (B1.out.still z).cell 2, (Blk.still F1.out (S1.out.trans z)).cell 2⟩)
      refine wp_region_late (S := fun W => W.cell? ⟨gx, 0, none⟩ = some (.string sx) ∧ W.cell? ⟨gx, 1, none⟩ = some (.string tx) ∧ W.cell? ⟨gx, 2, none⟩ = some px ∧ W.cell? ⟨g, 2, none⟩ = some (.map (some bf))) [5] (by kernel_rfl) (SOK.out _ ((Still.refl _).drew)) (fun hHeld => ?_)
      obtain ⟨wa, hwa⟩ : ∃ wa, wa = w1.drew := ⟨_, rfl⟩
      have SA := Lib.hid (show Still w1 wa by rw [hwa]; exact (Still.refl _).drew)
      try rw [← hwa] at hHeld
      rw [← hwa]
      clear hwa
      try simp only [Act.put, List.setIfInBounds_toArray, List.set_cons_zero, List.set_cons_succ]
      refine wpLate_take (i := 0) (v := .agg #[.string sx, .string tx, px]) [5] rfl (by kernel_rfl) (by kernel_rfl) (by kernel_rfl) (by kernel_rfl) (by kernel_rfl) (by decide) (fun _ _ _ h => h) (Or.inl ⟨by kernel_rfl, fun w hS => by obtain ⟨h0, h1, h2, h3⟩ := hS; go_simp⟩) (by assumption) (fun hHeld => ?_)
      try simp only [Act.put, List.setIfInBounds_toArray, List.set_cons_zero, List.set_cons_succ]
      refine wpLate_pure (i := 1) (v := .pointer (some ⟨g, 0, none⟩)) rfl (by kernel_rfl) (by kernel_rfl) (by kernel_rfl) (by kernel_rfl) (fun _ _ _ h => h) (Or.inl ⟨by kernel_rfl, fun w _ => by go_simp⟩) ?_
      try simp only [Act.put, List.setIfInBounds_toArray, List.set_cons_zero, List.set_cons_succ]
      refine wpLate_pure (i := 2) (v := .pointer (some ⟨g, 0, none⟩)) rfl (by kernel_rfl) (by kernel_rfl) (by kernel_rfl) (by kernel_rfl) (fun _ _ _ h => h) (Or.inl ⟨by kernel_rfl, fun w _ => by go_simp⟩) ?_
      try simp only [Act.put, List.setIfInBounds_toArray, List.set_cons_zero, List.set_cons_succ]
      refine wpLate_pure (i := 3) (v := .pointer (some ⟨g, 2, none⟩)) rfl (by kernel_rfl) (by kernel_rfl) (by kernel_rfl) (by kernel_rfl) (fun _ _ _ h => h) (Or.inl ⟨by kernel_rfl, fun w _ => by go_simp⟩) ?_
      try simp only [Act.put, List.setIfInBounds_toArray, List.set_cons_zero, List.set_cons_succ]
      refine wpLate_take (i := 4) (v := .map (some bf)) [5] rfl (by kernel_rfl) (by kernel_rfl) (by kernel_rfl) (by kernel_rfl) (by kernel_rfl) (by decide) (fun _ _ _ h => h) (Or.inl ⟨by kernel_rfl, fun w hS => by obtain ⟨h0, h1, h2, h3⟩ := hS; go_simp⟩) (by assumption) (fun hHeld => ?_)
      try simp only [Act.put, List.setIfInBounds_toArray, List.set_cons_zero, List.set_cons_succ]
      clear hHeld
      refine wpLate_one (i := 5) (o := ⟨some 22, .call { callee := .value (.func 161), args := #[.tmp 17, .tmp 21], argTypes := #[263, 144] }, _, _, _, none⟩) (by kernel_rfl) rfl (fun K' hK' => ?_)
      go_simp
      go_wp2_with (go_at_call 161; refine (ND.out _ (S1.out.trans SA.out)).mono ?_; rintro e w3 ⟨rfl, nm3, gr3⟩)
      have FI := Lib.hid (show MedB w3 g room bn bf (.slice (some ⟨bw, 0, none⟩) k cap) left off ∧ NM w3 bf (nf + (j + 1)) (nmAll D (X.take (j + 1))) ∧ Chg w w3 (fun b => b = bf) from by
        have C1 : Chg wr w3 (fun b => b = bf) := (Chg.of_still (S1.out.trans SA.out) _).trans (Chg.of_grown gr3 (S := fun b => b = bf) (fun k h _ => by simpa using h.symm)) (fun _ _ h => h)
        refine ⟨C1.blk F1.out NE.out.2, ?_, F3.out.trans C1 (fun _ _ h => h)⟩
        rw [NX.out]
        exact nm3)
      clear nm3 gr3 ND SOK SA S1 B1 RNG F1 F2 F3
      refine hK'.out _ _ (fun _ hu => absurd hu (by decide)) ?_
      clear hK' K'
      try simp only [Act.put, List.setIfInBounds_toArray, List.set_cons_zero, List.set_cons_succ]
      refine wpLate_done (by kernel_rfl) ?_ _
      go_wp2_with fail
      go_roundw
      case rel => exact ⟨j + 1, by have := FJ.out; omega, by go_num, FI.out⟩
      case measure => simp [intOf]; have := FJ.out; omega
    · obtain rfl : j = n := by omega
      obtain ⟨f1, f2, f3⟩ := hh.out
      have k3 : wr.cell? ⟨g, 3, none⟩ = some (.slice (some ⟨bw, 0, none⟩) k cap) := Blk.cell f1 3
      have kf := Blk.frozen f1 3
      have F1 := Lib.hid f1
      have F2 := Lib.hid f2
      have F3 := Lib.hid f3
      clear hh f1 f2 f3 c3
      go_wp2_with fail
      go_end0
      exact ⟨rfl, Blk.setc F1.out 3 _, (chg_set wr g 3 (.slice none 0 0)).nm F2.out (fun h => NE.out.2 h.symm), (F3.out.mono (fun b _ hs => .inr hs)).trans (chg_set wr g 3 _) (fun b _ hs => .inl hs)⟩
end Go.Proofs.YtfneloobfidckaaGreatDoor

/- Contracts: the closure that takes numbers. It proves no statement. -/

namespace Go.Proofs.YtfneloobfidckaaGreatDoor
open Go.RowKit Go.Maps Go.WideMaps
set_option linter.unusedVariables false
set_option linter.unusedSimpArgs false

/-- A row of numbers that reads, below B. -/
def ReadsI (w : World) (B : Nat → Prop) (A : Option Addr) (n : Nat) (zs : List Int) : Prop :=
  zs.length = n ∧ (0 < n → ∃ b o, A = some ⟨b, o, none⟩ ∧ B b ∧ b < w.heap.size ∧ ∀ i, i < n → w.cell? ⟨b, o + i, none⟩ = some (.int .i64 (zs.getD i 0)))
theorem ReadsI.chg {w w' : World} {B : Nat → Prop} {n : Nat} {A : Option Addr} {zs : List Int} {S : Nat → Prop} (h : ReadsI w B A n zs) (c : Chg w w' S) (hS : ∀ b, B b → ¬ S b) : ReadsI w' B A n zs :=
  ⟨h.1, fun hn => by
    obtain ⟨b, o, ha, hb, hl, hc⟩ := h.2 hn
    exact ⟨b, o, ha, hb, Nat.lt_of_lt_of_le hl c.size, fun i hi => (World.cell?_of_block (w := w) (c.block b hl (hS b hb))).trans (hc i hi)⟩⟩
/-- The closure's variable: what is left of the numbers. -/
def TK (w : World) (B : Nat → Prop) (gl : Nat) (zs : List Int) : Prop := ∃ A n c, Blk w gl 45 #[.slice A n c] ∧ n ≤ c ∧ c ≤ 9223372036854775807 ∧ ReadsI w B A n zs
theorem TK.chg {w w' : World} {B : Nat → Prop} {gl : Nat} {zs : List Int} {S : Nat → Prop} (h : TK w B gl zs) (c : Chg w w' S) (hS : ∀ b, B b → ¬ S b) (hg : ¬ S gl) : TK w' B gl zs := by
  obtain ⟨A, n, cc, h1, h2, h3, h4⟩ := h
  exact ⟨A, n, cc, c.blk h1 hg, h2, h3, h4.chg c hS⟩
/-- What is taken. -/
def tkN (zs : List Int) (most : Int) : Int := match zs with
  | [] => 0
  | z :: _ => min (max z 0) most
theorem tkN_le (zs : List Int) (most : Int) (h : 0 ≤ most) : 0 ≤ tkN zs most ∧ tkN zs most ≤ most := by
  unfold tkN
  cases zs with
  | nil => exact ⟨Int.le_refl _, h⟩
  | cons z zs => simp only; omega
set_option maxRecDepth 100000 in
set_option maxHeartbeats 1600000 in
theorem take_any {w : World} (B : Nat → Prop) (gl : Nat) (zs : List Int) (most : Int) (h : TK w B gl zs) (hB : ¬ B gl) :
    Calls Tryz.prog 160 #[.int .i64 most, .pointer (some ⟨gl, 0, none⟩)] w fun e w' => e = .returned (.int .i64 (tkN zs most)) ∧ TK w' B gl zs.tail ∧ Chg w w' (fun b => b = gl) := by
  obtain ⟨A, n, c, h1, h2, h3, h4⟩ := h
  have c0 : w.cell? ⟨gl, 0, none⟩ = some (.slice A n c) := h1.cell 0
  cases zs with
  | nil =>
    have hn : n = 0 := by have := h4.1; simpa using this.symm
    subst hn
    have H4 := Lib.hid h4
    have H1 := Lib.hid h1
    clear h4 h1
    go_enter Tryz.func160, Tryz.ntmps160
    go_wp2_with fail
    go_ret
    exact ⟨rfl, ⟨A, 0, c, H1.out, h2, h3, H4.out⟩, Chg.refl _ _⟩
  | cons z zs =>
    have hn : n = zs.length + 1 := by have := h4.1; simpa using this.symm
    obtain ⟨b, o, rfl, hb, hbl, hc⟩ := h4.2 (by omega)
    have c1 : w.cell? ⟨b, o, none⟩ = some (.int .i64 z) := hc 0 (by omega)
    have kf := h1.frozen 0
    have hnz : ¬ ((n : Int) = 0) := by omega
    have hn1 : 1 ≤ n := by omega
    have hn2 : (1 : Int) ≤ (n : Int) := by omega
    have hn3 : (0 : Int) < (n : Int) := by omega
    have HC := Lib.hid hc
    have H1 := Lib.hid h1
    have HN := Lib.hid hn
    clear h4 hc h1 hn
    by_cases hc1 : 1 = c
    · subst hc1
      have hne : n = 1 := by omega
      subst hne
      go_enter Tryz.func160, Tryz.ntmps160
      go_wp2_with fail
      go_ret
      refine ⟨rfl, ⟨some ⟨b, o, none⟩, 0, 0, Blk.setc H1.out 0 _, by omega, by omega, by have := HN.out; simp only [List.tail_cons]; omega, fun h0 => by omega⟩, chg_set _ _ _ _⟩
    · have hc2 : 1 < c := by omega
      have hc3 : ¬ c = 1 := by omega
      go_enter Tryz.func160, Tryz.ntmps160
      go_wp2_with fail
      go_ret
      refine ⟨rfl, ⟨some ⟨b, o + 1, none⟩, n - 1, c - 1, Blk.setc H1.out 0 _, by omega, by omega, by have := HN.out; simp only [List.tail_cons]; omega, fun h0 => ⟨b, o + 1, rfl, hb, by simpa [World.setCell] using hbl, fun i hi => ?_⟩⟩, chg_set _ _ _ _⟩
      have h5 := HC.out (i + 1) (by omega)
      have hglb : gl ≠ b := fun q => hB (by rw [q]; exact hb)
      rw [World.cell?_setCell_other _ _ _ _ (fun e => hglb (by simpa using congrArg Addr.block e))]
      rw [show o + 1 + i = o + (i + 1) by omega]
      simpa using h5
end Go.Proofs.YtfneloobfidckaaGreatDoor

/- Contract: what makes the closure. It proves no statement. -/

namespace Go.Proofs.YtfneloobfidckaaGreatDoor
open Go.RowKit Go.Maps Go.WideMaps
set_option linter.unusedVariables false
set_option linter.unusedSimpArgs false

theorem wpList_box_one {P : Program} {ops : Array Oper} {rest : List Oper} {o : Oper} {a : Act} {w : World} {Q : Exit → Act → World → Prop} (hg : o.guard = none) (t : TypeId) (x : Operand) (ho : o.op = .box t x) (dst : Option Tmp) (hdst : o.dst = dst) (A : Option Addr) (n c : Nat)
    (hx : a.eval x = .slice A n c) (h : wpList P ops Q rest (a.put dst (.pointer (some ⟨w.heap.size, 0, none⟩))) (w.alloc (.cells #[.slice A n c] t))) : wpList P ops Q (o :: rest) a w := by
  refine Go.Great.wpList_runTo hg dst hdst _ _ ?_ h
  unfold execOp
  simp [ho, hx, Instr.box, Value.cells, newVar, newRow, Sem.run_bind]
theorem taker_any {w : World} (A : Option Addr) (n c : Nat) (B : Nat → Prop) (zs : List Int) (h : ReadsI w B A n zs) (hc : n ≤ c) (hm : c ≤ 9223372036854775807) :
    Calls Tryz.prog 99 #[.slice A n c] w fun e w' => ∃ gl, e = .returned (.func (.func 160) #[] #[.pointer (some ⟨gl, 0, none⟩)]) ∧ w.heap.size ≤ gl ∧ TK w' B gl zs ∧ Still w w' := by
  obtain ⟨w1, hw1⟩ : ∃ w1, w1 = w.alloc (.cells #[.slice A n c] 45) := ⟨_, rfl⟩
  obtain ⟨gl, hgl⟩ : ∃ gl, gl = w.heap.size := ⟨_, rfl⟩
  have S1 := Lib.hid (show Still w w1 by rw [hw1]; exact (Still.refl _).alloc (Nat.le_refl _) _)
  have T1 := Lib.hid (show TK w1 B gl zs from ⟨A, n, c, by rw [hw1, hgl]; exact Blk.new _ _ _, hc, hm, h.chg (Chg.of_still S1.out (fun _ => False)) (fun _ _ h => h)⟩)
  have HW := Lib.hid hw1
  have HG := Lib.hid hgl
  clear h hw1 hgl
  have hmf : ∀ (fn : Fn) (first cap : Array Value) (w : World), (Instr.makeFunc fn first cap).run Tryz.prog w = .ok (.func fn first cap) w := fun _ _ _ _ => rfl
  go_enter Tryz.func99, Tryz.ntmps99
  go_upto_region 1 with (guard_target =~ wpList _ _ _ (Oper.mk _ (Op.box _ _) _ _ _ _ :: _) _ _; go_must (refine wpList_box_one rfl 45 (.tmp 0) rfl (some 1) rfl A n c (by kernel_rfl) ?_))
  rw [← HW.out, ← HG.out]
  go_wp2_with fail
  go_ret
  exact ⟨gl, rfl, by rw [HG.out]; exact Nat.le_refl _, T1.out, S1.out⟩
end Go.Proofs.YtfneloobfidckaaGreatDoor
