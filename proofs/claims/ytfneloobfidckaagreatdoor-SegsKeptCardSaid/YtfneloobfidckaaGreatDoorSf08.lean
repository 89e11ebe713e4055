/- Contracts and facts, several texts in one. It proves no statement. -/
import Derived.Test.YtfneloobfidckaaGreatDoorSf07

/- Any change of a file's bytes done; rows of changes. It proves no statement. -/

namespace Go.Proofs.YtfneloobfidckaaGreatDoor
open Go.RowKit Go.Maps Go.WideMaps
set_option linter.unusedVariables false
set_option linter.unusedSimpArgs false

theorem own_front {w : World} {base n e cv : Nat} {Av : Option Addr} {l : List UInt8} (h : w.ownsRow base 5 1 (.slice Av n cv) n (bytesV l)) (he : e ≤ n) : w.ownsRow base 5 1 (.slice Av e cv) e (bytesV (l.take e)) := by
  have hl : l.length = n := by have := h.1; rw [bytesV_length] at this; omega
  refine ⟨by rw [bytesV_length, List.length_take]; omega, ?_⟩
  rcases h.2 with ⟨h1, h2⟩ | ⟨g, cap, cur, h1, h2, h3, h4, h5, h6, h7⟩
  · injection h1 with q1 q2 q3
    subst q1 q3
    exact .inl ⟨by rw [show e = 0 by omega], by omega⟩
  · injection h1 with q1 q2 q3
    subst q1 q3
    refine .inr ⟨g, _, cur, rfl, h2, h3, by omega, h5, h6, ?_⟩
    rw [bytesV_take, ← h7, List.take_take]
    congr 1
    omega
set_option maxRecDepth 100000 in
set_option maxHeartbeats 1600000 in
/-- A change of bytes: they end at a place, and more are laid behind. -/
theorem change_any (v : Value) (base n en : Nat) (l : List UInt8) (A : Option Addr) (m c : Nat) (x : List UInt8) (w : World) (B : Nat) (hown : w.ownsRow base 5 1 v n (bytesV l)) (hbase : base ≤ w.heap.size) (hr : Reads w B A m x) (hB : B ≤ w.heap.size) (hA : A = none → c = 0) (he : en ≤ n) (hn : en + m ≤ 100000000) :
    Calls Tryz.prog 197 #[.agg #[.int .i64 en, .slice A m c], v] w fun e w' => ∃ v', e = .returned v' ∧ w'.ownsRow base 5 1 v' (en + m) (bytesV (l.take en ++ x)) ∧ w.grownBy w' v.ownBlock ∧ (v'.ownBlock = v.ownBlock ∨ ∃ j, v'.ownBlock = some j ∧ w.heap.size ≤ j) := by
  obtain ⟨Av, cv, rfl, f1, f2, f3⟩ := own_form hown
  obtain ⟨w1, hw1⟩ : ∃ w1, w1 = w.alloc (.cells #[.int .i64 en, .slice A m c] 267) := ⟨_, rfl⟩
  obtain ⟨g1, hg1⟩ : ∃ g1, g1 = w.heap.size := ⟨_, rfl⟩
  have S1 := Lib.hid (show Still w w1.drew by rw [hw1]; exact ((Still.refl w).alloc (Nat.le_refl _) _).drew)
  have O1 := Lib.hid (show w1.drew.ownsRow base 5 1 (.slice Av en cv) en (bytesV (l.take en)) from own_front (own_still hown S1.out) he)
  have he2 : (en : Int) ≤ (cv : Int) := by omega
  have he3 : en ≤ cv := by omega
  have he4 : (0 : Int) ≤ (en : Int) := by omega
  have HOB := Lib.hid (show (Value.slice Av en cv).ownBlock = (Value.slice Av n cv).ownBlock by cases Av <;> rfl)
  have R1 := Lib.hid (hr.still hB S1.out)
  have B1 := Lib.hid (show Blk w1 g1 267 #[.int .i64 en, .slice A m c] by rw [hw1, hg1]; exact Blk.new _ _ _)
  have k0 : w1.cell? ⟨g1, 0, none⟩ = some (.int .i64 en) := Blk.cell B1.out 0
  have k1 : w1.cell? ⟨g1, 1, none⟩ = some (.slice A m c) := Blk.cell B1.out 1
  have HW1 := Lib.hid hw1
  have HG1 := Lib.hid hg1
  have HA := Lib.hid hA
  have HBS := Lib.hid (Nat.le_trans hbase S1.out.size)
  have HN := Lib.hid hn
  have F := Lib.hid (And.intro f1 f2)
  clear hown hbase hr hB hA hw1 hg1 f3 he hn
  go_enter Tryz.func197, Tryz.ntmps197
  go_wp2_with fail
  rw [← HW1.out, ← HG1.out]
  go_still_tail 6, (by kernel_rfl)
  repeat still_step
  change wpList _ _ _ _ _ w1.drew
  go_wp2_with (at_builtin; go_must (refine wpList_adds_at w1.drew rfl (.tmp 8) (.tmp 10) rfl base (.slice Av en cv) en (l.take en) rfl O1.out A m c B x rfl R1.out HA.out ?c1 HBS.out ?_))
  case c1 => have := HN.out; omega
  intro v2 w2 own2 gr2 loc2
  rw [HOB.out] at gr2 loc2
  have OW2 := Lib.hid own2
  have GR2 := Lib.hid (show w.grownBy w2 (Value.slice Av n cv).ownBlock from ⟨gr2.os.trans S1.out.os, gr2.tape.trans S1.out.tape, gr2.output.trans S1.out.output, Nat.le_trans S1.out.size gr2.size, fun k hk hne => (gr2.block k (Nat.lt_of_lt_of_le hk S1.out.size) hne).trans (S1.out.block k hk)⟩)
  have LO2 := Lib.hid (show v2.ownBlock = (Value.slice Av n cv).ownBlock ∨ ∃ j, v2.ownBlock = some j ∧ w.heap.size ≤ j from by
    rcases loc2 with h | h
    · exact .inl h
    · exact .inr ⟨_, h, S1.out.size⟩)
  clear own2 gr2 loc2
  go_wp2_with fail
  go_ret
  exact ⟨_, rfl, OW2.out, GR2.out, LO2.out⟩

/-- A change: where the bytes end, what stands behind. -/
structure Ch where
  fin : Nat
  more : List UInt8
def Ch.app (b : List UInt8) (c : Ch) : List UInt8 := b.take c.fin ++ c.more
def appAll (b : List UInt8) (l : List Ch) : List UInt8 := l.foldl Ch.app b
theorem appAll_nil (b : List UInt8) : appAll b [] = b := rfl
theorem appAll_snoc (b : List UInt8) (l : List Ch) (c : Ch) : appAll b (l ++ [c]) = (appAll b l).take c.fin ++ c.more := by
  simp [appAll, Ch.app, List.foldl_append]
theorem appAll_step (b : List UInt8) (l : List Ch) (j : Nat) (c : Ch) (h : l[j]? = some c) : appAll b (l.take (j + 1)) = (appAll b (l.take j)).take c.fin ++ c.more := by
  rw [List.take_add_one, h]
  exact appAll_snoc b (l.take j) c
/-- Each change ends bytes that are there; nothing grows too long. -/
def ChOK (b : List UInt8) (l : List Ch) : Prop := b.length ≤ 16777216 ∧ ∀ j c, l[j]? = some c → c.fin ≤ (appAll b (l.take j)).length ∧ (c.more = [] ∨ c.fin = (appAll b (l.take j)).length) ∧ c.fin + c.more.length ≤ 16777216
theorem ChOK.nil {b : List UInt8} (h : b.length ≤ 16777216) : ChOK b [] := ⟨h, fun j c h => by simp at h⟩
theorem ChOK.len {b : List UInt8} {l : List Ch} (h : ChOK b l) : (appAll b l).length ≤ 16777216 := by
  rcases List.eq_nil_or_concat l with rfl | ⟨t, c, rfl⟩
  · exact h.1
  · rw [List.concat_eq_append] at h ⊢
    have := h.2 t.length c (by simp)
    rw [appAll_snoc, List.length_append, List.length_take]
    omega
theorem ChOK.front {b : List UInt8} {l : List Ch} (h : ChOK b l) (n : Nat) : ChOK b (l.take n) := by
  refine ⟨h.1, fun j c hj => ?_⟩
  rw [List.getElem?_take] at hj
  split at hj
  · rename_i hlt
    have := h.2 j c hj
    rw [List.take_take, show min j n = j by omega]
    exact this
  · cases hj
theorem ChOK.snoc {b : List UInt8} {l : List Ch} (h : ChOK b l) (c : Ch) (h1 : c.fin ≤ (appAll b l).length) (h2 : c.more = [] ∨ c.fin = (appAll b l).length) (h3 : c.fin + c.more.length ≤ 16777216) : ChOK b (l ++ [c]) := by
  refine ⟨h.1, fun j d hj => ?_⟩
  by_cases hlt : j < l.length
  · rw [List.getElem?_append_left hlt] at hj
    rw [List.take_append_of_le_length (by omega)]
    exact h.2 j d hj
  · have hl := (List.getElem?_eq_some_iff.1 hj).1
    have e : j = l.length := by simp at hl; omega
    subst e
    have : d = c := by simpa using hj.symm
    subst this
    rw [List.take_left' rfl]
    exact ⟨h1, h2, h3⟩

/-- A row of changes in memory: the cells cs; the j-th one's bytes lie in a block of F j. -/
def HasC (w : World) (base : Nat) (W : List Ch) (cs : List Value) (F : Nat → Nat → Prop) : Prop :=
  cs.length = 2 * W.length ∧ ∀ j c, W[j]? = some c → ∃ cv, cs[2 * j]? = some (.int .i64 (c.fin : Int)) ∧ cs[2 * j + 1]? = some cv ∧ w.ownsRow base 5 1 cv c.more.length (bytesV c.more) ∧ ∀ k, cv.ownBlock = some k → F j k
theorem HasC.nil (w : World) (base : Nat) (F : Nat → Nat → Prop) : HasC w base [] [] F := ⟨rfl, fun j c h => by simp at h⟩
theorem HasC.keep {w w' : World} {base : Nat} {W : List Ch} {cs : List Value} {F : Nat → Nat → Prop} {S : Nat → Prop} (h : HasC w base W cs F) (c : Chg w w' S) (hS : ∀ j k, F j k → ¬ S k) : HasC w' base W cs F :=
  ⟨h.1, fun j x hx => by
    obtain ⟨cv, h1, h2, h3, h4⟩ := h.2 j x hx
    exact ⟨cv, h1, h2, c.own h3 (fun k hk => hS j k (h4 k hk)), h4⟩⟩
theorem HasC.mono {w : World} {base : Nat} {W : List Ch} {cs : List Value} {F G : Nat → Nat → Prop} (h : HasC w base W cs F) (hS : ∀ j k, j < W.length → k < w.heap.size → F j k → G j k) : HasC w base W cs G :=
  ⟨h.1, fun j x hx => by
    obtain ⟨cv, h1, h2, h3, h4⟩ := h.2 j x hx
    exact ⟨cv, h1, h2, h3, fun k hk => hS j k (List.getElem?_eq_some_iff.1 hx).1 (h3.lt k hk).2 (h4 k hk)⟩⟩
theorem HasC.snoc {w : World} {base : Nat} {W : List Ch} {cs : List Value} {F : Nat → Nat → Prop} (h : HasC w base W cs F) (c : Ch) (cv : Value) (ho : w.ownsRow base 5 1 cv c.more.length (bytesV c.more)) (hF : ∀ k, cv.ownBlock = some k → F W.length k) :
    HasC w base (W ++ [c]) (cs ++ [.int .i64 (c.fin : Int), cv]) F := by
  refine ⟨by simp [h.1]; omega, fun j y hy => ?_⟩
  by_cases hj : j < W.length
  · rw [List.getElem?_append_left hj] at hy
    obtain ⟨cv', h1, h2, h3, h4⟩ := h.2 j y hy
    refine ⟨cv', ?_, ?_, h3, h4⟩
    · rw [List.getElem?_append_left (by rw [h.1]; omega)]; exact h1
    · rw [List.getElem?_append_left (by rw [h.1]; omega)]; exact h2
  · have hl : j < (W ++ [c]).length := (List.getElem?_eq_some_iff.1 hy).1
    have hje : j = W.length := by simp at hl; omega
    subst hje
    have hyx : y = c := by simpa using hy.symm
    subst hyx
    refine ⟨cv, ?_, ?_, ho, hF⟩
    · rw [List.getElem?_append_right (by rw [h.1]; omega), h.1]; simp
    · rw [List.getElem?_append_right (by rw [h.1]; omega), h.1]; simp
end Go.Proofs.YtfneloobfidckaaGreatDoor

/- A file's settle, whatever changes wait. It proves no statement. -/

namespace Go.Proofs.YtfneloobfidckaaGreatDoor
open Go.RowKit Go.Maps Go.WideMaps
set_option linter.unusedVariables false
set_option linter.unusedSimpArgs false

set_option maxRecDepth 100000 in
set_option maxHeartbeats 6400000 in
theorem fsettle_any {w : World} (gf : Nat) (nv fv : Value) (base n k bw cap : Nat) (l : List UInt8) (Y : List Ch) (cs : List Value) (F : Nat → Nat → Prop) (hf : FileB w gf nv fv (.slice (some ⟨bw, 0, none⟩) k cap)) (hw : w.ownsRow base 267 2 (.slice (some ⟨bw, 0, none⟩) k cap) k cs)
    (hx : HasC w base Y cs F) (hk : k = Y.length) (hfv : w.ownsRow base 5 1 fv l.length (bytesV l)) (hsep : ∀ b, fv.ownBlock = some b → ∀ i, ¬ F i b) (hFg : ∀ i, ¬ F i gf) (hbase : base ≤ w.heap.size) (hn : n ≤ k) (hk6 : k ≤ 1000000) (htot : ChOK l Y) :
    Calls Tryz.prog 150 #[.pointer (some ⟨gf, 0, none⟩), .int .i64 (n : Int)] w fun e w' => e = .returned (.tuple #[]) ∧ ∃ fv', FileB w' gf nv fv' (.slice none 0 0) ∧ w'.ownsRow base 5 1 fv' (appAll l (Y.take n)).length (bytesV (appAll l (Y.take n))) ∧ Chg w w' (fun b => b = gf ∨ fv.ownBlock = some b) ∧ (fv'.ownBlock = fv.ownBlock ∨ ∃ j, fv'.ownBlock = some j ∧ w.heap.size ≤ j) := by
  obtain ⟨hgl, hcap, cur, hcur, hbw⟩ : gf < w.heap.size ∧ k ≤ cap ∧ ∃ cur, Blk w bw 267 cur ∧ base ≤ bw := by
    rcases hw.2 with ⟨h, _⟩ | ⟨g, c, cur, h, h2, h3, h4, _⟩
    · cases h
    · injection h with q1 q2 q3
      injection q1 with q1
      injection q1 with q1 _ _
      subst q1 q3
      exact ⟨hf.lt, h4, cur, h3, h2⟩
  have hcapm : cap ≤ 9223372036854775807 := by
    rcases hw.2 with ⟨h, _⟩ | ⟨g, c, cur, h, h2, h3, h4, h5, _⟩
    · cases h
    · injection h with q1 q2 q3
      subst q3
      unfold maxLen at h5
      omega
  have hgb : gf ≠ bw := by
    intro e
    subst e
    have h1 : w.heap[gf]? = some (.cells #[nv, fv, .slice (some ⟨gf, 0, none⟩) k cap] 203 (0, 0)) := hf
    have h2 : w.heap[gf]? = some (.cells cur 267 (0, 0)) := hcur
    rw [h1] at h2
    simp at h2
  have hfb : fv.ownBlock ≠ some bw := by
    intro e
    rcases hfv.2 with ⟨h, _⟩ | ⟨g, c, cur', h, h2, h3, _⟩
    · rw [h] at e; cases e
    · rw [h] at e
      have e' : g = bw := by simpa [Value.ownBlock] using e
      subst e'
      have h4 : w.heap[g]? = some (.cells cur 267 (0, 0)) := hcur
      rw [h3] at h4
      simp at h4
  have hfg : fv.ownBlock ≠ some gf := by
    intro e
    rcases hfv.2 with ⟨h, _⟩ | ⟨g, c, cur', h, h2, h3, _⟩
    · rw [h] at e; cases e
    · rw [h] at e
      have e' : g = gf := by simpa [Value.ownBlock] using e
      subst e'
      have h4 : w.heap[g]? = some (.cells #[nv, fv, .slice (some ⟨bw, 0, none⟩) k cap] 203 (0, 0)) := hf
      rw [h3] at h4
      simp at h4
  obtain ⟨S, hS⟩ : ∃ S : Nat → Prop, S = fun b => b = gf ∨ fv.ownBlock = some b := ⟨_, rfl⟩
  have SF := Lib.hid (show ∀ i b, F i b → ¬ S b from fun i b hb hs => by
    rw [hS] at hs
    rcases hs with rfl | hs
    · exact hFg i hb
    · exact hsep b hs i hb)
  have SB := Lib.hid (show ¬ S bw from fun hs => by
    rw [hS] at hs
    rcases hs with hs | hs
    · exact hgb hs.symm
    · exact hfb hs)
  rw [← hS]
  have c2 : w.cell? ⟨gf, 2, none⟩ = some (.slice (some ⟨bw, 0, none⟩) k cap) := hf.cell 2
  have FB := Lib.hid hf
  have OW := Lib.hid hw
  have HX := Lib.hid hx
  have HF := Lib.hid hfv
  have HB := Lib.hid hbase
  have HS := Lib.hid hS
  have HT := Lib.hid htot
  have GL := Lib.hid hgl
  have GB := Lib.hid (And.intro hgb (And.intro hfb hfg))
  have HK := Lib.hid hk
  clear hf hw hx hfv hsep hFg hbase htot hgl hcur hgb hfb hfg hS hbw hk
  go_enter Tryz.func150, Tryz.ntmps150
  go_wp2_with fail
  go_loopw [13] (fun iv wr => ∃ j : Nat, j ≤ n ∧ iv = .int .i64 j ∧ Hid (∃ fj, FileB wr gf nv fj (.slice (some ⟨bw, 0, none⟩) k cap) ∧ wr.ownsRow base 5 1 fj (appAll l (Y.take j)).length (bytesV (appAll l (Y.take j))) ∧ Chg w wr S ∧ (fj.ownBlock = fv.ownBlock ∨ ∃ q, fj.ownBlock = some q ∧ w.heap.size ≤ q))) (fun iv _ => n - (intOf iv).toNat)
  case atStart => exact ⟨0, by omega, rfl, fv, FB.out, HF.out, Chg.refl _ _, .inl rfl⟩
  case round =>
    obtain ⟨j, hj, rfl, hh⟩ := hrel
    by_cases hlt : j < n
    · obtain ⟨fj, f1, f2, f3, f4⟩ := hh.out
      obtain ⟨x, hxj⟩ : ∃ x, Y[j]? = some x := ⟨_, List.getElem?_eq_getElem (by have := HK.out; omega)⟩
      obtain ⟨cv, e0, e1, e2, e3⟩ := (HX.out.keep f3 SF.out).2 j x hxj
      obtain ⟨Ac, cc, rfl, q1, q2, q3⟩ := own_form e2
      obtain ⟨mc, hmc⟩ : ∃ mc, mc = x.more.length := ⟨_, rfl⟩
      obtain ⟨en, hen⟩ : ∃ en, en = x.fin := ⟨_, rfl⟩
      obtain ⟨L, hL⟩ : ∃ L, L = appAll l (Y.take j) := ⟨_, rfl⟩
      obtain ⟨nL, hnL⟩ : ∃ nL, nL = L.length := ⟨_, rfl⟩
      have LL := Lib.hid (show en ≤ nL by rw [hen, hnL, hL]; exact (HT.out.2 j x hxj).1)
      have NX := Lib.hid (show appAll l (Y.take (j + 1)) = L.take en ++ x.more by rw [appAll_step l Y j x hxj, hen, hL])
      have NX2 := Lib.hid (show (appAll l (Y.take (j + 1))).length = en + mc by
        rw [NX.out, List.length_append, List.length_take, hmc]; have := LL.out; omega)
      have EN := Lib.hid (show en + mc ≤ 100000000 by have := (HT.out.2 j x hxj).2.2; omega)
      rw [← hL, ← hnL] at f2
      rw [← hen] at e0
      rw [← hmc] at e2 q1 e1 e3
      obtain ⟨Av, vc, rfl, v1, v2, v3⟩ := own_form f2
      have F1 := Lib.hid f1
      have F2 := Lib.hid f2
      have F3 := Lib.hid f3
      have F4 := Lib.hid f4
      have E2 := Lib.hid e2
      have OWR := f3.own OW.out (fun k' hk' => by have h : bw = k' := by simpa [Value.ownBlock] using hk'
                                                  subst h; exact SB.out)
      have RNG := Lib.hid (show wr.rangeAt bw (2 * j) [.int .i64 (en : Int), .slice Ac mc cc] from by
        intro i u hu
        have hl2 : cs.length = 2 * k := by rw [HX.out.1, HK.out]
        have h5 : ∀ q u', cs[q]? = some u' → wr.cell? ⟨bw, q, none⟩ = some u' := fun q u' hq => by
          have hq2 : q < cs.length := (List.getElem?_eq_some_iff.1 hq).1
          have h6 := OWR.cellAt q (by omega)
          rw [hq] at h6
          exact h6
        match i, hu with
        | 0, hu =>
          have hu' : u = .int .i64 (en : Int) := by simpa using hu.symm
          subst hu'
          exact h5 _ _ e0
        | 1, hu =>
          have hu' : u = .slice Ac mc cc := by simpa using hu.symm
          subst hu'
          exact h5 _ _ e1)
      have RNG := Lib.hid (show wr.rangeAt bw (j * 2) [.int .i64 (en : Int), .slice Ac mc cc] by rw [Nat.mul_comm]; exact RNG.out)
      obtain ⟨gx, hgx⟩ : ∃ gx, gx = wr.heap.size := ⟨_, rfl⟩
      have BZ := Lib.hid (Blk.new wr 267 #[.int .i64 0, .slice none 0 0])
      have FJ := Lib.hid hlt
      have HFR := Lib.hid (F1.out.frozen 1)
      have G1 := Lib.hid (show gx ≠ gf by rw [hgx]; exact Nat.ne_of_gt F1.out.lt)
      have SZ := Lib.hid (show w.heap.size ≤ gx by rw [hgx]; exact F3.out.size)
      clear hh f1 f2 f3 f4 e0 e1 e2 e3 OWR hxj hen hL hmc hnL c2
      go_upto_region 3 with (first
        | (guard_target =~ wpList _ _ _ (Oper.mk _ (Op.load _ _) _ _ _ _ :: _) _ _; go_must (refine load_midM (by kernel_rfl) 267 (.tmp 15) rfl bw (j * 2) (by kernel_rfl) [.int .i64 (en : Int), .slice Ac mc cc] _ RNG.out Tryz.underlying267 rfl sizeCh ?_))
        | (guard_target =~ wpList _ _ _ (Oper.mk _ (Op.alloc _) _ _ _ _ :: _) _ _; go_must (refine wpList_alloc_arr rfl 267 rfl (some 5) rfl _ 2 Tryz.infoChange ?_))
        | (guard_target =~ wpList _ _ _ (Oper.mk _ (Op.store _ _ _) _ _ _ _ :: _) _ _; go_must (refine wpList_storeCh rfl (.tmp 5) (.tmp 16) rfl wr.heap.size (by kernel_rfl) #[.int .i64 (en : Int), .slice Ac mc cc] _ (by kernel_rfl) rfl rfl (by kernel_rfl) BZ.out ?_)))
      rw [World.setRow_alloc_new, ← hgx]
      obtain ⟨w1, hw1⟩ : ∃ w1, w1 = wr.alloc (.cells #[.int .i64 (en : Int), .slice Ac mc cc] 267) := ⟨_, rfl⟩
      rw [← hw1]
      have S1 := Lib.hid (show Still wr w1 by rw [hw1]; exact (Still.refl _).alloc (Nat.le_refl _) _)
      have B1 := Lib.hid (show Blk w1 gx 267 #[.int .i64 (en : Int), .slice Ac mc cc] by rw [hw1, hgx]; exact Blk.new _ _ _)
      clear hw1 BZ hgx
      have SOK := Lib.hid (show ∀ W, Still w1 W → W.cell? ⟨gx, 0, none⟩ = some (.int .i64 (en : Int)) ∧ W.cell? ⟨gx, 1, none⟩ = some (.slice Ac mc cc) ∧ W.cell? ⟨gf, 1, none⟩ = some (.slice Av nL vc) from fun W z => ⟨(B1.out.still z).cell 0, (B1.out.still z).cell 1, (Blk.still F1.out (S1.out.trans z)).cell 1⟩)
      refine wp_region_late (S := fun W => W.cell? ⟨gx, 0, none⟩ = some (.int .i64 (en : Int)) ∧ W.cell? ⟨gx, 1, none⟩ = some (.slice Ac mc cc) ∧ W.cell? ⟨gf, 1, none⟩ = some (.slice Av nL vc)) [6, 9] (by kernel_rfl) (SOK.out _ ((Still.refl _).drew)) (fun hHeld => ?_)
      obtain ⟨wa, hwa⟩ : ∃ wa, wa = w1.drew := ⟨_, rfl⟩
      have SA := Lib.hid (show Still w1 wa by rw [hwa]; exact (Still.refl _).drew)
      try rw [← hwa] at hHeld
      rw [← hwa]
      clear hwa
      try simp only [Act.put, List.setIfInBounds_toArray, List.set_cons_zero, List.set_cons_succ]
      refine wpLate_pure (i := 0) (v := .pointer (some ⟨gf, 0, none⟩)) rfl (by kernel_rfl) (by kernel_rfl) (by kernel_rfl) (by kernel_rfl) (fun _ _ _ h => h) (Or.inl ⟨by kernel_rfl, fun w _ => by go_simp⟩) ?_
      try simp only [Act.put, List.setIfInBounds_toArray, List.set_cons_zero, List.set_cons_succ]
      refine wpLate_take (i := 1) (v := .agg #[.int .i64 (en : Int), .slice Ac mc cc]) [6, 9] rfl (by kernel_rfl) (by kernel_rfl) (by kernel_rfl) (by kernel_rfl) (by kernel_rfl) (by decide) (fun _ _ _ h => h) (Or.inl ⟨by kernel_rfl, fun w hS => by obtain ⟨h0, h1, h2⟩ := hS; go_simp⟩) (by assumption) (fun hHeld => ?_)
      try simp only [Act.put, List.setIfInBounds_toArray, List.set_cons_zero, List.set_cons_succ]
      refine wpLate_pure (i := 2) (v := .pointer (some ⟨gf, 0, none⟩)) rfl (by kernel_rfl) (by kernel_rfl) (by kernel_rfl) (by kernel_rfl) (fun _ _ _ h => h) (Or.inl ⟨by kernel_rfl, fun w _ => by go_simp⟩) ?_
      try simp only [Act.put, List.setIfInBounds_toArray, List.set_cons_zero, List.set_cons_succ]
      refine wpLate_pure (i := 3) (v := .pointer (some ⟨gf, 0, none⟩)) rfl (by kernel_rfl) (by kernel_rfl) (by kernel_rfl) (by kernel_rfl) (fun _ _ _ h => h) (Or.inl ⟨by kernel_rfl, fun w _ => by go_simp⟩) ?_
      try simp only [Act.put, List.setIfInBounds_toArray, List.set_cons_zero, List.set_cons_succ]
      refine wpLate_pure (i := 4) (v := .pointer (some ⟨gf, 1, none⟩)) rfl (by kernel_rfl) (by kernel_rfl) (by kernel_rfl) (by kernel_rfl) (fun _ _ _ h => h) (Or.inl ⟨by kernel_rfl, fun w _ => by go_simp⟩) ?_
      try simp only [Act.put, List.setIfInBounds_toArray, List.set_cons_zero, List.set_cons_succ]
      refine wpLate_take (i := 5) (v := .slice Av nL vc) [6, 9] rfl (by kernel_rfl) (by kernel_rfl) (by kernel_rfl) (by kernel_rfl) (by kernel_rfl) (by decide) (fun _ _ _ h => h) (Or.inl ⟨by kernel_rfl, fun w hS => by obtain ⟨h0, h1, h2⟩ := hS; go_simp⟩) (by assumption) (fun hHeld => ?_)
      try simp only [Act.put, List.setIfInBounds_toArray, List.set_cons_zero, List.set_cons_succ]

      clear hHeld
      have CA := Lib.hid (change_any (.slice Av nL vc) base nL en L Ac mc cc x.more wa wa.heap.size (own_still F2.out (S1.out.trans SA.out)) (Nat.le_trans HB.out (Nat.le_trans F3.out.size (S1.out.trans SA.out).size)) (Reads.of_own (own_low (own_still E2.out (S1.out.trans SA.out)) (Nat.le_refl _))) (Nat.le_refl _) (fun e => (q3 e).2) LL.out EN.out)
      refine wpLate_one (i := 6) (o := ⟨some 23, .call { callee := .value (.func 197), args := #[.tmp 18, .tmp 22], argTypes := #[267, 42] }, _, _, _, none⟩) (by kernel_rfl) rfl (fun K' hK' => ?_)
      go_simp
      go_wp2_with (go_at_call 197; refine CA.out.mono ?_; rintro e w3 ⟨v3, rfl, own3, gr3, loc3⟩)
      obtain ⟨A4, c4, rfl, z1, z2, z3⟩ := own_form own3
      have C3 := Lib.hid (show Chg wr w3 (fun b => (Value.slice Av nL vc).ownBlock = some b) from (Chg.of_still (S1.out.trans SA.out) _).trans (Chg.of_grown gr3 (S := fun b => (Value.slice Av nL vc).ownBlock = some b) (fun _ h _ => h)) (fun _ _ h => h))
      have NE := Lib.hid (own_neM F1.out F2.out (by decide))
      have F5 := Lib.hid (show FileB w3 gf nv (.slice Av nL vc) (.slice (some ⟨bw, 0, none⟩) k cap) from C3.out.blk F1.out NE.out)
      have NE4 := Lib.hid (own_neM F5.out own3 (by decide))
      have O3 := Lib.hid own3
      have L3 := Lib.hid (show (Value.slice A4 (en + mc) c4).ownBlock = (Value.slice Av nL vc).ownBlock ∨ ∃ q, (Value.slice A4 (en + mc) c4).ownBlock = some q ∧ w.heap.size ≤ q from by
        rcases loc3 with h | ⟨q, h, hq⟩
        · exact .inl h
        · exact .inr ⟨q, h, Nat.le_trans F3.out.size (Nat.le_trans (S1.out.trans SA.out).size hq)⟩)
      clear own3 gr3 loc3 z1 z2 z3 CA SOK SA S1 B1 RNG
      refine hK'.out _ _ (fun _ hu => absurd hu (by decide)) ?_
      clear hK' K'
      try simp only [Act.put, List.setIfInBounds_toArray, List.set_cons_zero, List.set_cons_succ]
      refine wpLate_pure (i := 7) (v := .pointer (some ⟨gf, 0, none⟩)) rfl (by kernel_rfl) (by kernel_rfl) (by kernel_rfl) (by kernel_rfl) (fun _ _ _ h => h) (Or.inl ⟨by kernel_rfl, fun w _ => by go_simp⟩) ?_
      try simp only [Act.put, List.setIfInBounds_toArray, List.set_cons_zero, List.set_cons_succ]
      refine wpLate_pure (i := 8) (v := .pointer (some ⟨gf, 1, none⟩)) rfl (by kernel_rfl) (by kernel_rfl) (by kernel_rfl) (by kernel_rfl) (fun _ _ _ h => h) (Or.inl ⟨by kernel_rfl, fun w _ => by go_simp⟩) ?_
      try simp only [Act.put, List.setIfInBounds_toArray, List.set_cons_zero, List.set_cons_succ]
      refine wpLate_one (i := 9) (o := ⟨none, .store 42 (.tmp 25) (.tmp 23), _, _, _, none⟩) (by kernel_rfl) rfl (fun K' hK' => ?_)
      rw [if_pos (by kernel_rfl)]
      have kc : w3.cell? ⟨gf, 1, none⟩ = some (.slice Av nL vc) := F5.out.cell 1
      have kf := F5.out.frozen 1
      with_reducible refine step_storeC w3 42 (.tmp 25) (.tmp 23) (by kernel_rfl) gf 1 (.slice A4 (en + mc) c4) (.slice Av nL vc) (by kernel_rfl) (by kernel_rfl) rfl (by kernel_rfl) kc kf ?_
      clear kc kf
      obtain ⟨w4, hw4⟩ : ∃ w4, w4 = w3.setCell ⟨gf, 1, none⟩ (.slice A4 (en + mc) c4) := ⟨_, rfl⟩
      rw [← hw4]
      have C4 := Lib.hid (show Chg w3 w4 (fun b => b = gf) by rw [hw4]; exact chg_set _ _ _ _)
      have F6 := Lib.hid (show FileB w4 gf nv (.slice A4 (en + mc) c4) (.slice (some ⟨bw, 0, none⟩) k cap) by rw [hw4]; exact Blk.setc F5.out 1 _)
      have FI4 := Lib.hid (show ∃ fj, FileB w4 gf nv fj (.slice (some ⟨bw, 0, none⟩) k cap) ∧ w4.ownsRow base 5 1 fj (appAll l (Y.take (j + 1))).length (bytesV (appAll l (Y.take (j + 1)))) ∧ Chg w w4 S ∧ (fj.ownBlock = fv.ownBlock ∨ ∃ q, fj.ownBlock = some q ∧ w.heap.size ≤ q) from by
        refine ⟨_, F6.out, ?_, ?_, ?_⟩
        · rw [NX2.out, NX.out]
          exact C4.out.own O3.out (fun b hb hs => NE4.out (by rw [hb, hs]))
        · refine (Chg.trans F3.out C3.out ?_).trans C4.out ?_
          · intro b hb hs
            rcases F4.out with h | ⟨q, h, hq⟩
            · rw [HS.out]; exact .inr (by rw [← h]; exact hs)
            · rw [h] at hs
              have : q = b := by simpa using hs
              omega
          · intro b hb hs
            rw [HS.out]
            exact .inl hs
        · rcases L3.out with h | h
          · rw [h]; exact F4.out
          · exact .inr h)
      clear hw4 C3 C4 F5 F6 O3 L3 NE NE4
      refine hK'.out _ _ (fun _ hu => absurd hu (by decide)) ?_
      clear hK' K'
      try simp only [Act.put, List.setIfInBounds_toArray, List.set_cons_zero, List.set_cons_succ]
      refine wpLate_done (by kernel_rfl) ?_ _
      go_wp2_with fail
      go_roundw
      case rel => exact ⟨j + 1, by have := FJ.out; omega, by go_num, FI4.out⟩
      case measure => simp [intOf]; have := FJ.out; omega
    · obtain rfl : j = n := by omega
      obtain ⟨fj, f1, f2, f3, f4⟩ := hh.out
      have k2 : wr.cell? ⟨gf, 2, none⟩ = some (.slice (some ⟨bw, 0, none⟩) k cap) := f1.cell 2
      have kf := f1.frozen 2
      have NE := Lib.hid (own_neM f1 f2 (by decide))
      have F1 := Lib.hid f1
      have F2 := Lib.hid f2
      have F3 := Lib.hid f3
      have F4 := Lib.hid f4
      clear hh f1 f2 f3 f4 c2
      go_wp2_with fail
      go_end0
      refine ⟨rfl, fj, Blk.setc F1.out 2 _, (chg_set wr gf 2 (.slice none 0 0)).own F2.out (fun b hb hs => NE.out (by rw [hb, hs])), F3.out.trans (chg_set wr gf 2 _) (fun b _ hs => by rw [HS.out]; exact .inl hs), F4.out⟩
end Go.Proofs.YtfneloobfidckaaGreatDoor
