/- Contracts and facts, several texts in one. It proves no statement. -/
import Derived.Test.YtblgphfdicffcaaGreatDoorHfe

/- Contracts: Sync and SyncDir, where no error is met. They ask what settling does. It proves no statement. -/

namespace Go.Proofs.YtblgphfdicffcaaGreatDoor
open Go.RowKit Go.Maps Go.WideMaps
set_option linter.unusedVariables false
set_option linter.unusedSimpArgs false

/-- A file's settle, where nothing waits. -/
theorem fsettle_nil {w : World} (gf : Nat) (nv fv : Value) (hf : FileB w gf nv fv (.slice none 0 0)) :
    Calls Tryz.prog 134 #[.pointer (some ⟨gf, 0, none⟩), .int .i64 0] w fun e w' => e = .returned (.tuple #[]) ∧ FileB w' gf nv fv (.slice none 0 0) ∧ Chg w w' (fun b => b = gf) := by
  have c2 : w.cell? ⟨gf, 2, none⟩ = some (.slice none 0 0) := hf.cell 2
  have kf := hf.frozen 2
  have FB := Lib.hid hf
  clear hf
  go_enter Tryz.func134, Tryz.ntmps134
  go_wp2_with fail
  go_loopw [13] (fun iv wr => iv = .int .i64 0 ∧ wr = w) (fun iv _ => 0)
  case atStart => exact ⟨rfl, rfl⟩
  case round =>
    obtain ⟨rfl, hw⟩ := hrel
    have hw' := hw.symm
    subst hw'
    clear hw
    go_wp2_with fail
    go_end0
    exact ⟨rfl, Blk.setc FB.out 2 _, chg_set _ gf 2 _⟩
theorem step_ok {left : Int} (hl0 : left ≠ 0) : (stepR left false).2.2 = 0 ∧ (stepR left false).2.1 = false := by
  unfold stepR
  rw [if_neg hl0]
  split <;> exact ⟨rfl, rfl⟩
set_option maxRecDepth 100000 in
set_option maxHeartbeats 1600000 in
theorem sync_ok {w : World} {g : Nat} {room : Int} {bn bf : Nat} {wv : Value} {left : Int} (h : MedB w g room bn bf wv left false) (hl : left ≤ 9223372036854775807) (hl0 : left ≠ 0) (s : ByteArray) (hs : s.size ≤ maxLen) (n : Nat) (D : DataW Unit) (hown : NM w bn n D)
    (gf k c : Nat) (A : Option Addr) (nv fv : Value) (hlk : look D s = (gf : Int)) (hf : FileB w gf nv fv (.slice A k c)) (hgg : gf ≠ g) (R : World → World → Prop)
    (SE : ∀ W, Chg w W (fun b => b = g) → Calls Tryz.prog 134 #[.pointer (some ⟨gf, 0, none⟩), .int .i64 (k : Int)] W fun e w' => e = .returned (.tuple #[]) ∧ R W w') :
    Calls Tryz.prog 101 #[.pointer (some ⟨g, 0, none⟩), .string s] w fun e w' => e = .returned (.int .i64 0) ∧ ∃ W, MedB W g room bn bf wv (stepR left false).1 false ∧ Chg w W (fun b => b = g) ∧ R W w' := by
  have FD := Lib.hid (find_yes h s n D hown hs)
  rw [hlk, show findV false (gf : Int) = pv (gf : Int) from rfl, pv_at, show findE false (gf : Int) = if (gf : Int) < 0 then 9 else 0 from rfl, if_neg (by omega)] at FD
  have ST0 := step_yes h hl
  have st := step_ok hl0
  rw [st.1, st.2] at ST0
  have ST := Lib.hid ST0
  have HF := Lib.hid (fun W (ch : Chg w W (fun b => b = g)) => (show W.cell? ⟨gf, 2, none⟩ = some (.slice A k c) from Blk.cell (ch.blk hf hgg) 2))
  have SEH := Lib.hid SE
  clear h hl hs hown hlk hf SE ST0 st
  go_enter Tryz.func101, Tryz.ntmps101
  go_wp2_with fail
  refine FD.out.mono ?_
  rintro e w2 ⟨rfl, rfl⟩
  go_wp2_with fail
  refine ST.out.mono ?_
  rintro e w3 ⟨rfl, m3, g3⟩
  have C3 := Lib.hid (show Chg w w3 (fun b => b = g) from Chg.of_grown g3 (fun k h _ => by simpa using h.symm))
  have M3 := Lib.hid m3
  have c2 := HF.out _ C3.out
  clear m3 g3
  go_wp2_with fail
  refine (SEH.out _ C3.out).mono ?_
  rintro e w4 ⟨rfl, r4⟩
  have R4 := Lib.hid r4
  clear r4 c2
  go_wp2_with fail
  go_ret
  exact ⟨rfl, w3, M3.out, C3.out, R4.out⟩
set_option maxRecDepth 100000 in
set_option maxHeartbeats 1600000 in
theorem syncDir_ok {w : World} {g : Nat} {room : Int} {bn bf : Nat} {left : Int} (k c : Nat) (A : Option Addr) (h : MedB w g room bn bf (.slice A k c) left false) (hl : left ≤ 9223372036854775807) (hl0 : left ≠ 0) (R : World → World → Prop)
    (SE : ∀ W, MedB W g room bn bf (.slice A k c) (stepR left false).1 false → Chg w W (fun b => b = g) → Calls Tryz.prog 74 #[.pointer (some ⟨g, 0, none⟩), .int .i64 (k : Int)] W fun e w' => e = .returned (.tuple #[]) ∧ R W w') :
    Calls Tryz.prog 85 #[.pointer (some ⟨g, 0, none⟩)] w fun e w' => e = .returned (.int .i64 0) ∧ ∃ W, MedB W g room bn bf (.slice A k c) (stepR left false).1 false ∧ Chg w W (fun b => b = g) ∧ R W w' := by
  have WK := Lib.hid (works_yes h)
  have ST0 := step_yes h hl
  have st := step_ok hl0
  rw [st.1, st.2] at ST0
  have ST := Lib.hid ST0
  have SEH := Lib.hid SE
  clear h hl SE ST0 st
  go_enter Tryz.func85, Tryz.ntmps85
  go_wp2_with fail
  refine WK.out.mono ?_
  rintro e w2 ⟨rfl, rfl⟩
  go_wp2_with fail
  refine ST.out.mono ?_
  rintro e w3 ⟨rfl, m3, g3⟩
  have C3 := Lib.hid (show Chg w w3 (fun b => b = g) from Chg.of_grown g3 (fun k h _ => by simpa using h.symm))
  have M3 := Lib.hid m3
  have c3 : w3.cell? ⟨g, 3, none⟩ = some (.slice A k c) := Blk.cell m3 3
  clear m3 g3
  go_wp2_with fail
  refine (SEH.out _ M3.out C3.out).mono ?_
  rintro e w4 ⟨rfl, r4⟩
  have R4 := Lib.hid r4
  clear r4 c3
  go_wp2_with fail
  go_ret
  exact ⟨rfl, w3, M3.out, C3.out, R4.out⟩
end Go.Proofs.YtblgphfdicffcaaGreatDoor

/- Any change of a file's bytes done; rows of changes. It proves no statement. -/

namespace Go.Proofs.YtblgphfdicffcaaGreatDoor
open Go.RowKit Go.Maps Go.WideMaps
set_option linter.unusedVariables false
set_option linter.unusedSimpArgs false

theorem own_front {w : World} {base n e cv : Nat} {Av : Option Addr} {l : List UInt8} (h : w.ownsRow base 5 1 (.slice Av n cv) n (bytesV l)) (he : e ≤ n) : w.ownsRow base 5 1 (.slice Av e cv) e (bytesV (l.take e)) := by
  have hl : l.length = n := by have := h.1; rw [bytesV_length] at this; omega
  refine ⟨by rw [bytesV_length, List.length_take]; omega, ?_⟩
  rcases h.2 with ⟨h1, h2⟩ | ⟨g, cap, cur, h1, h2, h3, h4, h5, h6, h7⟩
  · injection h1 with q1 q2 q3
    subst q1 q3
    exact .inl ⟨by rw [show e = 0 by omega], by omega⟩
  · injection h1 with q1 q2 q3
    subst q1 q3
    refine .inr ⟨g, _, cur, rfl, h2, h3, by omega, h5, h6, ?_⟩
    rw [bytesV_take, ← h7, List.take_take]
    congr 1
    omega
set_option maxRecDepth 100000 in
set_option maxHeartbeats 1600000 in
/-- A change of bytes: they end at a place, and more are laid behind. -/
theorem change_any (v : Value) (base n en : Nat) (l : List UInt8) (A : Option Addr) (m c : Nat) (x : List UInt8) (w : World) (B : Nat) (hown : w.ownsRow base 5 1 v n (bytesV l)) (hbase : base ≤ w.heap.size) (hr : Reads w B A m x) (hB : B ≤ w.heap.size) (hA : A = none → c = 0) (he : en ≤ n) (hn : en + m ≤ 100000000) :
    Calls Tryz.prog 189 #[.agg #[.int .i64 en, .slice A m c], v] w fun e w' => ∃ v', e = .returned v' ∧ w'.ownsRow base 5 1 v' (en + m) (bytesV (l.take en ++ x)) ∧ w.grownBy w' v.ownBlock ∧ (v'.ownBlock = v.ownBlock ∨ ∃ j, v'.ownBlock = some j ∧ w.heap.size ≤ j) := by
  obtain ⟨Av, cv, rfl, f1, f2, f3⟩ := own_form hown
  obtain ⟨w1, hw1⟩ : ∃ w1, w1 = w.alloc (.cells #[.int .i64 en, .slice A m c] 218) := ⟨_, rfl⟩
  obtain ⟨g1, hg1⟩ : ∃ g1, g1 = w.heap.size := ⟨_, rfl⟩
  have S1 := Lib.hid (show Still w w1.drew by rw [hw1]; exact ((Still.refl w).alloc (Nat.le_refl _) _).drew)
  have O1 := Lib.hid (show w1.drew.ownsRow base 5 1 (.slice Av en cv) en (bytesV (l.take en)) from own_front (own_still hown S1.out) he)
  have he2 : (en : Int) ≤ (cv : Int) := by omega
  have he3 : en ≤ cv := by omega
  have he4 : (0 : Int) ≤ (en : Int) := by omega
  have HOB := Lib.hid (show (Value.slice Av en cv).ownBlock = (Value.slice Av n cv).ownBlock by cases Av <;> rfl)
  have R1 := Lib.hid (hr.still hB S1.out)
  have B1 := Lib.hid (show Blk w1 g1 218 #[.int .i64 en, .slice A m c] by rw [hw1, hg1]; exact Blk.new _ _ _)
  have k0 : w1.cell? ⟨g1, 0, none⟩ = some (.int .i64 en) := Blk.cell B1.out 0
  have k1 : w1.cell? ⟨g1, 1, none⟩ = some (.slice A m c) := Blk.cell B1.out 1
  have HW1 := Lib.hid hw1
  have HG1 := Lib.hid hg1
  have HA := Lib.hid hA
  have HBS := Lib.hid (Nat.le_trans hbase S1.out.size)
  have HN := Lib.hid hn
  have F := Lib.hid (And.intro f1 f2)
  clear hown hbase hr hB hA hw1 hg1 f3 he hn
  go_enter Tryz.func189, Tryz.ntmps189
  go_wp2_with fail
  rw [← HW1.out, ← HG1.out]
  go_still_tail 6, (by kernel_rfl)
  repeat still_step
  change wpList _ _ _ _ _ w1.drew
  go_wp2_with (at_builtin; go_must (refine wpList_adds_at w1.drew rfl (.tmp 8) (.tmp 10) rfl base (.slice Av en cv) en (l.take en) rfl O1.out A m c B x rfl R1.out HA.out ?c1 HBS.out ?_))
  case c1 => have := HN.out; omega
  intro v2 w2 own2 gr2 loc2
  rw [HOB.out] at gr2 loc2
  have OW2 := Lib.hid own2
  have GR2 := Lib.hid (show w.grownBy w2 (Value.slice Av n cv).ownBlock from ⟨gr2.os.trans S1.out.os, gr2.tape.trans S1.out.tape, gr2.output.trans S1.out.output, Nat.le_trans S1.out.size gr2.size, fun k hk hne => (gr2.block k (Nat.lt_of_lt_of_le hk S1.out.size) hne).trans (S1.out.block k hk)⟩)
  have LO2 := Lib.hid (show v2.ownBlock = (Value.slice Av n cv).ownBlock ∨ ∃ j, v2.ownBlock = some j ∧ w.heap.size ≤ j from by
    rcases loc2 with h | h
    · exact .inl h
    · exact .inr ⟨_, h, S1.out.size⟩)
  clear own2 gr2 loc2
  go_wp2_with fail
  go_ret
  exact ⟨_, rfl, OW2.out, GR2.out, LO2.out⟩

/-- A change: where the bytes end, what stands behind. -/
structure Ch where
  fin : Nat
  more : List UInt8
def Ch.app (b : List UInt8) (c : Ch) : List UInt8 := b.take c.fin ++ c.more
def appAll (b : List UInt8) (l : List Ch) : List UInt8 := l.foldl Ch.app b
theorem appAll_nil (b : List UInt8) : appAll b [] = b := rfl
theorem appAll_snoc (b : List UInt8) (l : List Ch) (c : Ch) : appAll b (l ++ [c]) = (appAll b l).take c.fin ++ c.more := by
  simp [appAll, Ch.app, List.foldl_append]
theorem appAll_step (b : List UInt8) (l : List Ch) (j : Nat) (c : Ch) (h : l[j]? = some c) : appAll b (l.take (j + 1)) = (appAll b (l.take j)).take c.fin ++ c.more := by
  rw [List.take_add_one, h]
  exact appAll_snoc b (l.take j) c
/-- Each change ends bytes that are there; nothing grows too long. -/
def ChOK (b : List UInt8) (l : List Ch) : Prop := b.length ≤ 16777216 ∧ ∀ j c, l[j]? = some c → c.fin ≤ (appAll b (l.take j)).length ∧ (c.more = [] ∨ c.fin = (appAll b (l.take j)).length) ∧ c.fin + c.more.length ≤ 16777216
theorem ChOK.nil {b : List UInt8} (h : b.length ≤ 16777216) : ChOK b [] := ⟨h, fun j c h => by simp at h⟩
theorem ChOK.len {b : List UInt8} {l : List Ch} (h : ChOK b l) : (appAll b l).length ≤ 16777216 := by
  rcases List.eq_nil_or_concat l with rfl | ⟨t, c, rfl⟩
  · exact h.1
  · rw [List.concat_eq_append] at h ⊢
    have := h.2 t.length c (by simp)
    rw [appAll_snoc, List.length_append, List.length_take]
    omega
theorem ChOK.front {b : List UInt8} {l : List Ch} (h : ChOK b l) (n : Nat) : ChOK b (l.take n) := by
  refine ⟨h.1, fun j c hj => ?_⟩
  rw [List.getElem?_take] at hj
  split at hj
  · rename_i hlt
    have := h.2 j c hj
    rw [List.take_take, show min j n = j by omega]
    exact this
  · cases hj
theorem ChOK.snoc {b : List UInt8} {l : List Ch} (h : ChOK b l) (c : Ch) (h1 : c.fin ≤ (appAll b l).length) (h2 : c.more = [] ∨ c.fin = (appAll b l).length) (h3 : c.fin + c.more.length ≤ 16777216) : ChOK b (l ++ [c]) := by
  refine ⟨h.1, fun j d hj => ?_⟩
  by_cases hlt : j < l.length
  · rw [List.getElem?_append_left hlt] at hj
    rw [List.take_append_of_le_length (by omega)]
    exact h.2 j d hj
  · have hl := (List.getElem?_eq_some_iff.1 hj).1
    have e : j = l.length := by simp at hl; omega
    subst e
    have : d = c := by simpa using hj.symm
    subst this
    rw [List.take_left' rfl]
    exact ⟨h1, h2, h3⟩

/-- A row of changes in memory: the cells cs; the j-th one's bytes lie in a block of F j. -/
def HasC (w : World) (base : Nat) (W : List Ch) (cs : List Value) (F : Nat → Nat → Prop) : Prop :=
  cs.length = 2 * W.length ∧ ∀ j c, W[j]? = some c → ∃ cv, cs[2 * j]? = some (.int .i64 (c.fin : Int)) ∧ cs[2 * j + 1]? = some cv ∧ w.ownsRow base 5 1 cv c.more.length (bytesV c.more) ∧ ∀ k, cv.ownBlock = some k → F j k
theorem HasC.nil (w : World) (base : Nat) (F : Nat → Nat → Prop) : HasC w base [] [] F := ⟨rfl, fun j c h => by simp at h⟩
theorem HasC.keep {w w' : World} {base : Nat} {W : List Ch} {cs : List Value} {F : Nat → Nat → Prop} {S : Nat → Prop} (h : HasC w base W cs F) (c : Chg w w' S) (hS : ∀ j k, F j k → ¬ S k) : HasC w' base W cs F :=
  ⟨h.1, fun j x hx => by
    obtain ⟨cv, h1, h2, h3, h4⟩ := h.2 j x hx
    exact ⟨cv, h1, h2, c.own h3 (fun k hk => hS j k (h4 k hk)), h4⟩⟩
theorem HasC.mono {w : World} {base : Nat} {W : List Ch} {cs : List Value} {F G : Nat → Nat → Prop} (h : HasC w base W cs F) (hS : ∀ j k, j < W.length → k < w.heap.size → F j k → G j k) : HasC w base W cs G :=
  ⟨h.1, fun j x hx => by
    obtain ⟨cv, h1, h2, h3, h4⟩ := h.2 j x hx
    exact ⟨cv, h1, h2, h3, fun k hk => hS j k (List.getElem?_eq_some_iff.1 hx).1 (h3.lt k hk).2 (h4 k hk)⟩⟩
theorem HasC.snoc {w : World} {base : Nat} {W : List Ch} {cs : List Value} {F : Nat → Nat → Prop} (h : HasC w base W cs F) (c : Ch) (cv : Value) (ho : w.ownsRow base 5 1 cv c.more.length (bytesV c.more)) (hF : ∀ k, cv.ownBlock = some k → F W.length k) :
    HasC w base (W ++ [c]) (cs ++ [.int .i64 (c.fin : Int), cv]) F := by
  refine ⟨by simp [h.1]; omega, fun j y hy => ?_⟩
  by_cases hj : j < W.length
  · rw [List.getElem?_append_left hj] at hy
    obtain ⟨cv', h1, h2, h3, h4⟩ := h.2 j y hy
    refine ⟨cv', ?_, ?_, h3, h4⟩
    · rw [List.getElem?_append_left (by rw [h.1]; omega)]; exact h1
    · rw [List.getElem?_append_left (by rw [h.1]; omega)]; exact h2
  · have hl : j < (W ++ [c]).length := (List.getElem?_eq_some_iff.1 hy).1
    have hje : j = W.length := by simp at hl; omega
    subst hje
    have hyx : y = c := by simpa using hy.symm
    subst hyx
    refine ⟨cv, ?_, ?_, ho, hF⟩
    · rw [List.getElem?_append_right (by rw [h.1]; omega), h.1]; simp
    · rw [List.getElem?_append_right (by rw [h.1]; omega), h.1]; simp
end Go.Proofs.YtblgphfdicffcaaGreatDoor

/- A file's settle, whatever changes wait. It proves no statement. -/

namespace Go.Proofs.YtblgphfdicffcaaGreatDoor
open Go.RowKit Go.Maps Go.WideMaps
set_option linter.unusedVariables false
set_option linter.unusedSimpArgs false

set_option maxRecDepth 100000 in
set_option maxHeartbeats 6400000 in
theorem fsettle_any {w : World} (gf : Nat) (nv fv : Value) (base n k bw cap : Nat) (l : List UInt8) (Y : List Ch) (cs : List Value) (F : Nat → Nat → Prop) (hf : FileB w gf nv fv (.slice (some ⟨bw, 0, none⟩) k cap)) (hw : w.ownsRow base 218 2 (.slice (some ⟨bw, 0, none⟩) k cap) k cs)
    (hx : HasC w base Y cs F) (hk : k = Y.length) (hfv : w.ownsRow base 5 1 fv l.length (bytesV l)) (hsep : ∀ b, fv.ownBlock = some b → ∀ i, ¬ F i b) (hFg : ∀ i, ¬ F i gf) (hbase : base ≤ w.heap.size) (hn : n ≤ k) (hk6 : k ≤ 1000000) (htot : ChOK l Y) :
    Calls Tryz.prog 134 #[.pointer (some ⟨gf, 0, none⟩), .int .i64 (n : Int)] w fun e w' => e = .returned (.tuple #[]) ∧ ∃ fv', FileB w' gf nv fv' (.slice none 0 0) ∧ w'.ownsRow base 5 1 fv' (appAll l (Y.take n)).length (bytesV (appAll l (Y.take n))) ∧ Chg w w' (fun b => b = gf ∨ fv.ownBlock = some b) ∧ (fv'.ownBlock = fv.ownBlock ∨ ∃ j, fv'.ownBlock = some j ∧ w.heap.size ≤ j) := by
  obtain ⟨hgl, hcap, cur, hcur, hbw⟩ : gf < w.heap.size ∧ k ≤ cap ∧ ∃ cur, Blk w bw 218 cur ∧ base ≤ bw := by
    rcases hw.2 with ⟨h, _⟩ | ⟨g, c, cur, h, h2, h3, h4, _⟩
    · cases h
    · injection h with q1 q2 q3
      injection q1 with q1
      injection q1 with q1 _ _
      subst q1 q3
      exact ⟨hf.lt, h4, cur, h3, h2⟩
  have hcapm : cap ≤ 9223372036854775807 := by
    rcases hw.2 with ⟨h, _⟩ | ⟨g, c, cur, h, h2, h3, h4, h5, _⟩
    · cases h
    · injection h with q1 q2 q3
      subst q3
      unfold maxLen at h5
      omega
  have hgb : gf ≠ bw := by
    intro e
    subst e
    have h1 : w.heap[gf]? = some (.cells #[nv, fv, .slice (some ⟨gf, 0, none⟩) k cap] 201 (0, 0)) := hf
    have h2 : w.heap[gf]? = some (.cells cur 218 (0, 0)) := hcur
    rw [h1] at h2
    simp at h2
  have hfb : fv.ownBlock ≠ some bw := by
    intro e
    rcases hfv.2 with ⟨h, _⟩ | ⟨g, c, cur', h, h2, h3, _⟩
    · rw [h] at e; cases e
    · rw [h] at e
      have e' : g = bw := by simpa [Value.ownBlock] using e
      subst e'
      have h4 : w.heap[g]? = some (.cells cur 218 (0, 0)) := hcur
      rw [h3] at h4
      simp at h4
  have hfg : fv.ownBlock ≠ some gf := by
    intro e
    rcases hfv.2 with ⟨h, _⟩ | ⟨g, c, cur', h, h2, h3, _⟩
    · rw [h] at e; cases e
    · rw [h] at e
      have e' : g = gf := by simpa [Value.ownBlock] using e
      subst e'
      have h4 : w.heap[g]? = some (.cells #[nv, fv, .slice (some ⟨bw, 0, none⟩) k cap] 201 (0, 0)) := hf
      rw [h3] at h4
      simp at h4
  obtain ⟨S, hS⟩ : ∃ S : Nat → Prop, S = fun b => b = gf ∨ fv.ownBlock = some b := ⟨_, rfl⟩
  have SF := Lib.hid (show ∀ i b, F i b → ¬ S b from fun i b hb hs => by
    rw [hS] at hs
    rcases hs with rfl | hs
    · exact hFg i hb
    · exact hsep b hs i hb)
  have SB := Lib.hid (show ¬ S bw from fun hs => by
    rw [hS] at hs
    rcases hs with hs | hs
    · exact hgb hs.symm
    · exact hfb hs)
  rw [← hS]
  have c2 : w.cell? ⟨gf, 2, none⟩ = some (.slice (some ⟨bw, 0, none⟩) k cap) := hf.cell 2
  have FB := Lib.hid hf
  have OW := Lib.hid hw
  have HX := Lib.hid hx
  have HF := Lib.hid hfv
  have HB := Lib.hid hbase
  have HS := Lib.hid hS
  have HT := Lib.hid htot
  have GL := Lib.hid hgl
  have GB := Lib.hid (And.intro hgb (And.intro hfb hfg))
  have HK := Lib.hid hk
  clear hf hw hx hfv hsep hFg hbase htot hgl hcur hgb hfb hfg hS hbw hk
  go_enter Tryz.func134, Tryz.ntmps134
  go_wp2_with fail
  go_loopw [13] (fun iv wr => ∃ j : Nat, j ≤ n ∧ iv = .int .i64 j ∧ Hid (∃ fj, FileB wr gf nv fj (.slice (some ⟨bw, 0, none⟩) k cap) ∧ wr.ownsRow base 5 1 fj (appAll l (Y.take j)).length (bytesV (appAll l (Y.take j))) ∧ Chg w wr S ∧ (fj.ownBlock = fv.ownBlock ∨ ∃ q, fj.ownBlock = some q ∧ w.heap.size ≤ q))) (fun iv _ => n - (intOf iv).toNat)
  case atStart => exact ⟨0, by omega, rfl, fv, FB.out, HF.out, Chg.refl _ _, .inl rfl⟩
  case round =>
    obtain ⟨j, hj, rfl, hh⟩ := hrel
    by_cases hlt : j < n
    · obtain ⟨fj, f1, f2, f3, f4⟩ := hh.out
      obtain ⟨x, hxj⟩ : ∃ x, Y[j]? = some x := ⟨_, List.getElem?_eq_getElem (by have := HK.out; omega)⟩
      obtain ⟨cv, e0, e1, e2, e3⟩ := (HX.out.keep f3 SF.out).2 j x hxj
      obtain ⟨Ac, cc, rfl, q1, q2, q3⟩ := own_form e2
      obtain ⟨mc, hmc⟩ : ∃ mc, mc = x.more.length := ⟨_, rfl⟩
      obtain ⟨en, hen⟩ : ∃ en, en = x.fin := ⟨_, rfl⟩
      obtain ⟨L, hL⟩ : ∃ L, L = appAll l (Y.take j) := ⟨_, rfl⟩
      obtain ⟨nL, hnL⟩ : ∃ nL, nL = L.length := ⟨_, rfl⟩
      have LL := Lib.hid (show en ≤ nL by rw [hen, hnL, hL]; exact (HT.out.2 j x hxj).1)
      have NX := Lib.hid (show appAll l (Y.take (j + 1)) = L.take en ++ x.more by rw [appAll_step l Y j x hxj, hen, hL])
      have NX2 := Lib.hid (show (appAll l (Y.take (j + 1))).length = en + mc by
        rw [NX.out, List.length_append, List.length_take, hmc]; have := LL.out; omega)
      have EN := Lib.hid (show en + mc ≤ 100000000 by have := (HT.out.2 j x hxj).2.2; omega)
      rw [← hL, ← hnL] at f2
      rw [← hen] at e0
      rw [← hmc] at e2 q1 e1 e3
      obtain ⟨Av, vc, rfl, v1, v2, v3⟩ := own_form f2
      have F1 := Lib.hid f1
      have F2 := Lib.hid f2
      have F3 := Lib.hid f3
      have F4 := Lib.hid f4
      have E2 := Lib.hid e2
      have OWR := f3.own OW.out (fun k' hk' => by have h : bw = k' := by simpa [Value.ownBlock] using hk'
                                                  subst h; exact SB.out)
      have RNG := Lib.hid (show wr.rangeAt bw (2 * j) [.int .i64 (en : Int), .slice Ac mc cc] from by
        intro i u hu
        have hl2 : cs.length = 2 * k := by rw [HX.out.1, HK.out]
        have h5 : ∀ q u', cs[q]? = some u' → wr.cell? ⟨bw, q, none⟩ = some u' := fun q u' hq => by
          have hq2 : q < cs.length := (List.getElem?_eq_some_iff.1 hq).1
          have h6 := OWR.cellAt q (by omega)
          rw [hq] at h6
          exact h6
        match i, hu with
        | 0, hu =>
          have hu' : u = .int .i64 (en : Int) := by simpa using hu.symm
          subst hu'
          exact h5 _ _ e0
        | 1, hu =>
          have hu' : u = .slice Ac mc cc := by simpa using hu.symm
          subst hu'
          exact h5 _ _ e1)
      have RNG := Lib.hid (show wr.rangeAt bw (j * 2) [.int .i64 (en : Int), .slice Ac mc cc] by rw [Nat.mul_comm]; exact RNG.out)
      obtain ⟨gx, hgx⟩ : ∃ gx, gx = wr.heap.size := ⟨_, rfl⟩
      have BZ := Lib.hid (Blk.new wr 218 #[.int .i64 0, .slice none 0 0])
      have FJ := Lib.hid hlt
      have HFR := Lib.hid (F1.out.frozen 1)
      have G1 := Lib.hid (show gx ≠ gf by rw [hgx]; exact Nat.ne_of_gt F1.out.lt)
      have SZ := Lib.hid (show w.heap.size ≤ gx by rw [hgx]; exact F3.out.size)
      clear hh f1 f2 f3 f4 e0 e1 e2 e3 OWR hxj hen hL hmc hnL c2
      go_upto_region 3 with (first
        | (guard_target =~ wpList _ _ _ (Oper.mk _ (Op.load _ _) _ _ _ _ :: _) _ _; go_must (refine load_midM (by kernel_rfl) 218 (.tmp 15) rfl bw (j * 2) (by kernel_rfl) [.int .i64 (en : Int), .slice Ac mc cc] _ RNG.out Tryz.underlying218 rfl sizeCh ?_))
        | (guard_target =~ wpList _ _ _ (Oper.mk _ (Op.alloc _) _ _ _ _ :: _) _ _; go_must (refine wpList_alloc_arr rfl 218 rfl (some 5) rfl _ 2 Tryz.infoChange ?_))
        | (guard_target =~ wpList _ _ _ (Oper.mk _ (Op.store _ _ _) _ _ _ _ :: _) _ _; go_must (refine wpList_storeCh rfl (.tmp 5) (.tmp 16) rfl wr.heap.size (by kernel_rfl) #[.int .i64 (en : Int), .slice Ac mc cc] _ (by kernel_rfl) rfl rfl (by kernel_rfl) BZ.out ?_)))
      rw [World.setRow_alloc_new, ← hgx]
      obtain ⟨w1, hw1⟩ : ∃ w1, w1 = wr.alloc (.cells #[.int .i64 (en : Int), .slice Ac mc cc] 218) := ⟨_, rfl⟩
      rw [← hw1]
      have S1 := Lib.hid (show Still wr w1 by rw [hw1]; exact (Still.refl _).alloc (Nat.le_refl _) _)
      have B1 := Lib.hid (show Blk w1 gx 218 #[.int .i64 (en : Int), .slice Ac mc cc] by rw [hw1, hgx]; exact Blk.new _ _ _)
      clear hw1 BZ hgx
      have SOK := Lib.hid (show ∀ W, Still w1 W → W.cell? ⟨gx, 0, none⟩ = some (.int .i64 (en : Int)) ∧ W.cell? ⟨gx, 1, none⟩ = some (.slice Ac mc cc) ∧ W.cell? ⟨gf, 1, none⟩ = some (.slice Av nL vc) from fun W z => ⟨(B1.out.still z).cell 0, (B1.out.still z).cell 1, (Blk.still F1.out (S1.out.trans z)).cell 1⟩)
      refine wp_region_late (S := fun W => W.cell? ⟨gx, 0, none⟩ = some (.int .i64 (en : Int)) ∧ W.cell? ⟨gx, 1, none⟩ = some (.slice Ac mc cc) ∧ W.cell? ⟨gf, 1, none⟩ = some (.slice Av nL vc)) [6, 9] (by kernel_rfl) (SOK.out _ ((Still.refl _).drew)) (fun hHeld => ?_)
      obtain ⟨wa, hwa⟩ : ∃ wa, wa = w1.drew := ⟨_, rfl⟩
      have SA := Lib.hid (show Still w1 wa by rw [hwa]; exact (Still.refl _).drew)
      try rw [← hwa] at hHeld
      rw [← hwa]
      clear hwa
      try simp only [Act.put, List.setIfInBounds_toArray, List.set_cons_zero, List.set_cons_succ]
      refine wpLate_pure (i := 0) (v := .pointer (some ⟨gf, 0, none⟩)) rfl (by kernel_rfl) (by kernel_rfl) (by kernel_rfl) (by kernel_rfl) (fun _ _ _ h => h) (Or.inl ⟨by kernel_rfl, fun w _ => by go_simp⟩) ?_
      try simp only [Act.put, List.setIfInBounds_toArray, List.set_cons_zero, List.set_cons_succ]
      refine wpLate_take (i := 1) (v := .agg #[.int .i64 (en : Int), .slice Ac mc cc]) [6, 9] rfl (by kernel_rfl) (by kernel_rfl) (by kernel_rfl) (by kernel_rfl) (by kernel_rfl) (by decide) (fun _ _ _ h => h) (Or.inl ⟨by kernel_rfl, fun w hS => by obtain ⟨h0, h1, h2⟩ := hS; go_simp⟩) (by assumption) (fun hHeld => ?_)
      try simp only [Act.put, List.setIfInBounds_toArray, List.set_cons_zero, List.set_cons_succ]
      refine wpLate_pure (i := 2) (v := .pointer (some ⟨gf, 0, none⟩)) rfl (by kernel_rfl) (by kernel_rfl) (by kernel_rfl) (by kernel_rfl) (fun _ _ _ h => h) (Or.inl ⟨by kernel_rfl, fun w _ => by go_simp⟩) ?_
      try simp only [Act.put, List.setIfInBounds_toArray, List.set_cons_zero, List.set_cons_succ]
      refine wpLate_pure (i := 3) (v := .pointer (some ⟨gf, 0, none⟩)) rfl (by kernel_rfl) (by kernel_rfl) (by kernel_rfl) (by kernel_rfl) (fun _ _ _ h => h) (Or.inl ⟨by kernel_rfl, fun w _ => by go_simp⟩) ?_
      try simp only [Act.put, List.setIfInBounds_toArray, List.set_cons_zero, List.set_cons_succ]
      refine wpLate_pure (i := 4) (v := .pointer (some ⟨gf, 1, none⟩)) rfl (by kernel_rfl) (by kernel_rfl) (by kernel_rfl) (by kernel_rfl) (fun _ _ _ h => h) (Or.inl ⟨by kernel_rfl, fun w _ => by go_simp⟩) ?_
      try simp only [Act.put, List.setIfInBounds_toArray, List.set_cons_zero, List.set_cons_succ]
      refine wpLate_take (i := 5) (v := .slice Av nL vc) [6, 9] rfl (by kernel_rfl) (by kernel_rfl) (by kernel_rfl) (by kernel_rfl) (by kernel_rfl) (by decide) (fun _ _ _ h => h) (Or.inl ⟨by kernel_rfl, fun w hS => by obtain ⟨h0, h1, h2⟩ := hS; go_simp⟩) (by assumption) (fun hHeld => ?_)
      try simp only [Act.put, List.setIfInBounds_toArray, List.set_cons_zero, List.set_cons_succ]

      clear hHeld
      have CA := Lib.hid (change_any (.slice Av nL vc) base nL en L Ac mc cc x.more wa wa.heap.size (own_still F2.out (S1.out.trans SA.out)) (Nat.le_trans HB.out (Nat.le_trans F3.out.size (S1.out.trans SA.out).size)) (Reads.of_own (own_low (own_still E2.out (S1.out.trans SA.out)) (Nat.le_refl _))) (Nat.le_refl _) (fun e => (q3 e).2) LL.out EN.out)
      refine wpLate_one (i := 6) (o := ⟨some 23, .call { callee := .value (.func 189), args := #[.tmp 18, .tmp 22], argTypes := #[218, 34] }, _, _, _, none⟩) (by kernel_rfl) rfl (fun K' hK' => ?_)
      go_simp
      go_wp2_with (go_at_call 189; refine CA.out.mono ?_; rintro e w3 ⟨v3, rfl, own3, gr3, loc3⟩)
      obtain ⟨A4, c4, rfl, z1, z2, z3⟩ := own_form own3
      have C3 := Lib.hid (show Chg wr w3 (fun b => (Value.slice Av nL vc).ownBlock = some b) from (Chg.of_still (S1.out.trans SA.out) _).trans (Chg.of_grown gr3 (S := fun b => (Value.slice Av nL vc).ownBlock = some b) (fun _ h _ => h)) (fun _ _ h => h))
      have NE := Lib.hid (own_neM F1.out F2.out (by decide))
      have F5 := Lib.hid (show FileB w3 gf nv (.slice Av nL vc) (.slice (some ⟨bw, 0, none⟩) k cap) from C3.out.blk F1.out NE.out)
      have NE4 := Lib.hid (own_neM F5.out own3 (by decide))
      have O3 := Lib.hid own3
      have L3 := Lib.hid (show (Value.slice A4 (en + mc) c4).ownBlock = (Value.slice Av nL vc).ownBlock ∨ ∃ q, (Value.slice A4 (en + mc) c4).ownBlock = some q ∧ w.heap.size ≤ q from by
        rcases loc3 with h | ⟨q, h, hq⟩
        · exact .inl h
        · exact .inr ⟨q, h, Nat.le_trans F3.out.size (Nat.le_trans (S1.out.trans SA.out).size hq)⟩)
      clear own3 gr3 loc3 z1 z2 z3 CA SOK SA S1 B1 RNG
      refine hK'.out _ _ (fun _ hu => absurd hu (by decide)) ?_
      clear hK' K'
      try simp only [Act.put, List.setIfInBounds_toArray, List.set_cons_zero, List.set_cons_succ]
      refine wpLate_pure (i := 7) (v := .pointer (some ⟨gf, 0, none⟩)) rfl (by kernel_rfl) (by kernel_rfl) (by kernel_rfl) (by kernel_rfl) (fun _ _ _ h => h) (Or.inl ⟨by kernel_rfl, fun w _ => by go_simp⟩) ?_
      try simp only [Act.put, List.setIfInBounds_toArray, List.set_cons_zero, List.set_cons_succ]
      refine wpLate_pure (i := 8) (v := .pointer (some ⟨gf, 1, none⟩)) rfl (by kernel_rfl) (by kernel_rfl) (by kernel_rfl) (by kernel_rfl) (fun _ _ _ h => h) (Or.inl ⟨by kernel_rfl, fun w _ => by go_simp⟩) ?_
      try simp only [Act.put, List.setIfInBounds_toArray, List.set_cons_zero, List.set_cons_succ]
      refine wpLate_one (i := 9) (o := ⟨none, .store 34 (.tmp 25) (.tmp 23), _, _, _, none⟩) (by kernel_rfl) rfl (fun K' hK' => ?_)
      rw [if_pos (by kernel_rfl)]
      have kc : w3.cell? ⟨gf, 1, none⟩ = some (.slice Av nL vc) := F5.out.cell 1
      have kf := F5.out.frozen 1
      with_reducible refine step_storeC w3 34 (.tmp 25) (.tmp 23) (by kernel_rfl) gf 1 (.slice A4 (en + mc) c4) (.slice Av nL vc) (by kernel_rfl) (by kernel_rfl) rfl (by kernel_rfl) kc kf ?_
      clear kc kf
      obtain ⟨w4, hw4⟩ : ∃ w4, w4 = w3.setCell ⟨gf, 1, none⟩ (.slice A4 (en + mc) c4) := ⟨_, rfl⟩
      rw [← hw4]
      have C4 := Lib.hid (show Chg w3 w4 (fun b => b = gf) by rw [hw4]; exact chg_set _ _ _ _)
      have F6 := Lib.hid (show FileB w4 gf nv (.slice A4 (en + mc) c4) (.slice (some ⟨bw, 0, none⟩) k cap) by rw [hw4]; exact Blk.setc F5.out 1 _)
      have FI4 := Lib.hid (show ∃ fj, FileB w4 gf nv fj (.slice (some ⟨bw, 0, none⟩) k cap) ∧ w4.ownsRow base 5 1 fj (appAll l (Y.take (j + 1))).length (bytesV (appAll l (Y.take (j + 1)))) ∧ Chg w w4 S ∧ (fj.ownBlock = fv.ownBlock ∨ ∃ q, fj.ownBlock = some q ∧ w.heap.size ≤ q) from by
        refine ⟨_, F6.out, ?_, ?_, ?_⟩
        · rw [NX2.out, NX.out]
          exact C4.out.own O3.out (fun b hb hs => NE4.out (by rw [hb, hs]))
        · refine (Chg.trans F3.out C3.out ?_).trans C4.out ?_
          · intro b hb hs
            rcases F4.out with h | ⟨q, h, hq⟩
            · rw [HS.out]; exact .inr (by rw [← h]; exact hs)
            · rw [h] at hs
              have : q = b := by simpa using hs
              omega
          · intro b hb hs
            rw [HS.out]
            exact .inl hs
        · rcases L3.out with h | h
          · rw [h]; exact F4.out
          · exact .inr h)
      clear hw4 C3 C4 F5 F6 O3 L3 NE NE4
      refine hK'.out _ _ (fun _ hu => absurd hu (by decide)) ?_
      clear hK' K'
      try simp only [Act.put, List.setIfInBounds_toArray, List.set_cons_zero, List.set_cons_succ]
      refine wpLate_done (by kernel_rfl) ?_ _
      go_wp2_with fail
      go_roundw
      case rel => exact ⟨j + 1, by have := FJ.out; omega, by go_num, FI4.out⟩
      case measure => simp [intOf]; have := FJ.out; omega
    · obtain rfl : j = n := by omega
      obtain ⟨fj, f1, f2, f3, f4⟩ := hh.out
      have k2 : wr.cell? ⟨gf, 2, none⟩ = some (.slice (some ⟨bw, 0, none⟩) k cap) := f1.cell 2
      have kf := f1.frozen 2
      have NE := Lib.hid (own_neM f1 f2 (by decide))
      have F1 := Lib.hid f1
      have F2 := Lib.hid f2
      have F3 := Lib.hid f3
      have F4 := Lib.hid f4
      clear hh f1 f2 f3 f4 c2
      go_wp2_with fail
      go_end0
      refine ⟨rfl, fj, Blk.setc F1.out 2 _, (chg_set wr gf 2 (.slice none 0 0)).own F2.out (fun b hb hs => NE.out (by rw [hb, hs])), F3.out.trans (chg_set wr gf 2 _) (fun b _ hs => by rw [HS.out]; exact .inl hs), F4.out⟩
end Go.Proofs.YtblgphfdicffcaaGreatDoor

/- A medium's settle: whatever namings wait. It proves no statement. -/

namespace Go.Proofs.YtblgphfdicffcaaGreatDoor
open Go.RowKit Go.Maps Go.WideMaps
set_option linter.unusedVariables false
set_option linter.unusedSimpArgs false

/-- A row of namings, and its cells. -/
def HasN (X : List (ByteArray × ByteArray × Int)) (cs : List Value) : Prop :=
  cs.length = 3 * X.length ∧ ∀ j x, X[j]? = some x → cs[3 * j]? = some (.string x.1) ∧ cs[3 * j + 1]? = some (.string x.2.1) ∧ cs[3 * j + 2]? = some (pv x.2.2) ∧ x.1.size ≤ maxLen ∧ x.2.1.size ≤ maxLen ∧ (x.2.2 = -1 ∨ 0 ≤ x.2.2)
theorem HasN.nil : HasN [] [] := ⟨rfl, fun j x h => by simp at h⟩
theorem HasN.snoc {X : List (ByteArray × ByteArray × Int)} {cs : List Value} (h : HasN X cs) (s t : ByteArray) (f : Int) (hs : s.size ≤ maxLen) (ht : t.size ≤ maxLen) (hf : f = -1 ∨ 0 ≤ f) : HasN (X ++ [(s, t, f)]) (cs ++ [.string s, .string t, pv f]) := by
  refine ⟨by simp [h.1]; omega, fun j y hy => ?_⟩
  by_cases hj : j < X.length
  · rw [List.getElem?_append_left hj] at hy
    obtain ⟨h1, h2, h3, h4⟩ := h.2 j y hy
    refine ⟨?_, ?_, ?_, h4⟩
    · rw [List.getElem?_append_left (by rw [h.1]; omega)]; exact h1
    · rw [List.getElem?_append_left (by rw [h.1]; omega)]; exact h2
    · rw [List.getElem?_append_left (by rw [h.1]; omega)]; exact h3
  · have hl : j < (X ++ [(s, t, f)]).length := (List.getElem?_eq_some_iff.1 hy).1
    have hje : j = X.length := by simp at hl; omega
    subst hje
    have hyx : y = (s, t, f) := by simpa using hy.symm
    subst hyx
    refine ⟨?_, ?_, ?_, hs, ht, hf⟩
    · rw [List.getElem?_append_right (by rw [h.1]; omega), h.1]; simp
    · rw [List.getElem?_append_right (by rw [h.1]; omega), h.1]; simp
    · rw [List.getElem?_append_right (by rw [h.1]; omega), h.1]; simp
/-- Namings, one after another. -/
def nmAll (D : DataW Unit) (X : List (ByteArray × ByteArray × Int)) : DataW Unit := X.foldl (fun D x => nmDo D x.1 x.2.1 x.2.2) D
theorem nmAll_more (D : DataW Unit) (X : List (ByteArray × ByteArray × Int)) (j : Nat) (x : ByteArray × ByteArray × Int) (h : X[j]? = some x) : nmAll D (X.take (j + 1)) = nmDo (nmAll D (X.take j)) x.1 x.2.1 x.2.2 := by
  unfold nmAll
  rw [List.take_add_one, h, List.foldl_append]
  rfl
theorem nm_neB {w : World} {g b n : Nat} {t : TypeId} {cs : Array Value} {D : DataW Unit} (hb : Blk w g t cs) (hm : NM w b n D) : g ≠ b := by
  intro e
  subst e
  obtain ⟨es, clock, hb', _⟩ := hm
  have h4 : w.heap[g]? = some (.cells cs t (0, 0)) := hb
  rw [h4] at hb'
  cases hb'
theorem Tryz.infoNaming : (Tryz.prog.info? 214).map (fun i => (i.zero, i.size)) = some (some (.agg #[.string ⟨#[]⟩, .string ⟨#[]⟩, .pointer none]), 3) := by kernel_rfl
theorem sizeNm : (Tryz.prog.info? 214).map (·.size) = some 3 := by kernel_rfl
theorem wpList_storeNm {ops : Array Oper} {rest : List Oper} {o : Oper} {a : Act} {w : World} {Q : Exit → Act → World → Prop} (hgd : o.guard = none) (x y : Operand) (ho : o.op = .store 214 x y)
    (g : Nat) (hx : a.eval x = .pointer (some ⟨g, 0, none⟩)) (cs old : Array Value) (hy : a.eval y = .agg cs) (h2 : cs.size = 3) (ho2 : old.size = 3) (h1 : cs.all (·.oneCell') = true) (hg : Blk w g 214 old)
    (h : wpList Tryz.prog ops Q rest (a.put o.dst undef) (w.setRow g cs)) : wpList Tryz.prog ops Q (o :: rest) a w :=
  wpList_plain hgd fun _ hQ => wp_store_row 214 x y ho g cs hx hy _ old hg (by rw [sizeNm, h2]) (by rw [h2, ho2]) h1 (hQ _ _ h)

set_option maxRecDepth 100000 in
set_option maxHeartbeats 6400000 in
theorem msettle_any {w : World} {g : Nat} {room : Int} {bn bf : Nat} {left : Int} {off : Bool} (base n k bw cap nf : Nat) (X : List (ByteArray × ByteArray × Int)) (cs : List Value) (D : DataW Unit) (h : MedB w g room bn bf (.slice (some ⟨bw, 0, none⟩) k cap) left off) (hw : w.ownsRow base 214 3 (.slice (some ⟨bw, 0, none⟩) k cap) k cs)
    (hx : HasN X cs) (hk : k = X.length) (hown : NM w bf nf D) (hnf : nf + k ≤ 1000000) (hn : n ≤ k) :
    Calls Tryz.prog 74 #[.pointer (some ⟨g, 0, none⟩), .int .i64 (n : Int)] w fun e w' => e = .returned (.tuple #[]) ∧ MedB w' g room bn bf (.slice none 0 0) left off ∧ NM w' bf (nf + n) (nmAll D (X.take n)) ∧ Chg w w' (fun b => b = g ∨ b = bf) := by
  obtain ⟨hcap, cur, hcur⟩ : k ≤ cap ∧ ∃ cur, Blk w bw 214 cur := by
    rcases hw.2 with ⟨h, _⟩ | ⟨g, c, cur, h, h2, h3, h4, _⟩
    · cases h
    · injection h with q1 q2 q3
      injection q1 with q1
      injection q1 with q1 _ _
      subst q1 q3
      exact ⟨h4, cur, h3⟩
  have hcapm : cap ≤ 9223372036854775807 := by
    rcases hw.2 with ⟨h, _⟩ | ⟨g, c, cur, h, h2, h3, h4, h5, _⟩
    · cases h
    · injection h with q1 q2 q3
      subst q3
      unfold maxLen at h5
      omega
  have NE := Lib.hid (show bw ≠ bf ∧ g ≠ bf from ⟨nm_neB hcur hown, nm_neB h hown⟩)
  have c3 : w.cell? ⟨g, 3, none⟩ = some (.slice (some ⟨bw, 0, none⟩) k cap) := Blk.cell h 3
  have FB := Lib.hid h
  have OW := Lib.hid hw
  have HX := Lib.hid hx
  have HM := Lib.hid hown
  have HNF := Lib.hid hnf
  have HK := Lib.hid hk
  clear h hw hx hown hnf hcur hk
  go_enter Tryz.func74, Tryz.ntmps74
  go_wp2_with fail
  go_loopw [13] (fun iv wr => ∃ j : Nat, j ≤ n ∧ iv = .int .i64 j ∧ Hid (MedB wr g room bn bf (.slice (some ⟨bw, 0, none⟩) k cap) left off ∧ NM wr bf (nf + j) (nmAll D (X.take j)) ∧ Chg w wr (fun b => b = bf))) (fun iv _ => n - (intOf iv).toNat)
  case atStart => exact ⟨0, by omega, rfl, FB.out, HM.out, Chg.refl _ _⟩
  case round =>
    obtain ⟨j, hj, rfl, hh⟩ := hrel
    by_cases hlt : j < n
    · obtain ⟨f1, f2, f3⟩ := hh.out
      obtain ⟨x, hxj⟩ : ∃ x, X[j]? = some x := ⟨_, List.getElem?_eq_getElem (by have := HK.out; omega)⟩
      obtain ⟨e0, e1, e2, y1, y2, y3⟩ := HX.out.2 j x hxj
      have NX := Lib.hid (nmAll_more D X j x hxj)
      obtain ⟨sx, tx, fx⟩ := x
      simp only at e0 e1 e2 y1 y2 y3 NX
      have F1 := Lib.hid f1
      have F2 := Lib.hid f2
      have F3 := Lib.hid f3
      have OWR := f3.own OW.out (fun k' hk' hs => by
        have h : bw = k' := by simpa [Value.ownBlock] using hk'
        exact NE.out.1 (h.trans hs))
      have ND := Lib.hid (fun W (z : Still wr W) => naming_do sx tx fx y3 bf (nf + j) (nmAll D (X.take j)) W ((Chg.of_still z (fun _ => False)).nm f2 (fun h => h)) (by have := HNF.out; omega) y1 y2)
      obtain ⟨px, hpx⟩ : ∃ px, px = pv fx := ⟨_, rfl⟩
      have OC := Lib.hid (show px.oneCell' = true by
        rw [hpx]
        rcases y3 with rfl | h0
        · rw [pv_nil]; rfl
        · obtain ⟨m, rfl⟩ := Int.eq_ofNat_of_zero_le h0
          rw [pv_at]; rfl)
      rw [← hpx] at e2 ND
      have RNG := Lib.hid (show wr.rangeAt bw (j * 3) [.string sx, .string tx, px] from by
        intro i u hu
        have hl2 : cs.length = 3 * k := by rw [HX.out.1, HK.out]
        have h5 : ∀ q u', cs[q]? = some u' → wr.cell? ⟨bw, q, none⟩ = some u' := fun q u' hq => by
          have hq2 : q < cs.length := (List.getElem?_eq_some_iff.1 hq).1
          have h6 := OWR.cellAt q (by omega)
          rw [hq] at h6
          exact h6
        rw [Nat.mul_comm j 3]
        match i, hu with
        | 0, hu =>
          have hu' : u = .string sx := by simpa using hu.symm
          subst hu'
          exact h5 _ _ e0
        | 1, hu =>
          have hu' : u = .string tx := by simpa using hu.symm
          subst hu'
          exact h5 _ _ e1
        | 2, hu =>
          have hu' : u = px := by simpa using hu.symm
          subst hu'
          exact h5 _ _ e2)
      obtain ⟨gx, hgx⟩ : ∃ gx, gx = wr.heap.size := ⟨_, rfl⟩
      have BZ := Lib.hid (Blk.new wr 214 #[.string ⟨#[]⟩, .string ⟨#[]⟩, .pointer none])
      have FJ := Lib.hid hlt
      have ONE := Lib.hid (show (#[.string sx, .string tx, px] : Array Value).all (·.oneCell') = true by rw [List.all_toArray, List.all_cons, List.all_cons, List.all_cons, OC.out]; rfl)
      clear hh f1 f2 f3 e0 e1 e2 y1 y2 y3 OWR hxj hpx c3 OC
      go_upto_region 3 with (first
        | (guard_target =~ wpList _ _ _ (Oper.mk _ (Op.load _ _) _ _ _ _ :: _) _ _; go_must (refine load_midM (by kernel_rfl) 214 (.tmp 15) rfl bw (j * 3) (by kernel_rfl) [.string sx, .string tx, px] _ RNG.out Tryz.underlying214 rfl sizeNm ?_))
        | (guard_target =~ wpList _ _ _ (Oper.mk _ (Op.alloc _) _ _ _ _ :: _) _ _; go_must (refine wpList_alloc_arr rfl 214 rfl (some 5) rfl _ 3 Tryz.infoNaming ?_))
        | (guard_target =~ wpList _ _ _ (Oper.mk _ (Op.store _ _ _) _ _ _ _ :: _) _ _; go_must (refine wpList_storeNm rfl (.tmp 5) (.tmp 16) rfl wr.heap.size (by kernel_rfl) #[.string sx, .string tx, px] _ (by kernel_rfl) rfl rfl ONE.out BZ.out ?_)))
      rw [World.setRow_alloc_new, ← hgx]
      obtain ⟨w1, hw1⟩ : ∃ w1, w1 = wr.alloc (.cells #[.string sx, .string tx, px] 214) := ⟨_, rfl⟩
      rw [← hw1]
      have S1 := Lib.hid (show Still wr w1 by rw [hw1]; exact (Still.refl _).alloc (Nat.le_refl _) _)
      have B1 := Lib.hid (show Blk w1 gx 214 #[.string sx, .string tx, px] by rw [hw1, hgx]; exact Blk.new _ _ _)
      clear hw1 BZ hgx
      have SOK := Lib.hid (show ∀ W, Still w1 W → W.cell? ⟨gx, 0, none⟩ = some (.string sx) ∧ W.cell? ⟨gx, 1, none⟩ = some (.string tx) ∧ W.cell? ⟨gx, 2, none⟩ = some px ∧ W.cell? ⟨g, 2, none⟩ = some (.map (some bf)) from fun W z => ⟨(B1.out.still z).cell 0, (B1.out.still z).cell 1, (B1.out.still z).cell 2, (Blk.still F1.out (S1.out.trans z)).cell 2⟩)
      refine wp_region_late (S := fun W => W.cell? ⟨gx, 0, none⟩ = some (.string sx) ∧ W.cell? ⟨gx, 1, none⟩ = some (.string tx) ∧ W.cell? ⟨gx, 2, none⟩ = some px ∧ W.cell? ⟨g, 2, none⟩ = some (.map (some bf))) [5] (by kernel_rfl) (SOK.out _ ((Still.refl _).drew)) (fun hHeld => ?_)
      obtain ⟨wa, hwa⟩ : ∃ wa, wa = w1.drew := ⟨_, rfl⟩
      have SA := Lib.hid (show Still w1 wa by rw [hwa]; exact (Still.refl _).drew)
      try rw [← hwa] at hHeld
      rw [← hwa]
      clear hwa
      try simp only [Act.put, List.setIfInBounds_toArray, List.set_cons_zero, List.set_cons_succ]
      refine wpLate_take (i := 0) (v := .agg #[.string sx, .string tx, px]) [5] rfl (by kernel_rfl) (by kernel_rfl) (by kernel_rfl) (by kernel_rfl) (by kernel_rfl) (by decide) (fun _ _ _ h => h) (Or.inl ⟨by kernel_rfl, fun w hS => by obtain ⟨h0, h1, h2, h3⟩ := hS; go_simp⟩) (by assumption) (fun hHeld => ?_)
      try simp only [Act.put, List.setIfInBounds_toArray, List.set_cons_zero, List.set_cons_succ]
      refine wpLate_pure (i := 1) (v := .pointer (some ⟨g, 0, none⟩)) rfl (by kernel_rfl) (by kernel_rfl) (by kernel_rfl) (by kernel_rfl) (fun _ _ _ h => h) (Or.inl ⟨by kernel_rfl, fun w _ => by go_simp⟩) ?_
      try simp only [Act.put, List.setIfInBounds_toArray, List.set_cons_zero, List.set_cons_succ]
      refine wpLate_pure (i := 2) (v := .pointer (some ⟨g, 0, none⟩)) rfl (by kernel_rfl) (by kernel_rfl) (by kernel_rfl) (by kernel_rfl) (fun _ _ _ h => h) (Or.inl ⟨by kernel_rfl, fun w _ => by go_simp⟩) ?_
      try simp only [Act.put, List.setIfInBounds_toArray, List.set_cons_zero, List.set_cons_succ]
      refine wpLate_pure (i := 3) (v := .pointer (some ⟨g, 2, none⟩)) rfl (by kernel_rfl) (by kernel_rfl) (by kernel_rfl) (by kernel_rfl) (fun _ _ _ h => h) (Or.inl ⟨by kernel_rfl, fun w _ => by go_simp⟩) ?_
      try simp only [Act.put, List.setIfInBounds_toArray, List.set_cons_zero, List.set_cons_succ]
      refine wpLate_take (i := 4) (v := .map (some bf)) [5] rfl (by kernel_rfl) (by kernel_rfl) (by kernel_rfl) (by kernel_rfl) (by kernel_rfl) (by decide) (fun _ _ _ h => h) (Or.inl ⟨by kernel_rfl, fun w hS => by obtain ⟨h0, h1, h2, h3⟩ := hS; go_simp⟩) (by assumption) (fun hHeld => ?_)
      try simp only [Act.put, List.setIfInBounds_toArray, List.set_cons_zero, List.set_cons_succ]
      clear hHeld
      refine wpLate_one (i := 5) (o := ⟨some 22, .call { callee := .value (.func 130), args := #[.tmp 17, .tmp 21], argTypes := #[214, 133] }, _, _, _, none⟩) (by kernel_rfl) rfl (fun K' hK' => ?_)
      go_simp
      go_wp2_with (go_at_call 130; refine (ND.out _ (S1.out.trans SA.out)).mono ?_; rintro e w3 ⟨rfl, nm3, gr3⟩)
      have FI := Lib.hid (show MedB w3 g room bn bf (.slice (some ⟨bw, 0, none⟩) k cap) left off ∧ NM w3 bf (nf + (j + 1)) (nmAll D (X.take (j + 1))) ∧ Chg w w3 (fun b => b = bf) from by
        have C1 : Chg wr w3 (fun b => b = bf) := (Chg.of_still (S1.out.trans SA.out) _).trans (Chg.of_grown gr3 (S := fun b => b = bf) (fun k h _ => by simpa using h.symm)) (fun _ _ h => h)
        refine ⟨C1.blk F1.out NE.out.2, ?_, F3.out.trans C1 (fun _ _ h => h)⟩
        rw [NX.out]
        exact nm3)
      clear nm3 gr3 ND SOK SA S1 B1 RNG F1 F2 F3
      refine hK'.out _ _ (fun _ hu => absurd hu (by decide)) ?_
      clear hK' K'
      try simp only [Act.put, List.setIfInBounds_toArray, List.set_cons_zero, List.set_cons_succ]
      refine wpLate_done (by kernel_rfl) ?_ _
      go_wp2_with fail
      go_roundw
      case rel => exact ⟨j + 1, by have := FJ.out; omega, by go_num, FI.out⟩
      case measure => simp [intOf]; have := FJ.out; omega
    · obtain rfl : j = n := by omega
      obtain ⟨f1, f2, f3⟩ := hh.out
      have k3 : wr.cell? ⟨g, 3, none⟩ = some (.slice (some ⟨bw, 0, none⟩) k cap) := Blk.cell f1 3
      have kf := Blk.frozen f1 3
      have F1 := Lib.hid f1
      have F2 := Lib.hid f2
      have F3 := Lib.hid f3
      clear hh f1 f2 f3 c3
      go_wp2_with fail
      go_end0
      exact ⟨rfl, Blk.setc F1.out 3 _, (chg_set wr g 3 (.slice none 0 0)).nm F2.out (fun h => NE.out.2 h.symm), (F3.out.mono (fun b _ hs => .inr hs)).trans (chg_set wr g 3 _) (fun b _ hs => .inl hs)⟩
end Go.Proofs.YtblgphfdicffcaaGreatDoor

/- Contracts: the closure that takes numbers. It proves no statement. -/

namespace Go.Proofs.YtblgphfdicffcaaGreatDoor
open Go.RowKit Go.Maps Go.WideMaps
set_option linter.unusedVariables false
set_option linter.unusedSimpArgs false

/-- A row of numbers that reads, below B. -/
def ReadsI (w : World) (B : Nat → Prop) (A : Option Addr) (n : Nat) (zs : List Int) : Prop :=
  zs.length = n ∧ (0 < n → ∃ b o, A = some ⟨b, o, none⟩ ∧ B b ∧ b < w.heap.size ∧ ∀ i, i < n → w.cell? ⟨b, o + i, none⟩ = some (.int .i64 (zs.getD i 0)))
theorem ReadsI.chg {w w' : World} {B : Nat → Prop} {n : Nat} {A : Option Addr} {zs : List Int} {S : Nat → Prop} (h : ReadsI w B A n zs) (c : Chg w w' S) (hS : ∀ b, B b → ¬ S b) : ReadsI w' B A n zs :=
  ⟨h.1, fun hn => by
    obtain ⟨b, o, ha, hb, hl, hc⟩ := h.2 hn
    exact ⟨b, o, ha, hb, Nat.lt_of_lt_of_le hl c.size, fun i hi => (World.cell?_of_block (w := w) (c.block b hl (hS b hb))).trans (hc i hi)⟩⟩
/-- The closure's variable: what is left of the numbers. -/
def TK (w : World) (B : Nat → Prop) (gl : Nat) (zs : List Int) : Prop := ∃ A n c, Blk w gl 42 #[.slice A n c] ∧ n ≤ c ∧ c ≤ 9223372036854775807 ∧ ReadsI w B A n zs
theorem TK.chg {w w' : World} {B : Nat → Prop} {gl : Nat} {zs : List Int} {S : Nat → Prop} (h : TK w B gl zs) (c : Chg w w' S) (hS : ∀ b, B b → ¬ S b) (hg : ¬ S gl) : TK w' B gl zs := by
  obtain ⟨A, n, cc, h1, h2, h3, h4⟩ := h
  exact ⟨A, n, cc, c.blk h1 hg, h2, h3, h4.chg c hS⟩
/-- What is taken. -/
def tkN (zs : List Int) (most : Int) : Int := match zs with
  | [] => 0
  | z :: _ => min (max z 0) most
theorem tkN_le (zs : List Int) (most : Int) (h : 0 ≤ most) : 0 ≤ tkN zs most ∧ tkN zs most ≤ most := by
  unfold tkN
  cases zs with
  | nil => exact ⟨Int.le_refl _, h⟩
  | cons z zs => simp only; omega
set_option maxRecDepth 100000 in
set_option maxHeartbeats 1600000 in
theorem take_any {w : World} (B : Nat → Prop) (gl : Nat) (zs : List Int) (most : Int) (h : TK w B gl zs) (hB : ¬ B gl) :
    Calls Tryz.prog 129 #[.int .i64 most, .pointer (some ⟨gl, 0, none⟩)] w fun e w' => e = .returned (.int .i64 (tkN zs most)) ∧ TK w' B gl zs.tail ∧ Chg w w' (fun b => b = gl) := by
  obtain ⟨A, n, c, h1, h2, h3, h4⟩ := h
  have c0 : w.cell? ⟨gl, 0, none⟩ = some (.slice A n c) := h1.cell 0
  cases zs with
  | nil =>
    have hn : n = 0 := by have := h4.1; simpa using this.symm
    subst hn
    have H4 := Lib.hid h4
    have H1 := Lib.hid h1
    clear h4 h1
    go_enter Tryz.func129, Tryz.ntmps129
    go_wp2_with fail
    go_ret
    exact ⟨rfl, ⟨A, 0, c, H1.out, h2, h3, H4.out⟩, Chg.refl _ _⟩
  | cons z zs =>
    have hn : n = zs.length + 1 := by have := h4.1; simpa using this.symm
    obtain ⟨b, o, rfl, hb, hbl, hc⟩ := h4.2 (by omega)
    have c1 : w.cell? ⟨b, o, none⟩ = some (.int .i64 z) := hc 0 (by omega)
    have kf := h1.frozen 0
    have hnz : ¬ ((n : Int) = 0) := by omega
    have hn1 : 1 ≤ n := by omega
    have hn2 : (1 : Int) ≤ (n : Int) := by omega
    have hn3 : (0 : Int) < (n : Int) := by omega
    have HC := Lib.hid hc
    have H1 := Lib.hid h1
    have HN := Lib.hid hn
    clear h4 hc h1 hn
    by_cases hc1 : 1 = c
    · subst hc1
      have hne : n = 1 := by omega
      subst hne
      go_enter Tryz.func129, Tryz.ntmps129
      go_wp2_with fail
      go_ret
      refine ⟨rfl, ⟨some ⟨b, o, none⟩, 0, 0, Blk.setc H1.out 0 _, by omega, by omega, by have := HN.out; simp only [List.tail_cons]; omega, fun h0 => by omega⟩, chg_set _ _ _ _⟩
    · have hc2 : 1 < c := by omega
      have hc3 : ¬ c = 1 := by omega
      go_enter Tryz.func129, Tryz.ntmps129
      go_wp2_with fail
      go_ret
      refine ⟨rfl, ⟨some ⟨b, o + 1, none⟩, n - 1, c - 1, Blk.setc H1.out 0 _, by omega, by omega, by have := HN.out; simp only [List.tail_cons]; omega, fun h0 => ⟨b, o + 1, rfl, hb, by simpa [World.setCell] using hbl, fun i hi => ?_⟩⟩, chg_set _ _ _ _⟩
      have h5 := HC.out (i + 1) (by omega)
      have hglb : gl ≠ b := fun q => hB (by rw [q]; exact hb)
      rw [World.cell?_setCell_other _ _ _ _ (fun e => hglb (by simpa using congrArg Addr.block e))]
      rw [show o + 1 + i = o + (i + 1) by omega]
      simpa using h5
end Go.Proofs.YtblgphfdicffcaaGreatDoor

/- Contract: what makes the closure. It proves no statement. -/

namespace Go.Proofs.YtblgphfdicffcaaGreatDoor
open Go.RowKit Go.Maps Go.WideMaps
set_option linter.unusedVariables false
set_option linter.unusedSimpArgs false

theorem wpList_box_one {P : Program} {ops : Array Oper} {rest : List Oper} {o : Oper} {a : Act} {w : World} {Q : Exit → Act → World → Prop} (hg : o.guard = none) (t : TypeId) (x : Operand) (ho : o.op = .box t x) (dst : Option Tmp) (hdst : o.dst = dst) (A : Option Addr) (n c : Nat)
    (hx : a.eval x = .slice A n c) (h : wpList P ops Q rest (a.put dst (.pointer (some ⟨w.heap.size, 0, none⟩))) (w.alloc (.cells #[.slice A n c] t))) : wpList P ops Q (o :: rest) a w := by
  refine Go.Great.wpList_runTo hg dst hdst _ _ ?_ h
  unfold execOp
  simp [ho, hx, Instr.box, Value.cells, newVar, newRow, Sem.run_bind]
theorem taker_any {w : World} (A : Option Addr) (n c : Nat) (B : Nat → Prop) (zs : List Int) (h : ReadsI w B A n zs) (hc : n ≤ c) (hm : c ≤ 9223372036854775807) :
    Calls Tryz.prog 73 #[.slice A n c] w fun e w' => ∃ gl, e = .returned (.func (.func 129) #[] #[.pointer (some ⟨gl, 0, none⟩)]) ∧ w.heap.size ≤ gl ∧ TK w' B gl zs ∧ Still w w' := by
  obtain ⟨w1, hw1⟩ : ∃ w1, w1 = w.alloc (.cells #[.slice A n c] 42) := ⟨_, rfl⟩
  obtain ⟨gl, hgl⟩ : ∃ gl, gl = w.heap.size := ⟨_, rfl⟩
  have S1 := Lib.hid (show Still w w1 by rw [hw1]; exact (Still.refl _).alloc (Nat.le_refl _) _)
  have T1 := Lib.hid (show TK w1 B gl zs from ⟨A, n, c, by rw [hw1, hgl]; exact Blk.new _ _ _, hc, hm, h.chg (Chg.of_still S1.out (fun _ => False)) (fun _ _ h => h)⟩)
  have HW := Lib.hid hw1
  have HG := Lib.hid hgl
  clear h hw1 hgl
  have hmf : ∀ (fn : Fn) (first cap : Array Value) (w : World), (Instr.makeFunc fn first cap).run Tryz.prog w = .ok (.func fn first cap) w := fun _ _ _ _ => rfl
  go_enter Tryz.func73, Tryz.ntmps73
  go_upto_region 1 with (guard_target =~ wpList _ _ _ (Oper.mk _ (Op.box _ _) _ _ _ _ :: _) _ _; go_must (refine wpList_box_one rfl 42 (.tmp 0) rfl (some 1) rfl A n c (by kernel_rfl) ?_))
  rw [← HW.out, ← HG.out]
  go_wp2_with fail
  go_ret
  exact ⟨gl, rfl, by rw [HG.out]; exact Nat.le_refl _, T1.out, S1.out⟩
end Go.Proofs.YtblgphfdicffcaaGreatDoor
