/- Any change of a file's bytes done; rows of changes. It proves no statement. -/
import Derived.Test.YtlkkkifilgnhmaaMdSync
namespace Go.Proofs.Ytlkkkifilgnhmaa
open Go.RowKit Go.Maps Go.WideMaps
set_option linter.unusedVariables false
set_option linter.unusedSimpArgs false

theorem own_front {w : World} {base n e cv : Nat} {Av : Option Addr} {l : List UInt8} (h : w.ownsRow base 5 1 (.slice Av n cv) n (bytesV l)) (he : e ≤ n) : w.ownsRow base 5 1 (.slice Av e cv) e (bytesV (l.take e)) := by
  have hl : l.length = n := by have := h.1; rw [bytesV_length] at this; omega
  refine ⟨by rw [bytesV_length, List.length_take]; omega, ?_⟩
  rcases h.2 with ⟨h1, h2⟩ | ⟨g, cap, cur, h1, h2, h3, h4, h5, h6, h7⟩
  · injection h1 with q1 q2 q3
    subst q1 q3
    exact .inl ⟨by rw [show e = 0 by omega], by omega⟩
  · injection h1 with q1 q2 q3
    subst q1 q3
    refine .inr ⟨g, _, cur, rfl, h2, h3, by omega, h5, h6, ?_⟩
    rw [bytesV_take, ← h7, List.take_take]
    congr 1
    omega
set_option maxRecDepth 100000 in
set_option maxHeartbeats 1600000 in
/-- A change of bytes: they end at a place, and more are laid behind. -/
theorem change_any (v : Value) (base n en : Nat) (l : List UInt8) (A : Option Addr) (m c : Nat) (x : List UInt8) (w : World) (B : Nat) (hown : w.ownsRow base 5 1 v n (bytesV l)) (hbase : base ≤ w.heap.size) (hr : Reads w B A m x) (hB : B ≤ w.heap.size) (hA : A = none → c = 0) (he : en ≤ n) (hn : en + m ≤ 100000000) :
    Calls Try.prog 54 #[.agg #[.int .i64 en, .slice A m c], v] w fun e w' => ∃ v', e = .returned v' ∧ w'.ownsRow base 5 1 v' (en + m) (bytesV (l.take en ++ x)) ∧ w.grownBy w' v.ownBlock ∧ (v'.ownBlock = v.ownBlock ∨ ∃ j, v'.ownBlock = some j ∧ w.heap.size ≤ j) := by
  obtain ⟨Av, cv, rfl, f1, f2, f3⟩ := own_form hown
  obtain ⟨w1, hw1⟩ : ∃ w1, w1 = w.alloc (.cells #[.int .i64 en, .slice A m c] 84) := ⟨_, rfl⟩
  obtain ⟨g1, hg1⟩ : ∃ g1, g1 = w.heap.size := ⟨_, rfl⟩
  have S1 := Lib.hid (show Still w w1.drew by rw [hw1]; exact ((Still.refl w).alloc (Nat.le_refl _) _).drew)
  have O1 := Lib.hid (show w1.drew.ownsRow base 5 1 (.slice Av en cv) en (bytesV (l.take en)) from own_front (own_still hown S1.out) he)
  have he2 : (en : Int) ≤ (cv : Int) := by omega
  have he3 : en ≤ cv := by omega
  have he4 : (0 : Int) ≤ (en : Int) := by omega
  have HOB := Lib.hid (show (Value.slice Av en cv).ownBlock = (Value.slice Av n cv).ownBlock by cases Av <;> rfl)
  have R1 := Lib.hid (hr.still hB S1.out)
  have B1 := Lib.hid (show Blk w1 g1 84 #[.int .i64 en, .slice A m c] by rw [hw1, hg1]; exact Blk.new _ _ _)
  have k0 : w1.cell? ⟨g1, 0, none⟩ = some (.int .i64 en) := Blk.cell B1.out 0
  have k1 : w1.cell? ⟨g1, 1, none⟩ = some (.slice A m c) := Blk.cell B1.out 1
  have HW1 := Lib.hid hw1
  have HG1 := Lib.hid hg1
  have HA := Lib.hid hA
  have HBS := Lib.hid (Nat.le_trans hbase S1.out.size)
  have HN := Lib.hid hn
  have F := Lib.hid (And.intro f1 f2)
  clear hown hbase hr hB hA hw1 hg1 f3 he hn
  go_enter Try.func54, Try.ntmps54
  go_wp2_with fail
  rw [← HW1.out, ← HG1.out]
  go_still_tail 6, (by kernel_rfl)
  repeat still_step
  change wpList _ _ _ _ _ w1.drew
  go_wp2_with (at_builtin; go_must (refine wpList_adds_at w1.drew rfl (.tmp 8) (.tmp 10) rfl base (.slice Av en cv) en (l.take en) rfl O1.out A m c B x rfl R1.out HA.out ?c1 HBS.out ?_))
  case c1 => have := HN.out; omega
  intro v2 w2 own2 gr2 loc2
  rw [HOB.out] at gr2 loc2
  have OW2 := Lib.hid own2
  have GR2 := Lib.hid (show w.grownBy w2 (Value.slice Av n cv).ownBlock from ⟨gr2.os.trans S1.out.os, gr2.tape.trans S1.out.tape, gr2.output.trans S1.out.output, Nat.le_trans S1.out.size gr2.size, fun k hk hne => (gr2.block k (Nat.lt_of_lt_of_le hk S1.out.size) hne).trans (S1.out.block k hk)⟩)
  have LO2 := Lib.hid (show v2.ownBlock = (Value.slice Av n cv).ownBlock ∨ ∃ j, v2.ownBlock = some j ∧ w.heap.size ≤ j from by
    rcases loc2 with h | h
    · exact .inl h
    · exact .inr ⟨_, h, S1.out.size⟩)
  clear own2 gr2 loc2
  go_wp2_with fail
  go_ret
  exact ⟨_, rfl, OW2.out, GR2.out, LO2.out⟩

/-- A change: where the bytes end, what stands behind. -/
structure Ch where
  fin : Nat
  more : List UInt8
def Ch.app (b : List UInt8) (c : Ch) : List UInt8 := b.take c.fin ++ c.more
def appAll (b : List UInt8) (l : List Ch) : List UInt8 := l.foldl Ch.app b
theorem appAll_nil (b : List UInt8) : appAll b [] = b := rfl
theorem appAll_snoc (b : List UInt8) (l : List Ch) (c : Ch) : appAll b (l ++ [c]) = (appAll b l).take c.fin ++ c.more := by
  simp [appAll, Ch.app, List.foldl_append]
theorem appAll_step (b : List UInt8) (l : List Ch) (j : Nat) (c : Ch) (h : l[j]? = some c) : appAll b (l.take (j + 1)) = (appAll b (l.take j)).take c.fin ++ c.more := by
  rw [List.take_add_one, h]
  exact appAll_snoc b (l.take j) c
/-- Each change ends bytes that are there; nothing grows too long. -/
def ChOK (b : List UInt8) (l : List Ch) : Prop := b.length ≤ 16777216 ∧ ∀ j c, l[j]? = some c → c.fin ≤ (appAll b (l.take j)).length ∧ (c.more = [] ∨ c.fin = (appAll b (l.take j)).length) ∧ c.fin + c.more.length ≤ 16777216
theorem ChOK.nil {b : List UInt8} (h : b.length ≤ 16777216) : ChOK b [] := ⟨h, fun j c h => by simp at h⟩
theorem ChOK.len {b : List UInt8} {l : List Ch} (h : ChOK b l) : (appAll b l).length ≤ 16777216 := by
  rcases List.eq_nil_or_concat l with rfl | ⟨t, c, rfl⟩
  · exact h.1
  · rw [List.concat_eq_append] at h ⊢
    have := h.2 t.length c (by simp)
    rw [appAll_snoc, List.length_append, List.length_take]
    omega
theorem ChOK.front {b : List UInt8} {l : List Ch} (h : ChOK b l) (n : Nat) : ChOK b (l.take n) := by
  refine ⟨h.1, fun j c hj => ?_⟩
  rw [List.getElem?_take] at hj
  split at hj
  · rename_i hlt
    have := h.2 j c hj
    rw [List.take_take, show min j n = j by omega]
    exact this
  · cases hj
theorem ChOK.snoc {b : List UInt8} {l : List Ch} (h : ChOK b l) (c : Ch) (h1 : c.fin ≤ (appAll b l).length) (h2 : c.more = [] ∨ c.fin = (appAll b l).length) (h3 : c.fin + c.more.length ≤ 16777216) : ChOK b (l ++ [c]) := by
  refine ⟨h.1, fun j d hj => ?_⟩
  by_cases hlt : j < l.length
  · rw [List.getElem?_append_left hlt] at hj
    rw [List.take_append_of_le_length (by omega)]
    exact h.2 j d hj
  · have hl := (List.getElem?_eq_some_iff.1 hj).1
    have e : j = l.length := by simp at hl; omega
    subst e
    have : d = c := by simpa using hj.symm
    subst this
    rw [List.take_left' rfl]
    exact ⟨h1, h2, h3⟩

/-- A row of changes in memory: the cells cs; the j-th one's bytes lie in a block of F j. -/
def HasC (w : World) (base : Nat) (W : List Ch) (cs : List Value) (F : Nat → Nat → Prop) : Prop :=
  cs.length = 2 * W.length ∧ ∀ j c, W[j]? = some c → ∃ cv, cs[2 * j]? = some (.int .i64 (c.fin : Int)) ∧ cs[2 * j + 1]? = some cv ∧ w.ownsRow base 5 1 cv c.more.length (bytesV c.more) ∧ ∀ k, cv.ownBlock = some k → F j k
theorem HasC.nil (w : World) (base : Nat) (F : Nat → Nat → Prop) : HasC w base [] [] F := ⟨rfl, fun j c h => by simp at h⟩
theorem HasC.keep {w w' : World} {base : Nat} {W : List Ch} {cs : List Value} {F : Nat → Nat → Prop} {S : Nat → Prop} (h : HasC w base W cs F) (c : Chg w w' S) (hS : ∀ j k, F j k → ¬ S k) : HasC w' base W cs F :=
  ⟨h.1, fun j x hx => by
    obtain ⟨cv, h1, h2, h3, h4⟩ := h.2 j x hx
    exact ⟨cv, h1, h2, c.own h3 (fun k hk => hS j k (h4 k hk)), h4⟩⟩
theorem HasC.mono {w : World} {base : Nat} {W : List Ch} {cs : List Value} {F G : Nat → Nat → Prop} (h : HasC w base W cs F) (hS : ∀ j k, j < W.length → k < w.heap.size → F j k → G j k) : HasC w base W cs G :=
  ⟨h.1, fun j x hx => by
    obtain ⟨cv, h1, h2, h3, h4⟩ := h.2 j x hx
    exact ⟨cv, h1, h2, h3, fun k hk => hS j k (List.getElem?_eq_some_iff.1 hx).1 (h3.lt k hk).2 (h4 k hk)⟩⟩
theorem HasC.snoc {w : World} {base : Nat} {W : List Ch} {cs : List Value} {F : Nat → Nat → Prop} (h : HasC w base W cs F) (c : Ch) (cv : Value) (ho : w.ownsRow base 5 1 cv c.more.length (bytesV c.more)) (hF : ∀ k, cv.ownBlock = some k → F W.length k) :
    HasC w base (W ++ [c]) (cs ++ [.int .i64 (c.fin : Int), cv]) F := by
  refine ⟨by simp [h.1]; omega, fun j y hy => ?_⟩
  by_cases hj : j < W.length
  · rw [List.getElem?_append_left hj] at hy
    obtain ⟨cv', h1, h2, h3, h4⟩ := h.2 j y hy
    refine ⟨cv', ?_, ?_, h3, h4⟩
    · rw [List.getElem?_append_left (by rw [h.1]; omega)]; exact h1
    · rw [List.getElem?_append_left (by rw [h.1]; omega)]; exact h2
  · have hl : j < (W ++ [c]).length := (List.getElem?_eq_some_iff.1 hy).1
    have hje : j = W.length := by simp at hl; omega
    subst hje
    have hyx : y = c := by simpa using hy.symm
    subst hyx
    refine ⟨cv, ?_, ?_, ho, hF⟩
    · rw [List.getElem?_append_right (by rw [h.1]; omega), h.1]; simp
    · rw [List.getElem?_append_right (by rw [h.1]; omega), h.1]; simp
end Go.Proofs.Ytlkkkifilgnhmaa
