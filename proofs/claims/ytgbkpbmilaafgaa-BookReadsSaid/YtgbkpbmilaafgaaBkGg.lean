/- Contracts and facts, several texts in one. It proves no statement. -/
import Derived.Test.YtgbkpbmilaafgaaBkGf
import Derived.Test.YtgbkpbmilaafgaaBkGe
import Derived.Deep.RegionHeld3
import Derived.Deep.DeepMust
import Derived.Laws.CopyOwn
import Derived.Test.YtgbkpbmilaafgaaBkGa

/- Contracts: one reading of a reader that Open made, whatever is asked. It proves no statement. -/

namespace Go.Proofs.Ytgbkpbmilaafgaa
open Go.RowKit
set_option linter.unusedVariables false
set_option linter.unusedSimpArgs false

/-- What one reading does: what is left, the error, what was read. -/
def rstep (l : List UInt8) (x y : Int) (num : Bool) : (List UInt8 × Int) × List UInt8 :=
  if x ≠ 0 then ((l, x), [])
  else if y < 0 ∨ (num = true ∧ (y < 1 ∨ 8 < y)) then ((l, 2), [])
  else if (l.length : Int) < y then ((l, 3), [])
  else ((l.drop y.toNat, 0), l.take y.toNat)
theorem rstep_err (l : List UInt8) (x y : Int) (num : Bool) (h : x ≠ 0) : rstep l x y num = ((l, x), []) := by simp [rstep, h]
theorem rstep_arg (l : List UInt8) (y : Int) (num : Bool) (h : y < 0 ∨ (num = true ∧ (y < 1 ∨ 8 < y))) : rstep l 0 y num = ((l, 2), []) := by simp [rstep, h]
theorem rstep_short (l : List UInt8) (y : Int) (num : Bool) (h : ¬ (y < 0 ∨ (num = true ∧ (y < 1 ∨ 8 < y)))) (h2 : (l.length : Int) < y) : rstep l 0 y num = ((l, 3), []) := by
  simp only [rstep, ne_eq, not_true_eq_false, if_false, if_neg h, if_pos h2]
theorem rstep_ok (l : List UInt8) (k : Nat) (num : Bool) (h : ¬ ((k : Int) < 0 ∨ (num = true ∧ ((k : Int) < 1 ∨ 8 < (k : Int))))) (h2 : k ≤ l.length) : rstep l 0 k num = ((l.drop k, 0), l.take k) := by
  simp only [rstep, ne_eq, not_true_eq_false, if_false, if_neg h]
  rw [if_neg (by omega)]
  simp

/-- The row that was handed out lies ahead of what is left. -/
def Ahead (A : Option Addr) (k : Nat) (A' : Option Addr) (n' : Nat) : Prop := 0 < k → 0 < n' → A' = A.map (·.add k)

/-- A reader, whatever its row. -/
def LiveAny (w : World) (lo B g : Nat) (l : List UInt8) (x : Int) : Prop := ∃ A n c, Live w lo B g A n c l x

theorem take_any {w : World} {lo B g : Nat} {A : Option Addr} {n c : Nat} {l : List UInt8} {x : Int} (h : Live w lo B g A n c l x) (y : Int) :
    Calls Try.prog 88 #[.pointer (some ⟨g, 0, none⟩), .int .i64 y] w fun e w' =>
      ∃ A1 k A' n' c', e = .returned (.slice A1 k k) ∧ Live w' lo B g A' n' c' (rstep l x y false).1.1 (rstep l x y false).1.2 ∧ Ahead A1 k A' n' ∧ Reads w' B A1 k (rstep l x y false).2 ∧ Mine w' lo A1 k ∧ (A1 = none → k = 0) ∧ w.grownBy w' (some g) := by
  by_cases hx : x = 0
  · subst hx
    by_cases hy : y < 0
    · rw [rstep_arg l y false (.inl hy)]
      exact (take_neg h y hy).mono fun e w' ⟨he, lv, gr⟩ => ⟨none, 0, A, n, c, he, lv, fun h => by omega, Reads.nil0, fun h => by omega, fun _ => rfl, gr⟩
    · by_cases hs : (l.length : Int) < y
      · rw [rstep_short l y false (by simp; omega) hs]
        exact (take_short h y (by omega) (by have := h.reads.1; omega)).mono fun e w' ⟨he, lv, gr⟩ => ⟨none, 0, A, n, c, he, lv, fun h => by omega, Reads.nil0, fun h => by omega, fun _ => rfl, gr⟩
      · obtain ⟨k, rfl⟩ := Int.eq_ofNat_of_zero_le (show 0 ≤ y by omega)
        rw [rstep_ok l k false (by simp) (by omega)]
        exact (take_ok h (k := k) (by have := h.reads.1; omega)).mono fun e w' ⟨he, ⟨A', c', lv, ha⟩, rd, mi, nn, gr⟩ => ⟨A, k, A', n - k, c', he, lv, fun _ h2 => ha h2, rd, mi, nn, gr⟩
  · rw [rstep_err l x y false hx]
    exact (take_none h hx y).mono fun e w' ⟨he, hw⟩ => ⟨none, 0, A, n, c, he, hw ▸ h, fun h => by omega, Reads.nil0, fun h => by omega, fun _ => rfl, hw ▸ World.grownBy.refl _ _⟩

theorem bytes_any {w : World} {lo B g : Nat} {l : List UInt8} {x : Int} (h : LiveAny w lo B g l x) (y : Int) :
    Calls Try.prog 75 #[.pointer (some ⟨g, 0, none⟩), .int .i64 y] w fun e w' =>
      ∃ A1 k A' n' c', e = .returned (.slice A1 k k) ∧ Live w' lo B g A' n' c' (rstep l x y false).1.1 (rstep l x y false).1.2 ∧ Ahead A1 k A' n' ∧ Reads w' B A1 k (rstep l x y false).2 ∧ Mine w' lo A1 k ∧ (A1 = none → k = 0) ∧ w.grownBy w' (some g) := by
  obtain ⟨A, n, c, h⟩ := h
  generalize hst : rstep l x y false = st
  have ht := take_any h y
  rw [hst] at ht
  clear hst
  obtain ⟨⟨l1, x1⟩, p1⟩ := st
  simp only at ht ⊢
  go_enter Try.func75, Try.ntmps75
  go_wp2_with fail
  refine ht.mono ?_
  rintro e w1 ⟨A1, k, A', n', c', rfl, r⟩
  clear ht
  have R := Lib.hid r
  clear r
  go_wp2_with fail
  go_ret
  exact ⟨A1, k, A', n', c', rfl, R.out⟩

theorem num_any {w : World} {lo B g : Nat} {l : List UInt8} {x : Int} (h : LiveAny w lo B g l x) (y : Int) :
    Calls Try.prog 67 #[.pointer (some ⟨g, 0, none⟩), .int .i64 y] w fun e w' =>
      e = .returned (.int .u64 (leNum (rstep l x y true).2 : Nat)) ∧ LiveAny w' lo B g (rstep l x y true).1.1 (rstep l x y true).1.2 ∧ w.grownBy w' (some g) := by
  obtain ⟨A, n, c, h⟩ := h
  by_cases hy : y < 1 ∨ 8 < y
  · by_cases hx : x = 0
    · subst hx
      rw [rstep_arg l y true (.inr ⟨rfl, hy⟩)]
      go_enter Try.func67, Try.ntmps67
      go_wp2_with fail
      refine (fits_no y w hy).mono ?_
      rintro e w1 ⟨rfl, rfl⟩
      go_wp2_with fail
      refine (fail_sets h 2).mono ?_
      rintro e w1 ⟨rfl, lv, gr⟩
      go_wp2_with fail
      go_ret
      exact ⟨rfl, ⟨_, _, _, lv⟩, gr⟩
    · rw [rstep_err l x y true hx]
      go_enter Try.func67, Try.ntmps67
      go_wp2_with fail
      refine (fits_no y w hy).mono ?_
      rintro e w1 ⟨rfl, rfl⟩
      go_wp2_with fail
      refine (fail_none h hx 2).mono ?_
      rintro e w1 ⟨rfl, rfl⟩
      go_wp2_with fail
      go_ret
      exact ⟨rfl, ⟨_, _, _, h⟩, World.grownBy.refl _ _⟩
  · have e : rstep l x y true = rstep l x y false := by
      have h1 : ¬ (y < 0 ∨ (true = true ∧ (y < 1 ∨ 8 < y))) := by simp; omega
      have h2 : ¬ (y < 0 ∨ (false = true ∧ (y < 1 ∨ 8 < y))) := by simp; omega
      unfold rstep
      rw [if_neg h1, if_neg h2]
    rw [e]
    have hl : (rstep l x y false).2 = [] ∨ (1 ≤ (rstep l x y false).2.length ∧ (rstep l x y false).2.length ≤ 8) := by
      unfold rstep
      split
      · exact .inl rfl
      · split
        · exact .inl rfl
        · split
          · exact .inl rfl
          · right
            simp only [List.length_take]
            omega
    generalize hst : rstep l x y false = st at hl
    have ht := take_any h y
    rw [hst] at ht
    clear hst e
    obtain ⟨⟨l1, x1⟩, p1⟩ := st
    simp only at ht hl ⊢
    go_enter Try.func67, Try.ntmps67
    go_wp2_with fail
    refine (fits_yes y w (by omega) (by omega)).mono ?_
    rintro e w1 ⟨rfl, rfl⟩
    go_wp2_with fail
    refine ht.mono ?_
    rintro e w1 ⟨A1, k, A', n', c', rfl, lv, ha, rd, mi, nn, gr⟩
    clear ht
    rcases hl with rfl | ⟨h1, h2⟩
    · have hk : k = 0 := rd.1.symm
      subst hk
      clear rd mi nn ha
      go_wp2_with fail
      refine (get_no A1 0 0 w1 (by omega)).mono ?_
      rintro e w2 ⟨rfl, rfl⟩
      go_wp2_with fail
      go_ret
      exact ⟨rfl, ⟨_, _, _, lv⟩, gr⟩
    · have hk : p1.length = k := rd.1
      rw [hk] at h1 h2
      have HR := Lib.hid rd
      clear rd mi nn ha hk
      generalize hz : leNum p1 = z
      have HZ := Lib.hid hz
      clear hz
      go_wp2_with fail
      refine (get_yes A1 k k p1 w1 _ HR.out h1 h2).mono ?_
      rintro e w2 ⟨rfl, rfl⟩
      rw [HZ.out]
      go_wp2_with fail
      go_ret
      exact ⟨by rw [HZ.out]; rfl, ⟨_, _, _, lv⟩, gr⟩
end Go.Proofs.Ytgbkpbmilaafgaa

/- A reader that Open made stays where nothing below its bound turns. It proves no statement. -/

namespace Go.Proofs.Ytgbkpbmilaafgaa
open Go.RowKit
set_option linter.unusedVariables false
set_option linter.unusedSimpArgs false

section
variable {w w' w'' : World} {lo B g : Nat} {A : Option Addr} {n c : Nat} {l : List UInt8} {x : Int}
theorem grown_trans {r : Option Nat} (a : w.grownBy w' r) (b : w'.grownBy w'' r) : w.grownBy w'' r :=
  ⟨b.os.trans a.os, b.tape.trans a.tape, b.output.trans a.output, Nat.le_trans a.size b.size, fun k hk hr => (b.block k (Nat.lt_of_lt_of_le hk a.size) hr).trans (a.block k hk hr)⟩
theorem grown_of_still {r : Option Nat} (b : Still w w') : w.grownBy w' r := ⟨b.os, b.tape, b.output, b.size, fun k hk _ => b.block k hk⟩
theorem Live.below (h : Live w lo B g A n c l x) (s : Below B w w') : Live w' lo B g A n c l x := by
  refine ⟨(s.block g h.high).trans h.blk, h.low, h.high, h.reads.below s, fun hn => ?_, h.fit, h.cap, h.nil⟩
  obtain ⟨b, o, e, hb, hf⟩ := h.mine hn
  obtain ⟨b', o', e', hlt, _⟩ := h.reads.2 hn
  rw [e] at e'
  simp only [Option.some.injEq, Addr.mk.injEq, and_true] at e'
  obtain ⟨rfl, rfl⟩ := e'
  exact ⟨b, o, e, hb, fun i hi => (World.frozen?_of_block (w := w) (s.block b hlt)).trans (hf i hi)⟩
end
end Go.Proofs.Ytgbkpbmilaafgaa

/- Contracts: a key, a number out of a reader. It proves no statement. -/






namespace Go.Proofs.Ytgbkpbmilaafgaa
open Go.RowKit
set_option linter.unusedVariables false
set_option linter.unusedSimpArgs false

theorem Live.any {w : World} {lo B g : Nat} {A : Option Addr} {n c : Nat} {l : List UInt8} {x : Int} (h : Live w lo B g A n c l x) : LiveAny w lo B g l x := ⟨A, n, c, h⟩
theorem grown_below {w w1 W : World} {r : Option Nat} (a : w.grownBy w1 r) (b : Below w.heap.size w1 W) : w.grownBy W r :=
  ⟨b.os.trans a.os, b.tape.trans a.tape, b.output.trans a.output, Nat.le_trans a.size b.size, fun k hk hr => (b.block k hk).trans (a.block k hk hr)⟩
theorem leNum4 (l : List UInt8) : leNum (l.take 4) ≤ 4294967295 := by
  have h := leNum_lt (l.take 4)
  have h4 : (l.take 4).length ≤ 4 := by rw [List.length_take]; omega
  have : 2 ^ (8 * (l.take 4).length) ≤ 2 ^ 32 := Nat.pow_le_pow_right (by omega) (by omega)
  omega
theorem bnum_any {w : World} {lo B g : Nat} {l : List UInt8} (h : LiveAny w lo B g l 0) (hl : 4 ≤ l.length) :
    Calls Try.prog 52 #[.pointer (some ⟨g, 0, none⟩)] w fun e w' => e = .returned (.int .i64 (leNum (l.take 4) : Nat)) ∧ LiveAny w' lo B g (l.drop 4) 0 ∧ w.grownBy w' (some g) := by
  have N := num_any h 4
  have e : rstep l 0 4 true = ((l.drop 4, 0), l.take 4) := rstep_ok l 4 true (by simp) hl
  rw [e] at N
  simp only at N
  have hb := leNum4 l
  generalize leNum (l.take 4) = z at *
  have HN := Lib.hid N
  have d1 : (z : Int) ≤ 4294967295 := by omega
  clear N e h
  go_enter Try.func52, Try.ntmps52
  go_wp2_with (go_at_call 67; with_reducible refine HN.out.mono ?_; rintro e w1 ⟨rfl, lv, gr⟩; have LV := Lib.hid (And.intro lv gr); clear lv gr)
  go_ret
  exact ⟨rfl, LV.out⟩
set_option maxRecDepth 100000 in
set_option maxHeartbeats 1600000 in
theorem bkey_any {w : World} {lo B g : Nat} {l : List UInt8} (h : LiveAny w lo B g l 0) (hl : 32 ≤ l.length) (hg : g < w.heap.size) (hB : B ≤ w.heap.size) :
    Calls Try.prog 51 #[.pointer (some ⟨g, 0, none⟩)] w fun e w' => e = .returned (.agg (bytesV (l.take 32)).toArray) ∧ LiveAny w' lo B g (l.drop 32) 0 ∧ w.grownBy w' (some g) := by
  obtain ⟨wA, hwA⟩ : ∃ wA, wA = w.alloc (.cells (bytesV (List.replicate 32 0)).toArray 62) := ⟨_, rfl⟩
  obtain ⟨wB, hwB⟩ : ∃ wB, wB = wA.alloc (.cells (bytesV (List.replicate 32 0)).toArray 62) := ⟨_, rfl⟩
  have zA : wA.heap.size = w.heap.size + 1 := by rw [hwA]; simp
  have zB : wB.heap.size = w.heap.size + 2 := by rw [hwB]; simp [zA]
  have sA : Still w wA := by rw [hwA]; exact (Still.refl w).alloc (Nat.le_refl _) _
  have sB : Still wA wB := by rw [hwB]; exact (Still.refl wA).alloc (Nat.le_refl _) _
  have bA : Blk wB w.heap.size 62 (bytesV (List.replicate 32 0)).toArray := by
    have h1 : Blk wA w.heap.size 62 (bytesV (List.replicate 32 0)).toArray := by rw [hwA]; exact Blk.new w _ _
    exact h1.still sB
  have bB : Blk wB (w.heap.size + 1) 62 (bytesV (List.replicate 32 0)).toArray := by rw [← zA, hwB]; exact Blk.new wA _ _
  obtain ⟨z, hz⟩ : ∃ z, z = (bytesV (List.replicate 32 0)).toArray := ⟨_, rfl⟩
  have HZI := Lib.hid (show (Try.prog.info? 62).map (fun i => (i.zero, i.size)) = some (some (.agg z), 32) by rw [hz]; kernel_rfl)
  have e : rstep l 0 32 false = ((l.drop 32, 0), l.take 32) := rstep_ok l 32 false (by simp) hl
  have lvB : LiveAny wB.drew lo B g l 0 := by
    obtain ⟨A, n, c, lv⟩ := h
    exact ⟨A, n, c, lv.below (Below.mono (Still.trans sA (Still.trans sB (Still.refl _).drew)) hB)⟩
  have BY := bytes_any lvB 32
  rw [e] at BY
  simp only at BY
  have hlen : (l.take 32).length = 32 := by rw [List.length_take]; omega
  have al : Try.prog.arrayLen 62 = 32 := by kernel_rfl
  have HBY := Lib.hid BY
  have HWA := Lib.hid (show wA = w.alloc (.cells z 62) by rw [hz]; exact hwA)
  have HWB := Lib.hid (show wB = wA.alloc (.cells z 62) by rw [hz]; exact hwB)
  obtain ⟨g2, hg2⟩ : ∃ g2, g2 = w.heap.size := ⟨_, rfl⟩
  obtain ⟨g3, hg3⟩ : ∃ g3, g3 = wA.heap.size := ⟨_, rfl⟩
  have G2 := Lib.hid hg2
  have G3 := Lib.hid hg3
  have BA := Lib.hid bA
  have BB := Lib.hid bB
  have HL := Lib.hid hlen
  have ZB := Lib.hid (And.intro zA zB)
  have SB := Lib.hid (Still.trans sA sB)
  have GB := Lib.hid (show g < w.heap.size ∧ B ≤ w.heap.size from ⟨hg, hB⟩)
  have hsz : (Try.prog.info? 5).map (·.size) = some 1 := by kernel_rfl
  clear hwA hwB zA zB sA sB bA bB hz e lvB BY hlen h hg hB hg2 hg3 hl
  go_enter Try.func51, Try.ntmps51
  go_upto_region 2 with (first
    | (guard_target =~ wpList _ _ _ (Oper.mk (some 2) _ _ _ _ _ :: _) _ _; go_must (refine wpList_alloc_arr rfl 62 rfl (some 2) rfl z 32 HZI.out ?_); rw [← HWA.out, ← G2.out])
    | (guard_target =~ wpList _ _ _ (Oper.mk (some 3) _ _ _ _ _ :: _) _ _; go_must (refine wpList_alloc_arr rfl 62 rfl (some 3) rfl z 32 HZI.out ?_); rw [← HWB.out, ← G3.out]))
  have PB := Lib.hid (fun W (gr : wB.drew.grownBy W (some g)) => show W.heap[g3]? = some (.cells (bytesV (List.replicate 32 0)).toArray 62 (0, 0)) from by
    have h1 := BB.out
    have h2 := ZB.out
    have h3 := GB.out
    rw [← h2.1, ← G3.out] at h1
    rw [gr.block g3 (by show g3 < wB.heap.size; rw [h2.2, G3.out, h2.1]; omega) (fun e => by have e := Option.some.inj e; rw [G3.out, h2.1] at e; omega)]
    exact h1)
  have NL := Lib.hid (show (bytesV (l.take 32)).length = Nat.min 32 32 by rw [bytesV_length, HL.out]; rfl)
  have FL := Lib.hid (show 0 + (bytesV (l.take 32)).length ≤ (bytesV (List.replicate 32 0)).length by rw [bytesV_length, bytesV_length, HL.out]; simp)
  have SRC := Lib.hid (fun W A1 (rd : Reads W B A1 32 (l.take 32)) => show ∃ ad, A1 = some ad ∧ ∀ j v, (bytesV (l.take 32))[j]? = some v → W.cell? (ad.add j) = some v from by
    obtain ⟨b, o, e, _, _⟩ := rd.at_ (by omega)
    exact ⟨_, e, rd.news _ e (by omega)⟩)
  have SPL := Lib.hid (show splice (bytesV (List.replicate 32 0)) 0 (bytesV (l.take 32)) = bytesV (l.take 32) by
    have := HL.out
    unfold splice
    rw [List.take_zero, List.nil_append, List.drop_of_length_le (by rw [bytesV_length, bytesV_length, this]; simp), List.append_nil])
  go_region_held3 (fun _ => True) (first | trivial) (first
    | (go_at_call 75; with_reducible refine HBY.out.mono ?_; rintro e w1 ⟨A1, k, A', n', c', rfl, lv, ah, rd, mi, nn, gr⟩; (obtain rfl : k = 32 := by have := rd.len; have := HL.out; omega); have RD := Lib.hid rd; have LV := Lib.hid (And.intro lv.any gr); have PB1 := Lib.hid (PB.out _ gr); clear lv ah rd mi nn gr)
    | (refine step_copy_splice rfl (.tmp 4) (.tmp 6) 27 27 rfl 5 Try.underlying27 hsz (some ⟨g3, 0, none⟩) A1 32 32 32 32 rfl rfl g3 0 (bytesV (List.replicate 32 0)) 62 PB1.out (bytesV (l.take 32)) NL.out (fun _ => ⟨rfl, SRC.out _ _ RD.out⟩) FL.out (bytesV_one _) g3 w1 (Below.refl _ _) (Nat.le_refl _) ?_; intro w3 hg3' hb3; rw [SPL.out] at hg3'; have B3 := Lib.hid hb3; clear hb3))
  have R3 := Lib.hid (show w3.rangeAt g3 0 (bytesV (l.take 32)) from fun j u hj => by rw [Nat.zero_add, cell_of_row _ g3 j _ _ (0, 0) hg3'.out, List.getElem?_toArray, hj])
  have BA3 := Lib.hid (show w3.heap[g2]? = some (.cells (bytesV (List.replicate 32 0)).toArray 62 (0, 0)) from by
    have h1 := BA.out
    have h2 := ZB.out
    have h3 := GB.out
    have h4 := LV.out.2
    have h5 := h4.block g2 (by show g2 < wB.heap.size; rw [h2.2, G2.out]; omega) (fun e => by have e := Option.some.inj e; rw [G2.out] at e; omega)
    rw [B3.out.block g2 (by rw [G2.out, G3.out, h2.1]; omega), h5, G2.out]
    exact h1)
  have SZ := Lib.hid (show (Try.prog.info? 62).map (·.size) = some (bytesV (l.take 32)).length from by rw [size32, bytesV_length, HL.out])
  have SZA := Lib.hid (show (Try.prog.info? 62).map (·.size) = some (bytesV (l.take 32)).toArray.size from by rw [size32]; simp [bytesV_length, HL.out])
  have SEQ := Lib.hid (show (bytesV (List.replicate 32 0)).toArray.size = (bytesV (l.take 32)).toArray.size from by simp [bytesV_length, HL.out])
  go_simp
  go_wp2_with (first
    | (guard_target =~ wpList _ _ _ (Oper.mk (some 8) _ _ _ _ _ :: _) _ _; go_must (refine wpList_load_mid rfl 62 (.tmp 3) rfl g3 0 rfl (bytesV (l.take 32)) _ R3.out under32 rfl SZ.out ?_))
    | (guard_target =~ wpList _ _ _ (Oper.mk none (Op.store _ _ _) _ _ _ _ :: _) _ _; go_must (refine wpList_store_rowTo rfl 62 (.tmp 2) (.tmp 8) rfl rfl g2 (bytesV (l.take 32)).toArray rfl rfl 62 _ BA3.out SZA.out SEQ.out (all_oneCell_toArray (bytesV_one _)) ?_)))
  refine bodyPost_ret (results_cell_row rfl _ _ g2 _ _ _ _ rfl (setRow_heap w3 _ _ _ _ _ BA3.out) under32 rfl SZA.out) rfl ?_
  have h2 := ZB.out
  have h3 := GB.out
  have hW : Below w.heap.size w1 (w3.setRow g2 (bytesV (l.take 32)).toArray) := below_setRow (Below.mono B3.out (by rw [G3.out, h2.1]; omega)) (by rw [G2.out]; omega) _
  obtain ⟨A, n, c, lv⟩ := LV.out.1
  exact ⟨rfl, ⟨A, n, c, lv.below (Below.mono hW h3.2)⟩, grown_below (grown_trans (grown_of_still (Still.trans SB.out (Still.refl _).drew)) LV.out.2) hW⟩
end Go.Proofs.Ytgbkpbmilaafgaa

/- Contract: a row (index) out of a reader. It proves no statement. -/


namespace Go.Proofs.Ytgbkpbmilaafgaa
open Go.RowKit
set_option linter.unusedVariables false
set_option linter.unusedSimpArgs false

theorem zero_i : (Try.prog.info? 66).map (fun i => (i.zero, i.size)) = some (some (.agg (rowV (List.replicate 32 0, List.replicate 3 0)).toArray), 35) := by kernel_rfl
theorem size_i : (Try.prog.info? 66).map (·.size) = some 35 := by kernel_rfl
theorem built_i0 (x y z : Int) : Try.prog.built 64 [(0, .int .i64 x), (1, .int .i64 y), (2, .int .i64 z)] = some #[.int .i64 x, .int .i64 y, .int .i64 z] := by kernel_rfl
set_option maxRecDepth 100000 in
theorem built_i (K : List UInt8) (hK : K.length = 32) (x y z : Int) : Try.prog.built 66 [(0, .agg (bytesV K).toArray), (1, .agg #[.int .i64 x, .int .i64 y, .int .i64 z])] = some (rowV (K, [x, y, z])).toArray := by
  obtain ⟨k0, k1, k2, k3, k4, k5, k6, k7, k8, k9, k10, k11, k12, k13, k14, k15, k16, k17, k18, k19, k20, k21, k22, k23, k24, k25, k26, k27, k28, k29, k30, k31, rfl⟩ := list32 K hK
  kernel_rfl
set_option maxRecDepth 100000 in
set_option maxHeartbeats 1600000 in
theorem take_i {w : World} {lo B g : Nat} {l : List UInt8} (h : LiveAny w lo B g l 0) (hl : 44 ≤ l.length) (hg : g < w.heap.size) (hB : B ≤ w.heap.size) :
    Calls Try.prog 50 #[.pointer (some ⟨g, 0, none⟩)] w fun e w' => e = .returned (.agg (rowV (kI.rowAt l)).toArray) ∧ LiveAny w' lo B g (l.drop 44) 0 ∧ w.grownBy w' (some g) := by
  obtain ⟨z0, hz0⟩ : ∃ z, z = (rowV (List.replicate 32 0, List.replicate 3 0)).toArray := ⟨_, rfl⟩
  obtain ⟨wA, hwA⟩ : ∃ wA, wA = w.alloc (.cells z0 66) := ⟨_, rfl⟩
  obtain ⟨g2, hg2⟩ : ∃ g2, g2 = w.heap.size := ⟨_, rfl⟩
  have zA : wA.heap.size = g2 + 1 := by rw [hwA, hg2]; simp
  have sA : Still w wA := by rw [hwA]; exact (Still.refl w).alloc (Nat.le_refl _) _
  have bA : Blk wA g2 66 z0 := by rw [hwA, hg2]; exact Blk.new w _ _
  have HZI := Lib.hid (show (Try.prog.info? 66).map (fun i => (i.zero, i.size)) = some (some (.agg z0), 35) by rw [hz0]; exact zero_i)
  have LV0 := Lib.hid (show LiveAny wA lo B g l 0 from by
    obtain ⟨A, n, c, lv⟩ := h
    exact (lv.below (Below.mono sA hB)).any)
  have NUM := Lib.hid (fun W (lv : wA.grownBy W (some g) ∧ ∃ q : List UInt8, LiveAny W lo B g q 0 ∧ 4 ≤ q.length) => show ∃ q : List UInt8, LiveAny W lo B g q 0 ∧ 4 ≤ q.length from lv.2)
  have GB := Lib.hid (show g < wA.heap.size ∧ B ≤ wA.heap.size from by omega)
  have KEY := Lib.hid (bkey_any LV0.out (by omega) GB.out.1 GB.out.2)
  obtain ⟨K, hK⟩ : ∃ K, K = l.take 32 := ⟨_, rfl⟩
  obtain ⟨l1, hl1⟩ : ∃ l1, l1 = l.drop 32 := ⟨_, rfl⟩
  have hKl : K.length = 32 := by rw [hK, List.length_take]; omega
  rw [← hK, ← hl1] at KEY
  obtain ⟨l2, hl2⟩ : ∃ l2, l2 = l1.drop 4 := ⟨_, rfl⟩
  obtain ⟨l3, hl3⟩ : ∃ l3, l3 = l2.drop 4 := ⟨_, rfl⟩
  obtain ⟨l4, hl4⟩ : ∃ l4, l4 = l3.drop 4 := ⟨_, rfl⟩
  have n1 : l1.length = l.length - 32 := by rw [hl1]; rw [List.length_drop]
  have n2 : l2.length = l1.length - 4 := by rw [hl2, List.length_drop]
  have n3 : l3.length = l2.length - 4 := by rw [hl3, List.length_drop]
  have N1 := Lib.hid (fun W (lv : LiveAny W lo B g l1 0) => bnum_any lv (by omega))
  have N2 := Lib.hid (fun W (lv : LiveAny W lo B g l2 0) => bnum_any lv (by omega))
  have N3 := Lib.hid (fun W (lv : LiveAny W lo B g l3 0) => bnum_any lv (by omega))
  obtain ⟨x, hx⟩ : ∃ x, x = leNum (l1.take 4) := ⟨_, rfl⟩
  obtain ⟨y, hy⟩ : ∃ y, y = leNum (l2.take 4) := ⟨_, rfl⟩
  obtain ⟨z, hz⟩ : ∃ z, z = leNum (l3.take 4) := ⟨_, rfl⟩
  have ROW := Lib.hid (show kI.rowAt l = (K, [(x : Int), (y : Int), (z : Int)]) from by
    unfold Kd.rowAt
    show (l.take 32, numsAt 3 (l.drop 32)) = _
    rw [← hK, ← hl1]
    simp only [numsAt, ← hl2, ← hl3, ← hx, ← hy, ← hz])
  have END := Lib.hid (show l4 = l.drop 44 from by
    rw [hl4, hl3, hl2, hl1]
    simp only [List.drop_drop])
  rw [← hx, ← hl2] at N1
  rw [← hy, ← hl3] at N2
  rw [← hz, ← hl4] at N3
  have HWA := Lib.hid hwA
  have G2 := Lib.hid hg2
  have BA := Lib.hid bA
  have SA := Lib.hid sA
  have GG := Lib.hid (show g ≠ g2 ∧ g2 < wA.heap.size ∧ w.heap.size = g2 ∧ B ≤ g2 from ⟨by omega, by omega, hg2.symm, by omega⟩)
  have BT := Lib.hid (fun a b (c : Int) => built_i K hKl a b c)
  have RS := Lib.hid (show (rowV (K, [(x : Int), (y : Int), (z : Int)])).toArray.size = 35 by simp [rowV_length, hKl])
  have ZS := Lib.hid (show z0.size = 35 by rw [hz0]; simp [rowV_length])
  obtain ⟨fs, hu⟩ : ∃ fs, Try.prog.underlying 66 = some (.struct fs) := ⟨_, Try.underlying66⟩
  have HU := Lib.hid hu
  rw [ROW.out]
  rw [END.out.symm]
  clear hwA hg2 zA sA bA hz0 h hl hg hB hl1 hl2 hl3 hl4 n1 n2 n3 hx hy hz hu NUM
  clear hK hKl
  go_enter Try.func50, Try.ntmps50
  go_upto_region 1 with (guard_target =~ wpList _ _ _ (Oper.mk (some 2) _ _ _ _ _ :: _) _ _; go_must (refine wpList_alloc_arr rfl 66 rfl (some 2) rfl z0 35 HZI.out ?_); rw [← HWA.out, ← G2.out])
  go_wp2_with (first
    | (go_at_call 51; with_reducible refine KEY.out.mono ?_; rintro e w1 ⟨rfl, lv1, gr1⟩; have LV1 := Lib.hid lv1; have GR1 := Lib.hid gr1; clear lv1 gr1)
    | (go_at_call 52; first
        | (with_reducible refine (N3.out _ LV3.out).mono ?_; rintro e w4 ⟨rfl, lv4, gr4⟩; have LV4 := Lib.hid lv4; have GR4 := Lib.hid (grown_trans GR3.out gr4); clear lv4 gr4)
        | (with_reducible refine (N2.out _ LV2.out).mono ?_; rintro e w3 ⟨rfl, lv3, gr3⟩; have LV3 := Lib.hid lv3; have GR3 := Lib.hid (grown_trans GR2.out gr3); clear lv3 gr3)
        | (with_reducible refine (N1.out _ LV1.out).mono ?_; rintro e w2 ⟨rfl, lv2, gr2⟩; have LV2 := Lib.hid lv2; have GR2 := Lib.hid (grown_trans GR1.out gr2); clear lv2 gr2))
    | (guard_target =~ wpList _ _ _ (Oper.mk _ (Op.build 64 _) _ _ _ _ :: _) _ _; go_must (refine wpList_buildTo rfl 64 _ rfl (some 11) rfl #[.int .i64 (x : Int), .int .i64 (y : Int), .int .i64 (z : Int)] (by simp only [List.map_toArray, List.map_cons, List.map_nil]; exact built_i0 _ _ _) ?_))
    | (guard_target =~ wpList _ _ _ (Oper.mk _ (Op.build 66 _) _ _ _ _ :: _) _ _; go_must (refine wpList_buildTo rfl 66 _ rfl (some 12) rfl (rowV (K, [(x : Int), (y : Int), (z : Int)])).toArray (by simp only [List.map_toArray, List.map_cons, List.map_nil]; exact BT.out _ _ _) ?_); have B4 := Lib.hid (show Blk w4 g2 66 z0 from (GR4.out.block g2 GG.out.2.1 (fun e => GG.out.1 (Option.some.inj e).symm)).trans BA.out))
    | (guard_target =~ wpList _ _ _ (Oper.mk none (Op.store _ _ _) _ _ _ _ :: _) _ _; go_must (refine wpList_store_rowTo rfl 66 (.tmp 2) (.tmp 12) rfl rfl g2 (rowV (K, [(x : Int), (y : Int), (z : Int)])).toArray rfl rfl 66 _ B4.out (by rw [size_i, RS.out]) (by rw [ZS.out, RS.out]) (all_oneCell_toArray (rowV_one _)) ?_)))
  refine bodyPost_ret (results_cell_row rfl _ _ g2 _ _ _ _ rfl (setRow_heap w4 _ _ _ _ _ B4.out) HU.out rfl (by rw [size_i, RS.out])) rfl ?_
  have hW : ∀ cs, Below w.heap.size w4 (w4.setRow g2 cs) := fun cs => below_setRow (Below.refl _ _) (by have := GG.out.2.2.1; omega) cs
  obtain ⟨A, n, c, lv⟩ := LV4.out
  exact ⟨rfl, ⟨A, n, c, lv.below (below_setRow (Below.refl _ _) (GG.out.2.2.2) _)⟩, grown_below (grown_trans (grown_of_still SA.out) GR4.out) (hW _)⟩
end Go.Proofs.Ytgbkpbmilaafgaa

/- 'append(b, c...)', told where the row lies behind it. It proves no statement. -/

namespace Go.Proofs.Ytgbkpbmilaafgaa
open Go.RowKit
set_option linter.unusedVariables false

theorem run_adds_at (w : World) (ty : TypeId) (base : Nat) (v : Value) (n : Nat) (l : List UInt8) (hown : w.ownsRow base 5 1 v n (bytesV l)) (A : Option Addr) (n' c' : Nat) (B : Nat) (l' : List UInt8)
    (hr : Reads w B A n' l') (hA : A = none → c' = 0) (hn : n + n' ≤ 140737488355328) (hbase : base ≤ w.heap.size) :
    ∃ v' w', (Builtin.append_ #[27, 27] ty #[v, .slice A n' c']).run Try.prog w = .ok v' w' ∧ w'.ownsRow base 5 1 v' (n + n') (bytesV (l ++ l')) ∧ w.grownBy w' v.ownBlock ∧ (v'.ownBlock = v.ownBlock ∨ v'.ownBlock = some w.heap.size) := by
  obtain ⟨i0, hi, hz0, hz1, hz2⟩ := info_parts Try.infoByte
  rcases A with _ | ad
  · have h0 : n' = 0 := by
      rcases Nat.eq_zero_or_pos n' with h0 | h0
      · exact h0
      · obtain ⟨_, _, e, _⟩ := hr.2 h0
        cases e
    subst h0
    have hl : l' = [] := List.eq_nil_of_length_eq_zero hr.1
    subst hl
    obtain rfl := hA rfl
    exact ⟨v, w, run_append_owned_none (P := Try.prog) w base 27 ty 5 i0 1 Try.underlying27 hi v n _ hown, by simpa using hown, World.grownBy.refl _ _, .inl rfl⟩
  · have hnews : ∀ j u, (bytesV l')[j]? = some u → w.cell? (ad.add j) = some u := by
      intro j u hu
      rcases Nat.eq_zero_or_pos n' with h0 | h0
      · subst h0
        have hl : l' = [] := List.eq_nil_of_length_eq_zero hr.1
        subst hl
        simp [bytesV] at hu
      · exact hr.news ad rfl h0 j u hu
    obtain ⟨v', w', hrun, h2, h3, _, h5⟩ := run_append_own_at (P := Try.prog) w base 27 ty 5 i0 (.int .u8 0) 1 1 Try.underlying27 hi hz0 hz1 hz2 rfl (by decide) v n _ hown ad n' c' (bytesV l') (by rw [bytesV_length, hr.1]; omega) hnews (bytesV_one _) (by unfold maxLen; omega) (by omega) hbase
    rw [← bytesV_append] at h2
    exact ⟨v', w', hrun, h2, h3, h5⟩
theorem wpList_adds_at (w : World) {ops : Array Oper} {rest : List Oper} {o : Oper} {a : Act} {Q : Exit → Act → World → Prop} (hgd : o.guard = none) (s x : Operand)
    (ho : o.op = .call { callee := .builtin .append, args := #[s, x], argTypes := #[27, 27] })
    (base : Nat) (v : Value) (n : Nat) (l : List UInt8) (hs : a.eval s = v) (hown : w.ownsRow base 5 1 v n (bytesV l)) (A : Option Addr) (n' c' : Nat) (B : Nat) (l' : List UInt8)
    (hx : a.eval x = .slice A n' c') (hr : Reads w B A n' l') (hA : A = none → c' = 0) (hn : n + n' ≤ 140737488355328) (hbase : base ≤ w.heap.size)
    (h : ∀ v' w', w'.ownsRow base 5 1 v' (n + n') (bytesV (l ++ l')) → w.grownBy w' v.ownBlock → (v'.ownBlock = v.ownBlock ∨ v'.ownBlock = some w.heap.size) → wpList Try.prog ops Q rest (a.put o.dst v') w') :
    wpList Try.prog ops Q (o :: rest) a w := by
  refine wpList_plain hgd fun K hK => ?_
  obtain ⟨v', w', hrun, h2, h3, h4⟩ := run_adds_at w o.type base v n l hown A n' c' B l' hr hA hn hbase
  unfold Oper.wp execOp
  simp only [ho, resolve, invoke, builtin, Sem.run_bind, Sem.run_pure, Result.andThen_ok, List.map_toArray, List.map_cons, List.map_nil, hs, hx, hrun]
  exact hK _ _ (h v' w' h2 h3 h4)
end Go.Proofs.Ytgbkpbmilaafgaa
