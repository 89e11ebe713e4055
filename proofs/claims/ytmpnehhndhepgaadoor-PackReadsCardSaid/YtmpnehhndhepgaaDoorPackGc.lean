/- Contracts and facts, several texts in one. It proves no statement. -/
import Derived.Test.YtmpnehhndhepgaaDoorPackGa
import Derived.Laws.ResultCell
import Derived.Laws.CopyOwn
import Derived.Deep.WholeRow
import Derived.Great.BuildSlice
import Derived.Test.YtmpnehhndhepgaaDoorPackGb
import Derived.Deep.RegionHeld3

/- Contracts: the reader of values: a tag, a number's bytes, whether it fits. It proves no statement. -/




namespace Go.Proofs.YtmpnehhndhepgaaDoor
open Go.RowKit
set_option linter.unusedVariables false
set_option linter.unusedSimpArgs false

section
variable {w w' w'' : World} {lo B g : Nat} {A : Option Addr} {n c : Nat} {l : List UInt8} {x : Int}
theorem grown_trans {r : Option Nat} (a : w.grownBy w' r) (b : w'.grownBy w'' r) : w.grownBy w'' r :=
  ⟨b.os.trans a.os, b.tape.trans a.tape, b.output.trans a.output, Nat.le_trans a.size b.size, fun k hk hr => (b.block k (Nat.lt_of_lt_of_le hk a.size) hr).trans (a.block k hk hr)⟩
theorem grown_of_still {r : Option Nat} (b : Still w w') : w.grownBy w' r := ⟨b.os, b.tape, b.output, b.size, fun k hk _ => b.block k hk⟩
theorem Live.below (h : Live w lo B g A n c l x) (s : Below B w w') : Live w' lo B g A n c l x := by
  refine ⟨(s.block g h.high).trans h.blk, h.low, h.high, h.reads.below s, fun hn => ?_, h.fit, h.cap, h.nil⟩
  obtain ⟨b, o, e, hb, hf⟩ := h.mine hn
  obtain ⟨b', o', e', hlt, _⟩ := h.reads.2 hn
  rw [e] at e'
  simp only [Option.some.injEq, Addr.mk.injEq, and_true] at e'
  obtain ⟨rfl, rfl⟩ := e'
  exact ⟨b, o, e, hb, fun i hi => (World.frozen?_of_block (w := w) (s.block b hlt)).trans (hf i hi)⟩
end

/-- The reader of values at block h, over the reader of bytes at block g, all below block B: the bytes l are left, the error is x. -/
def Rd (w : World) (lo B h g : Nat) (l : List UInt8) (x : Int) : Prop :=
  lo ≤ h ∧ h < B ∧ h ≠ g ∧ lo ≤ g ∧ B ≤ w.heap.size ∧ Blk w h 60 #[.pointer (some ⟨g, 0, none⟩)] ∧ LiveAny w lo B g l x
section
variable {w w' : World} {lo B h g : Nat} {l l' : List UInt8} {x x' : Int}
theorem Rd.below (r : Rd w lo B h g l x) (s : Below B w w') : Rd w' lo B h g l x := by
  obtain ⟨h1, h0, h2, h3, hB, hb, A, n, c, lv⟩ := r
  exact ⟨h1, h0, h2, h3, Nat.le_trans hB s.size, (s.block h h0).trans hb, A, n, c, lv.below s⟩
theorem Rd.still (r : Rd w lo B h g l x) (s : Still w w') : Rd w' lo B h g l x := r.below (s.mono r.2.2.2.2.1)
theorem Rd.cell (r : Rd w lo B h g l x) : w.cell? ⟨h, 0, none⟩ = some (.pointer (some ⟨g, 0, none⟩)) := r.2.2.2.2.2.1.cell 0
theorem Rd.next (r : Rd w lo B h g l x) (gr : w.grownBy w' (some g)) (n : LiveAny w' lo B g l' x') : Rd w' lo B h g l' x' := by
  obtain ⟨h1, h0, h2, h3, hB, hb, lv⟩ := r
  exact ⟨h1, h0, h2, h3, Nat.le_trans hB gr.size, (gr.block h hb.lt (fun e => h2 (Option.some.inj e))).trans hb, n⟩
theorem Rd.low (r : Rd w lo B h g l x) : lo ≤ g ∧ g < B ∧ B ≤ w.heap.size ∧ h < B := by
  obtain ⟨h1, h0, h2, h3, hB, hb, A, n, c, lv⟩ := r
  exact ⟨h3, lv.high, hB, h0⟩
theorem Rd.live (r : Rd w lo B h g l x) : LiveAny w lo B g l x := r.2.2.2.2.2.2
end

/-- What a reader of bytes does: so many are taken. -/
theorem rd_num_no {w : World} {lo B h g : Nat} {l : List UInt8} (r : Rd w lo B h g l 0) (k : Nat) (h1 : 1 ≤ k) (h8 : k ≤ 8) (hs : l.length < k) :
    Calls Tryd.prog 67 #[.pointer (some ⟨g, 0, none⟩), .int .i64 k] w fun e w' => e = .returned (.int .u64 0) ∧ Rd w' lo B h g l 3 ∧ w.grownBy w' (some g) := by
  have lv := r.live
  refine (num_any lv k).mono ?_
  rintro e w' ⟨he, lv', gr⟩
  rw [rstep_short l k true (by simp; omega) (by omega)] at he lv'
  exact ⟨he, r.next gr lv', gr⟩
theorem rd_num_yes {w : World} {lo B h g : Nat} {l : List UInt8} (r : Rd w lo B h g l 0) (k : Nat) (h1 : 1 ≤ k) (h8 : k ≤ 8) (hs : k ≤ l.length) :
    Calls Tryd.prog 67 #[.pointer (some ⟨g, 0, none⟩), .int .i64 k] w fun e w' => e = .returned (.int .u64 (leNum (l.take k) : Nat)) ∧ Rd w' lo B h g (l.drop k) 0 ∧ w.grownBy w' (some g) := by
  have lv := r.live
  refine (num_any lv k).mono ?_
  rintro e w' ⟨he, lv', gr⟩
  rw [rstep_ok l k true (by simp; omega) hs] at he lv'
  exact ⟨he, r.next gr lv', gr⟩
theorem rd_bytes_no {w : World} {lo B h g : Nat} {l : List UInt8} (r : Rd w lo B h g l 0) (k : Nat) (hs : l.length < k) :
    Calls Tryd.prog 72 #[.pointer (some ⟨g, 0, none⟩), .int .i64 k] w fun e w' => (∃ A1, e = .returned (.slice A1 0 0)) ∧ Rd w' lo B h g l 3 ∧ w.grownBy w' (some g) := by
  have lv := r.live
  refine (bytes_any lv k).mono ?_
  rintro e w' ⟨A1, m, A', n', c', he, lv', _, rd, _, nn, gr⟩
  rw [rstep_short l k false (by simp) (by omega)] at lv' rd
  have hm : m = 0 := by have := rd.1; simp at this; omega
  subst hm
  exact ⟨⟨A1, he⟩, r.next gr ⟨A', n', c', lv'⟩, gr⟩
theorem rd_bytes_yes {w : World} {lo B h g : Nat} {l : List UInt8} (r : Rd w lo B h g l 0) (k : Nat) (hs : k ≤ l.length) :
    Calls Tryd.prog 72 #[.pointer (some ⟨g, 0, none⟩), .int .i64 k] w fun e w' => (∃ A1, e = .returned (.slice A1 k k) ∧ Reads w' w'.heap.size A1 k (l.take k) ∧ (A1 = none → k = 0)) ∧ Rd w' lo B h g (l.drop k) 0 ∧ w.grownBy w' (some g) := by
  have lv := r.live
  refine (bytes_any lv k).mono ?_
  rintro e w' ⟨A1, m, A', n', c', he, lv', _, rd, _, nn, gr⟩
  rw [rstep_ok l k false (by simp) hs] at lv' rd
  have hm : m = k := by have := rd.1; simp at this; omega
  subst hm
  exact ⟨⟨A1, he, rd.more (Nat.le_trans r.low.2.2.1 gr.size), nn⟩, r.next gr ⟨A', n', c', lv'⟩, gr⟩
theorem rd_err {w : World} {lo B h g : Nat} {l : List UInt8} {x : Int} (r : Rd w lo B h g l x) :
    Calls Tryd.prog 56 #[.pointer (some ⟨g, 0, none⟩)] w fun e w' => e = .returned (.int .i64 x) ∧ w = w' := by
  obtain ⟨A, n, c, lv⟩ := r.live
  exact err_live lv

/-- A first byte. -/
theorem tag_yes {w : World} {lo B h g : Nat} {l : List UInt8} (t : UInt8) (r : Rd w lo B h g (t :: l) 0) :
    Calls Tryd.prog 49 #[.pointer (some ⟨h, 0, none⟩)] w fun e w' => e = .returned (.tuple #[.int .u8 (t.toNat : Int), .int .i64 0]) ∧ Rd w' lo B h g l 0 ∧ w.grownBy w' (some g) := by
  have c0 := r.cell
  have N := rd_num_yes r 1 (by omega) (by omega) (by simp)
  have e1 : leNum ((t :: l).take 1) = t.toNat := by simp [leNum]
  rw [e1] at N
  have htl := t.toNat_lt
  have e2 : IntKind.u8.wrap (t.toNat : Int) = (t.toNat : Int) := by rw [IntKind.wrap_u8]; omega
  have NN := Lib.hid N
  clear N e1 r htl
  generalize t.toNat = tt at *
  go_enter Tryd.func49, Tryd.ntmps49
  go_wp2_with fail
  refine NN.out.mono ?_
  rintro e w1 ⟨rfl, r1, gr1⟩
  have c1 := r1.cell
  have EE := Lib.hid (rd_err r1)
  have R1 := Lib.hid r1
  have GR := Lib.hid gr1
  clear r1 gr1 c0 NN
  go_wp2_with fail
  refine EE.out.mono ?_
  rintro e w2 ⟨rfl, rfl⟩
  go_wp2_with fail
  go_ret2
  exact ⟨rfl, R1.out, GR.out⟩

/-- A number's bytes, the highest first: there are so many. -/
theorem rbig_yes {w : World} {lo B h g : Nat} {l : List UInt8} (r : Rd w lo B h g l 0) (k : Nat) (h1 : 1 ≤ k) (h8 : k ≤ 8) (hs : k ≤ l.length) :
    Calls Tryd.prog 68 #[.pointer (some ⟨h, 0, none⟩), .int .i64 k] w fun e w' => e = .returned (.int .u64 (leNum (l.take k).reverse : Nat)) ∧ Rd w' lo B h g (l.drop k) 0 ∧ w.grownBy w' (some g) := by
  have c0 := r.cell
  have N := Lib.hid (rd_bytes_yes r k hs)
  obtain ⟨y, hy⟩ : ∃ y, y = leNum (l.take k).reverse := ⟨_, rfl⟩
  rw [← hy]
  have HY := Lib.hid hy
  clear hy r hs
  go_enter Tryd.func68, Tryd.ntmps68
  go_wp2_with fail
  refine N.out.mono ?_
  rintro e w1 ⟨⟨A1, rfl, q1, _⟩, r1, gr1⟩
  have G := Lib.hid (getbig_yes A1 k k _ w1 _ q1 h1 h8)
  rw [← HY.out] at G
  have R1 := Lib.hid r1
  have GR := Lib.hid gr1
  clear r1 gr1 q1 c0 N
  go_wp2_with fail
  refine G.out.mono ?_
  rintro e w2 ⟨rfl, rfl⟩
  go_wp2_with fail
  go_ret
  exact ⟨rfl, R1.out, GR.out⟩
/-- A number's bytes: they end too early. -/
theorem rbig_no {w : World} {lo B h g : Nat} {l : List UInt8} (r : Rd w lo B h g l 0) (k : Nat) (hs : l.length < k) :
    Calls Tryd.prog 68 #[.pointer (some ⟨h, 0, none⟩), .int .i64 k] w fun e w' => e = .returned (.int .u64 0) ∧ Rd w' lo B h g l 3 ∧ w.grownBy w' (some g) := by
  have c0 := r.cell
  have N := Lib.hid (rd_bytes_no r k hs)
  clear r hs
  go_enter Tryd.func68, Tryd.ntmps68
  go_wp2_with fail
  refine N.out.mono ?_
  rintro e w1 ⟨⟨A1, rfl⟩, r1, gr1⟩
  have G := Lib.hid (getbig_no A1 0 0 w1 (by omega))
  have R1 := Lib.hid r1
  have GR := Lib.hid gr1
  clear r1 gr1 c0 N
  go_wp2_with fail
  refine G.out.mono ?_
  rintro e w2 ⟨rfl, rfl⟩
  go_wp2_with fail
  go_ret
  exact ⟨rfl, R1.out, GR.out⟩
theorem fits_bad {w : World} {lo B h g : Nat} {l : List UInt8} {x : Int} (r : Rd w lo B h g l x) (hx : x ≠ 0) (b : Bool) :
    Calls Tryd.prog 69 #[.pointer (some ⟨h, 0, none⟩), .bool b] w fun e w' => e = .returned (.int .i64 x) ∧ w = w' := by
  have c0 := r.cell
  have N := Lib.hid (rd_err r)
  clear r
  go_enter Tryd.func69, Tryd.ntmps69
  go_wp2_with fail
  refine N.out.mono ?_
  rintro e w1 ⟨rfl, rfl⟩
  go_wp2_with fail
  go_ret
  exact ⟨rfl, rfl⟩
theorem fits_is {w : World} {lo B h g : Nat} {l : List UInt8} (r : Rd w lo B h g l 0) (b : Bool) :
    Calls Tryd.prog 69 #[.pointer (some ⟨h, 0, none⟩), .bool b] w fun e w' => e = .returned (.int .i64 (if b = true then 0 else 4)) ∧ w = w' := by
  have c0 := r.cell
  have N := Lib.hid (rd_err r)
  clear r
  cases b
  all_goals
    go_enter Tryd.func69, Tryd.ntmps69
    go_wp2_with fail
    refine N.out.mono ?_
    rintro e w1 ⟨rfl, rfl⟩
    go_wp2_with fail
    go_ret
    exact ⟨rfl, rfl⟩
end Go.Proofs.YtmpnehhndhepgaaDoor

/- Contracts: a number read behind its tag. It proves no statement. -/

namespace Go.Proofs.YtmpnehhndhepgaaDoor
open Go.RowKit
set_option linter.unusedVariables false
set_option linter.unusedSimpArgs false

theorem bh_cases (t : Nat) : bh t = 0 ∨ bh t = 1 ∨ bh t = 2 ∨ bh t = 4 ∨ bh t = 8 := by
  unfold bh; split <;> (try split) <;> (try split) <;> (try split) <;> simp

/-- The number that k bytes tell; below 0 its sign comes down. -/
def decK (neg : Bool) (k u : Nat) : Int := if neg = true then wrap64 (wrap64 (u : Int) * 2 ^ (64 - 8 * k)) / 2 ^ (64 - 8 * k) else wrap64 (u : Int)
theorem wrap64_bd (x : Int) : -9223372036854775808 ≤ wrap64 x ∧ wrap64 x ≤ 9223372036854775807 := by unfold wrap64; omega
theorem decK_bd (neg : Bool) (k u : Nat) (h : k = 1 ∨ k = 2 ∨ k = 4 ∨ k = 8) : -9223372036854775808 ≤ decK neg k u ∧ decK neg k u ≤ 9223372036854775807 := by
  unfold decK
  split
  · rcases h with rfl | rfl | rfl | rfl
    · have := wrap64_bd (wrap64 (u : Int) * 2 ^ (64 - 8 * 1))
      simp only [show (2 : Int) ^ (64 - 8 * 1) = 72057594037927936 from rfl] at *
      omega
    · have := wrap64_bd (wrap64 (u : Int) * 2 ^ (64 - 8 * 2))
      simp only [show (2 : Int) ^ (64 - 8 * 2) = 281474976710656 from rfl] at *
      omega
    · have := wrap64_bd (wrap64 (u : Int) * 2 ^ (64 - 8 * 4))
      simp only [show (2 : Int) ^ (64 - 8 * 4) = 4294967296 from rfl] at *
      omega
    · have := wrap64_bd (wrap64 (u : Int) * 2 ^ (64 - 8 * 8))
      simp only [show (2 : Int) ^ (64 - 8 * 8) = 1 from rfl] at *
      omega
  · exact wrap64_bd _

/-- The bytes of a number tell it. -/
theorem numB_num (t x : Nat) : leNum ((numB t x).reverse) = x % 2 ^ (8 * bh t) := by
  unfold numB
  rw [List.reverse_reverse, leNum_le]
theorem pk_bh (x a : Nat) (ha : a = 204 ∨ a = 208) : bh (pk x a) = (if x < 256 then 1 else if x < 65536 then 2 else if x < 4294967296 then 4 else 8) := by
  unfold pk
  rcases ha with rfl | rfl
  all_goals
    split
    · decide
    · split
      · decide
      · split <;> decide
theorem small_bh (t : Nat) (h : t < 128 ∨ 224 ≤ t) : bh t = 0 := by unfold bh; rw [if_neg (by omega), if_neg (by omega), if_neg (by omega), if_neg (by omega)]
theorem nt_small (x : Int) (h : -32 ≤ x ∧ x ≤ 127) : bh (nt x) = 0 ∧ (nt x : Int) = x % 256 := by
  have e : nt x = (x % 256).toNat := by unfold nt; rw [if_pos h]
  refine ⟨?_, by rw [e]; omega⟩
  rw [e]
  exact small_bh _ (by omega)
theorem pk_lo (x a : Nat) : a ≤ pk x a ∧ pk x a ≤ a + 3 := by unfold pk; split <;> (try split) <;> (try split) <;> omega
theorem sext1 (x u : Int) (hu : u = x + 256) (h1 : -128 ≤ x) (h2 : x < 0) : wrap64 (wrap64 u * 72057594037927936) / 72057594037927936 = x := by
  have e1 : wrap64 u = u := by unfold wrap64; omega
  have e2 : wrap64 (u * 72057594037927936) = x * 72057594037927936 := by unfold wrap64; omega
  rw [e1, e2, Int.mul_ediv_cancel _ (by decide)]
theorem sext2 (x u : Int) (hu : u = x + 65536) (h1 : -32768 ≤ x) (h2 : x < 0) : wrap64 (wrap64 u * 281474976710656) / 281474976710656 = x := by
  have e1 : wrap64 u = u := by unfold wrap64; omega
  have e2 : wrap64 (u * 281474976710656) = x * 281474976710656 := by unfold wrap64; omega
  rw [e1, e2, Int.mul_ediv_cancel _ (by decide)]
theorem sext4 (x u : Int) (hu : u = x + 4294967296) (h1 : -2147483648 ≤ x) (h2 : x < 0) : wrap64 (wrap64 u * 4294967296) / 4294967296 = x := by
  have e1 : wrap64 u = u := by unfold wrap64; omega
  have e2 : wrap64 (u * 4294967296) = x * 4294967296 := by unfold wrap64; omega
  rw [e1, e2, Int.mul_ediv_cancel _ (by decide)]
theorem sext8 (x u : Int) (hu : u = x + 18446744073709551616) (h1 : -9223372036854775808 ≤ x) (h2 : x < 0) : wrap64 (wrap64 u * 1) / 1 = x := by
  have e1 : wrap64 u = x := by unfold wrap64; omega
  have e2 : wrap64 (x * 1) = x := by unfold wrap64; omega
  rw [e1, e2, Int.ediv_one]
theorem dec_pos (x : Int) (h0 : 128 ≤ x) (h2 : x ≤ 9223372036854775807) : decK (decide (208 ≤ nt x)) (bh (nt x)) (ux x % 2 ^ (8 * bh (nt x))) = x := by
  obtain ⟨y, rfl⟩ := Int.eq_ofNat_of_zero_le (show 0 ≤ x by omega)
  have e : nt (y : Int) = pk y 204 := by unfold nt; rw [if_neg (by omega), if_pos (by omega)]; rfl
  have p := pk_lo y 204
  have eb := pk_bh y 204 (.inl rfl)
  have eu : ux (y : Int) = y := by unfold ux; omega
  rw [e, eb, eu, show decide (208 ≤ pk y 204) = false by simp; omega]
  have hm : y % 2 ^ (8 * (if y < 256 then 1 else if y < 65536 then 2 else if y < 4294967296 then 4 else 8)) = y := by
    apply Nat.mod_eq_of_lt
    by_cases a1 : y < 256
    · rw [if_pos a1]; exact a1
    · by_cases a2 : y < 65536
      · rw [if_neg a1, if_pos a2]; exact a2
      · by_cases a3 : y < 4294967296
        · rw [if_neg a1, if_neg a2, if_pos a3]; exact a3
        · rw [if_neg a1, if_neg a2, if_neg a3]; show y < 18446744073709551616; omega
  rw [hm]
  unfold decK
  rw [if_neg (by decide)]
  unfold wrap64
  omega
theorem dec_neg (x : Int) (h1 : -9223372036854775808 ≤ x) (h0 : x < -32) : decK (decide (208 ≤ nt x)) (bh (nt x)) (ux x % 2 ^ (8 * bh (nt x))) = x := by
  have e : nt x = pk (2 * (-x - 1)).toNat 208 := by unfold nt; rw [if_neg (by omega), if_neg (by omega)]
  obtain ⟨y, hy⟩ : ∃ y, y = (2 * (-x - 1)).toNat := ⟨_, rfl⟩
  rw [← hy] at e
  have p := pk_lo y 208
  have eb := pk_bh y 208 (.inr rfl)
  have eu : (ux x : Int) = x + 18446744073709551616 := by unfold ux; omega
  rw [e, eb, show decide (208 ≤ pk y 208) = true by simp; omega]
  generalize ux x = u at *
  clear e eb p
  unfold decK
  rw [if_pos rfl]
  by_cases a1 : y < 256
  · rw [if_pos a1]
    exact sext1 x _ (by show ((u % 256 : Nat) : Int) = _; omega) (by omega) (by omega)
  · by_cases a2 : y < 65536
    · rw [if_neg a1, if_pos a2]
      exact sext2 x _ (by show ((u % 65536 : Nat) : Int) = _; omega) (by omega) (by omega)
    · by_cases a3 : y < 4294967296
      · rw [if_neg a1, if_neg a2, if_pos a3]
        exact sext4 x _ (by show ((u % 4294967296 : Nat) : Int) = _; omega) (by omega) (by omega)
      · rw [if_neg a1, if_neg a2, if_neg a3]
        exact sext8 x _ (by show ((u % 18446744073709551616 : Nat) : Int) = _; omega) (by omega) (by omega)
theorem dec_enc (x : Int) (h1 : -9223372036854775808 ≤ x) (h2 : x ≤ 9223372036854775807) (hb : bh (nt x) ≠ 0) :
    decK (decide (208 ≤ nt x)) (bh (nt x)) (ux x % 2 ^ (8 * bh (nt x))) = x := by
  by_cases c1 : -32 ≤ x ∧ x ≤ 127
  · exact absurd (nt_small x c1).1 hb
  · by_cases c2 : 0 ≤ x
    · exact dec_pos x (by omega) h2
    · exact dec_neg x h1 (by omega)

set_option maxRecDepth 100000 in
set_option maxHeartbeats 3200000 in
theorem rnum_yes {w : World} {lo B h g : Nat} {l : List UInt8} (r : Rd w lo B h g l 0) (t : Nat) (ht : t < 256) (h1 : 1 ≤ bh t) (hs : bh t ≤ l.length) (X : Int) (hX : X = decK (decide (208 ≤ t)) (bh t) (leNum (l.take (bh t)).reverse)) :
    Calls Tryd.prog 51 #[.pointer (some ⟨h, 0, none⟩), .int .u8 (t : Int)] w fun e w' => e = .returned (.tuple #[.int .i64 X, .int .i64 (if ((nt X : Int) == (t : Int)) = true then 0 else 4)]) ∧ Rd w' lo B h g (l.drop (bh t)) 0 ∧ w.grownBy w' (some g) := by
  have BG := Lib.hid (rbig_yes r (bh t) h1 (bh_le t) hs)
  have BH := Lib.hid (fun w => behind_any t w)
  obtain ⟨u, hu⟩ : ∃ u, u = leNum (l.take (bh t)).reverse := ⟨_, rfl⟩
  rw [← hu] at BG hX
  obtain ⟨k, hk⟩ : ∃ k, k = bh t := ⟨_, rfl⟩
  have hkc := bh_cases t
  rw [← hk] at BG BH hkc h1 hX ⊢
  have hkc2 : k = 1 ∨ k = 2 ∨ k = 4 ∨ k = 8 := by omega
  have hbd := decK_bd (decide (208 ≤ t)) k u hkc2
  rw [← hX] at hbd
  have NT := Lib.hid (fun w => numTag_any X w hbd.1 hbd.2)
  obtain ⟨y, hy⟩ : ∃ y, y = nt X := ⟨_, rfl⟩
  rw [← hy] at NT ⊢
  obtain ⟨b, hb⟩ : ∃ b, b = ((y : Int) == (t : Int)) := ⟨_, rfl⟩
  rw [← hb]
  have HB := Lib.hid hb
  have FT := Lib.hid (fun (w' : World) (q : Rd w' lo B h g (l.drop k) 0) => fits_is q b)
  obtain ⟨e4, he4⟩ : ∃ e4 : Int, e4 = (if b = true then 0 else 4) := ⟨_, rfl⟩
  rw [← he4] at FT ⊢
  obtain ⟨L, hL⟩ : ∃ L, L = l.drop k := ⟨_, rfl⟩
  rw [← hL] at FT BG ⊢
  have hbd2 : Hid (-9223372036854775808 ≤ X ∧ X ≤ 9223372036854775807) := Lib.hid hbd
  clear hu hk hs hy hb he4 hL hkc h1 hbd r ht
  by_cases hc : 208 ≤ t
  · have d1 : 208 ≤ (t : Int) := by omega
    rw [show decide (208 ≤ t) = true by simpa using hc] at hX
    rcases hkc2 with rfl | rfl | rfl | rfl
    all_goals
      unfold decK at hX
      rw [if_pos rfl] at hX
      simp only [show (2 : Int) ^ (64 - 8 * 1) = 72057594037927936 from rfl, show (2 : Int) ^ (64 - 8 * 2) = 281474976710656 from rfl, show (2 : Int) ^ (64 - 8 * 4) = 4294967296 from rfl, show (2 : Int) ^ (64 - 8 * 8) = 1 from rfl, Int.mul_one, Int.ediv_one] at hX
      have hX' := hX.symm
      clear hX hc
      go_enter Tryd.func51, Tryd.ntmps51
      go_wp2_with fail
      refine (BH.out _).mono ?_
      rintro e w1 ⟨rfl, rfl⟩
      go_wp2_with fail
      refine BG.out.mono ?_
      rintro e w1 ⟨rfl, r1, gr1⟩
      have R1 := Lib.hid r1
      have GR := Lib.hid gr1
      clear r1 gr1
      go_wp2_with fail
      refine (NT.out _).mono ?_
      rintro e w2 ⟨rfl, s2⟩
      have R2 := Lib.hid (R1.out.still s2)
      have S2 := Lib.hid s2
      clear s2
      have hbs : ((y : Int) == (t : Int)) = b := HB.out.symm
      go_wp2_with fail
      refine (FT.out _ R2.out).mono ?_
      rintro e w3 ⟨rfl, rfl⟩
      go_wp2_with fail
      go_ret2
      exact ⟨rfl, R2.out, grown_trans GR.out (grown_of_still S2.out)⟩
  · have d1 : ¬ 208 ≤ (t : Int) := by omega
    rw [show decide (208 ≤ t) = false by simpa using hc] at hX
    unfold decK at hX
    rw [if_neg (by decide)] at hX
    have hX' := hX.symm
    have dk : ¬ ((k : Int) = 0) := by omega
    clear hX hc hkc2
    go_enter Tryd.func51, Tryd.ntmps51
    go_wp2_with fail
    refine (BH.out _).mono ?_
    rintro e w1 ⟨rfl, rfl⟩
    go_wp2_with fail
    refine BG.out.mono ?_
    rintro e w1 ⟨rfl, r1, gr1⟩
    have R1 := Lib.hid r1
    have GR := Lib.hid gr1
    clear r1 gr1
    go_wp2_with fail
    refine (NT.out _).mono ?_
    rintro e w2 ⟨rfl, s2⟩
    have R2 := Lib.hid (R1.out.still s2)
    have S2 := Lib.hid s2
    clear s2
    have hbs : ((y : Int) == (t : Int)) = b := HB.out.symm
    go_wp2_with fail
    refine (FT.out _ R2.out).mono ?_
    rintro e w3 ⟨rfl, rfl⟩
    go_wp2_with fail
    go_ret2
    exact ⟨rfl, R2.out, grown_trans GR.out (grown_of_still S2.out)⟩
end Go.Proofs.YtmpnehhndhepgaaDoor

/- Contracts: a number as a value, read. It proves no statement. -/




namespace Go.Proofs.YtmpnehhndhepgaaDoor
open Go.RowKit
set_option linter.unusedVariables false
set_option linter.unusedSimpArgs false

theorem grown_alloc {w wa : World} {r : Option Nat} (h : w.grownBy wa r) (o : Obj) : w.grownBy (wa.alloc o) r := grown_trans h (grown_of_still ((Still.refl wa).alloc (Nat.le_refl _) o))
theorem grown_set {w wa : World} {r : Option Nat} (h : w.grownBy wa r) {b i : Nat} (hb : w.heap.size ≤ b) (u : Value) : w.grownBy (wa.setCell ⟨b, i, none⟩ u) r :=
  ⟨h.os, h.tape, h.output, by have := h.size; simpa [World.setCell] using this, fun k hk hr => (Below.heap_setCell wa _ u k (by simp only; omega)).trans (h.block k hk hr)⟩
theorem grown_row {w wa : World} {r : Option Nat} (h : w.grownBy wa r) {b : Nat} (hb : w.heap.size ≤ b) (cs : Array Value) : w.grownBy (wa.setRow b cs) r :=
  ⟨h.os, h.tape, h.output, by have := h.size; simpa [World.setRow] using this, fun k hk hr => (setRow_other wa b k cs (by omega)).trans (h.block k hk hr)⟩
theorem Rd.set {w : World} {lo B h g : Nat} {l : List UInt8} {x : Int} (r : Rd w lo B h g l x) {b i : Nat} (hb : B ≤ b) (u : Value) : Rd (w.setCell ⟨b, i, none⟩ u) lo B h g l x := r.below ((Below.refl _ _).setCell hb u)

set_option maxRecDepth 100000 in
theorem rnum_zero (P : Value) (w : World) (t : Nat) (hb : bh t = 0) (x : Int) (hx : IntKind.i8.wrap (t : Int) = x) (h1 : -32 ≤ x) (h2 : x ≤ 127) :
    Calls Tryd.prog 51 #[P, .int .u8 (t : Int)] w fun e w' => e = .returned (.tuple #[.int .i64 x, .int .i64 0]) ∧ w = w' := by
  have BH := Lib.hid (behind_any t w)
  rw [hb] at BH
  have BH' : Hid (Calls Tryd.prog 63 #[.int .u8 (t : Int)] w fun e w' => e = .returned (.int .i64 0) ∧ w = w') := BH
  clear BH hb
  go_enter Tryd.func51, Tryd.ntmps51
  go_wp2_with fail
  refine BH'.out.mono ?_
  rintro e w1 ⟨rfl, rfl⟩
  go_wp2_with fail
  go_ret2
  exact ⟨rfl, rfl⟩

/-- What was written of a number is read. -/
theorem rnum_enc {w : World} {lo B h g : Nat} {l : List UInt8} (x : Int) (h1 : -9223372036854775808 ≤ x) (h2 : x ≤ 9223372036854775807) (r : Rd w lo B h g (numB (nt x) (ux x) ++ l) 0) :
    Calls Tryd.prog 51 #[.pointer (some ⟨h, 0, none⟩), .int .u8 (nt x : Int)] w fun e w' => e = .returned (.tuple #[.int .i64 x, .int .i64 0]) ∧ Rd w' lo B h g l 0 ∧ w.grownBy w' (some g) := by
  have hl := numB_length (nt x) (ux x)
  by_cases hb : bh (nt x) = 0
  · have hnil : numB (nt x) (ux x) = [] := List.eq_nil_of_length_eq_zero (hl.trans hb)
    rw [hnil] at r
    have hsm : -32 ≤ x ∧ x ≤ 127 := by
      by_cases c : -32 ≤ x ∧ x ≤ 127
      · exact c
      · exfalso
        unfold nt at hb
        rw [if_neg c] at hb
        split at hb
        · rw [pk_bh _ _ (.inl rfl)] at hb
          split at hb <;> (try split at hb) <;> (try split at hb) <;> omega
        · rw [pk_bh _ _ (.inr rfl)] at hb
          split at hb <;> (try split at hb) <;> (try split at hb) <;> omega
    have e := (nt_small x hsm).2
    refine (rnum_zero _ w (nt x) hb x ?_ hsm.1 hsm.2).mono ?_
    · rw [e]; simp [IntKind.wrap, IntKind.bits, IntKind.signed]; omega
    · rintro e w' ⟨rfl, rfl⟩
      exact ⟨rfl, r, World.grownBy.refl _ _⟩
  · have hs : bh (nt x) ≤ (numB (nt x) (ux x) ++ l).length := by rw [List.length_append, hl]; omega
    have ht : (numB (nt x) (ux x) ++ l).take (bh (nt x)) = numB (nt x) (ux x) := List.take_left' hl
    have hd : (numB (nt x) (ux x) ++ l).drop (bh (nt x)) = l := List.drop_left' hl
    have Y := rnum_yes r (nt x) (nt_lt x) (by omega) hs x (by rw [ht, numB_num, dec_enc x h1 h2 hb])
    rw [hd] at Y
    refine Y.mono ?_
    rintro e w' ⟨rfl, q⟩
    exact ⟨by simp, q⟩
theorem results_val2 {fn : Func} {p u : Tmp} (h : fn.results = #[.cell p 26, .tmp u]) (tmps : Array Value) (w : World) (g : Nat) (cs : Array Value) (hp : tmps.getD p undef = .pointer (some ⟨g, 0, none⟩)) (hg : Blk w g 26 cs) (hc : cs.size = 6) (v : Value) (hv : tmps.getD u undef = v) :
    (results fn tmps).run Tryd.prog w = .ok (.tuple #[.agg cs, v]) w := by
  obtain ⟨fs, hu⟩ := underValue
  rw [results_cell_tmp h, hp, hv]
  simp only [asAddr, Sem.run_pure, Result.andThen_ok, run_loadVar_row w g _ 26 _ _ _ hg hu rfl (by rw [sizeValue, hc])]
theorem kd_int (x : Int) (h1 : -9223372036854775808 ≤ x) (h2 : x ≤ 9223372036854775807) : kd (nt x) = 3 := by
  have hh : nt x < 128 ∨ 224 ≤ nt x ∨ (204 ≤ nt x ∧ nt x ≤ 211) := by
    unfold nt
    by_cases c1 : -32 ≤ x ∧ x ≤ 127
    · rw [if_pos c1]; omega
    · rw [if_neg c1]
      by_cases c2 : 0 ≤ x
      · rw [if_pos c2]; have := pk_lo x.toNat 204; omega
      · rw [if_neg c2]; have := pk_lo (2 * (-x - 1)).toNat 208; omega
  unfold kd
  rw [if_pos hh]

theorem cellsI_all (x : Int) : (cellsI x).all (·.oneCell') = true := by
  rw [Array.all_eq_true_iff_forall_mem]
  intro v hv
  simp [cellsI] at hv
  rcases hv with rfl | rfl | rfl | rfl | rfl <;> rfl
/-- The zero value's cells. -/
def cellsZ : Array Value := #[.int .i64 0, .int .i64 0, .slice none 0 0, .string ⟨#[]⟩, .slice none 0 0, .slice none 0 0]

set_option maxRecDepth 100000 in
set_option maxHeartbeats 1600000 in
theorem rvalue_int {w : World} {lo B h g : Nat} {l : List UInt8} (x : Int) (deep : Int) (h1 : -9223372036854775808 ≤ x) (h2 : x ≤ 9223372036854775807) (hd : deep ≤ 16) (r : Rd w lo B h g (encI x ++ l) 0) :
    Calls Tryd.prog 29 #[.pointer (some ⟨h, 0, none⟩), .int .i64 deep] w fun e w' => e = .returned (.tuple #[.agg (cellsI x), .int .i64 0]) ∧ Rd w' lo B h g l 0 ∧ w.grownBy w' (some g) := by
  obtain ⟨wA, hA⟩ : ∃ wA, wA = w.alloc (.cells cellsZ 26) := ⟨_, rfl⟩
  have sA : Still w wA := by rw [hA]; exact (Still.refl w).alloc (Nat.le_refl _) _
  have bA : Blk wA w.heap.size 26 cellsZ := by rw [hA]; exact Blk.new _ _ _
  have rA := r.still sA
  have hlow := r.low
  have T := tag_yes (UInt8.ofNat (nt x)) (l := numB (nt x) (ux x) ++ l) rA
  have hnt := nt_lt x
  rw [UInt8.toNat_ofNat', show nt x % 2 ^ 8 = nt x by omega] at T
  have NUM := Lib.hid (fun (w' : World) (q : Rd w' lo B h g (numB (nt x) (ux x) ++ l) 0) => rnum_enc x h1 h2 q)
  have hkd := kd_int x h1 h2
  have KD := Lib.hid (fun w => kindOf_any (nt x) w)
  rw [hkd] at KD
  obtain ⟨y, hy⟩ : ∃ y, y = nt x := ⟨_, rfl⟩
  rw [← hy] at T KD NUM
  obtain ⟨M, hM⟩ : ∃ M, M = numB y (ux x) ++ l := ⟨_, rfl⟩
  rw [← hM] at T NUM
  have d1 : ¬ 16 < deep := by omega
  have TT := Lib.hid T
  have GA := Lib.hid (grown_of_still (r := some g) sA)
  have BA := Lib.hid bA
  have HA := Lib.hid hA
  have LOW := Lib.hid hlow
  obtain ⟨fs, hu⟩ := underValue
  have HU := Lib.hid hu
  clear hA sA bA rA hlow T hnt hkd hy hM r h1 h2 hd hu
  go_enter Tryd.func29, Tryd.ntmps29
  go_upto_region 1 with fail
  rw [show (w.alloc (.cells #[.int .i64 0, .int .i64 0, .slice none 0 0, .string ⟨#[]⟩, .slice none 0 0, .slice none 0 0] 26)) = wA from HA.out.symm]
  go_wp2_with fail
  refine TT.out.mono ?_
  rintro e w1 ⟨rfl, r1, gr1⟩
  have G1 := Lib.hid (grown_trans GA.out gr1)
  have B1 : Hid (Blk w1 w.heap.size 26 cellsZ) := Lib.hid ((gr1.block _ BA.out.lt (fun e => by have := LOW.out; cases e; omega)).trans BA.out)
  have R1 := Lib.hid r1
  clear gr1 r1 TT GA BA HA
  go_wp2_with fail
  refine (KD.out _).mono ?_
  rintro e w2 ⟨rfl, rfl⟩
  obtain ⟨v, hv⟩ : ∃ v, v = w1.heap.size := ⟨_, rfl⟩
  obtain ⟨w2, hw2⟩ : ∃ w2, w2 = w1.alloc (.cells #[.int .i64 3, .int .i64 0, .slice none 0 0, .string ⟨#[]⟩, .slice none 0 0, .slice none 0 0] 26) := ⟨_, rfl⟩
  have s2 : Still w1 w2 := by rw [hw2]; exact (Still.refl w1).alloc (Nat.le_refl _) _
  have bv2 : Blk w2 v 26 #[.int .i64 3, .int .i64 0, .slice none 0 0, .string ⟨#[]⟩, .slice none 0 0, .slice none 0 0] := by rw [hw2, hv]; exact Blk.new _ _ _
  have R2 := Lib.hid (R1.out.still s2)
  have G2 := Lib.hid (grown_trans G1.out (grown_of_still s2))
  have B2 := Lib.hid (B1.out.still s2)
  have V2 := Lib.hid (show w.heap.size < v ∧ g < v from ⟨by have := B1.out.lt; omega, by have := R1.out.low.2; omega⟩)
  have k0 : w2.cell? ⟨v, 0, none⟩ = some (.int .i64 3) := bv2.cell 0
  have BV2 := Lib.hid bv2
  have HW2 := Lib.hid hw2
  have HV := Lib.hid hv
  clear s2 bv2 hw2 hv
  go_upto_region 7 with fail
  rw [← HW2.out, ← HV.out]
  clear HW2 HV R1 G1 B1
  have NM := Lib.hid (NUM.out w2 R2.out)
  clear NUM KD
  go_wp2_with fail
  refine NM.out.mono ?_
  rintro e w3 ⟨rfl, r3, gr3⟩
  have BV3 : Blk w3 v 26 #[.int .i64 3, .int .i64 0, .slice none 0 0, .string ⟨#[]⟩, .slice none 0 0, .slice none 0 0] := (gr3.block _ BV2.out.lt (fun e => by have := V2.out; cases e; omega)).trans BV2.out
  have B3 : Blk w3 w.heap.size 26 cellsZ := (gr3.block _ B2.out.lt (fun e => by have := LOW.out; cases e; omega)).trans B2.out
  have c1 : w3.cell? ⟨v, 1, none⟩ = some (.int .i64 0) := BV3.cell 1
  have f1 : w3.frozen? ⟨v, 1, none⟩ = false := BV3.frozen 1
  have G3 := grown_trans G2.out gr3
  obtain ⟨w4, hw4⟩ : ∃ w4, w4 = w3.setCell ⟨v, 1, none⟩ (.int .i64 x) := ⟨_, rfl⟩
  have bv4 : Blk w4 v 26 (cellsI x) := by rw [hw4]; exact BV3.setc 1 _
  have b4 : Blk w4 w.heap.size 26 cellsZ := by rw [hw4]; exact B3.far (by have := V2.out; simp only; omega) _
  have r4 : Rd w4 lo B h g l 0 := by rw [hw4]; exact r3.set (by have := V2.out; have := LOW.out; omega) _
  have g4 : w.grownBy w4 (some g) := by rw [hw4]; exact grown_set G3 (by have := V2.out; omega) _
  have BV4 := Lib.hid bv4
  have B4 := Lib.hid b4
  have R4 := Lib.hid r4
  have G4 := Lib.hid g4
  have HW4 := Lib.hid hw4
  clear bv4 b4 r4 g4 hw4 BV3 B3 G3 r3 gr3 NM
  go_upto_region 20 with fail
  rw [← HW4.out]
  refine wp_region_lit ?_
  refine wpList_load_row rfl 26 (.tmp 8) rfl v rfl _ _ _ _ BV4.out HU.out rfl (by rw [sizeValue]; rfl) ?_
  go_wp2_with (guard_target =~ wpList _ _ _ (Oper.mk none (Op.store _ _ _) _ _ _ _ :: _) _ _; go_must (refine wpList_store_rowTo rfl 26 (.tmp 4) (.tmp 77) rfl rfl w.heap.size (cellsI x) rfl rfl 26 _ B4.out (by rw [sizeValue]; rfl) rfl (cellsI_all x) ?_))
  refine bodyPost_ret (results_val2 rfl _ _ w.heap.size (cellsI x) rfl (setRow_heap w4 _ _ _ _ _ B4.out) rfl _ rfl) rfl ?_
  exact ⟨rfl, R4.out.below (below_setRow (Below.refl _ _) LOW.out.2.2.1 _), grown_row G4.out (Nat.le_refl _) _⟩
end Go.Proofs.YtmpnehhndhepgaaDoor

/- Contract: Decode of a number's bytes. It proves no statement. -/

namespace Go.Proofs.YtmpnehhndhepgaaDoor
open Go.RowKit
set_option linter.unusedVariables false
set_option linter.unusedSimpArgs false

theorem Live.more {w : World} {lo B B' g : Nat} {A : Option Addr} {n c : Nat} {l : List UInt8} {x : Int} (h : Live w lo B g A n c l x) (hB : B ≤ B') : Live w lo B' g A n c l x :=
  ⟨h.blk, h.low, Nat.lt_of_lt_of_le h.high hB, h.reads.more hB, h.mine, h.fit, h.cap, h.nil⟩
theorem rd_end {w : World} {lo B h g : Nat} {l : List UInt8} (r : Rd w lo B h g l 0) :
    Calls Tryd.prog 30 #[.pointer (some ⟨g, 0, none⟩)] w fun e w' => e = .returned (.int .i64 (if l = [] then 0 else 6)) ∧ w = w' := by
  obtain ⟨A, n, c, lv⟩ := r.live
  refine (end_live lv).mono ?_
  rintro e w' ⟨rfl, rfl⟩
  refine ⟨?_, rfl⟩
  have hn := lv.reads.1
  congr 2
  unfold endOf
  by_cases hl : l = []
  · subst hl
    simp at hn
    subst hn
    simp
  · have : 0 < n := by
      rcases l with _ | ⟨a, r⟩
      · exact absurd rfl hl
      · simp at hn; omega
    rw [if_neg hl]
    simp
    omega

set_option maxRecDepth 100000 in
set_option maxHeartbeats 1600000 in
theorem decode_int (x : Int) (h1 : -9223372036854775808 ≤ x) (h2 : x ≤ 9223372036854775807) (A : Option Addr) (n c : Nat) (w : World) (B : Nat) (hr : Reads w B A n (encI x)) (hB : B ≤ w.heap.size) (hA : A = none → n = 0 ∧ c = 0) :
    Calls Tryd.prog 17 #[.slice A n c] w fun e w' => e = .returned (.tuple #[.agg (cellsI x), .int .i64 0]) ∧ Still w w' := by
  have hn : n ≤ 9 := by have := hr.1; rw [encI_length] at this; have := bh_le (nt x); omega
  obtain ⟨wA, hA'⟩ : ∃ wA, wA = w.alloc (.cells cellsZ 26) := ⟨_, rfl⟩
  have sA : Still w wA := by rw [hA']; exact (Still.refl w).alloc (Nat.le_refl _) _
  have bA : Blk wA w.heap.size 26 cellsZ := by rw [hA']; exact Blk.new _ _ _
  have OP := Lib.hid (open_any A n c _ wA B (hr.still hB sA) (Nat.le_trans hB sA.size) (by omega) hA)
  have RV : Hid (∀ (w : World) (lo B h g : Nat), Rd w lo B h g (encI x ++ []) 0 → Calls Tryd.prog 29 #[.pointer (some ⟨h, 0, none⟩), .int .i64 1] w fun e w' => e = .returned (.tuple #[.agg #[.int .i64 3, .int .i64 x, .slice none 0 0, .string ⟨#[]⟩, .slice none 0 0, .slice none 0 0], .int .i64 0]) ∧ Rd w' lo B h g [] 0 ∧ w.grownBy w' (some g)) := Lib.hid fun w lo B h g r => rvalue_int x 1 h1 h2 (by omega) r
  rw [List.append_nil] at RV
  obtain ⟨E, hE⟩ : ∃ E, E = encI x := ⟨_, rfl⟩
  rw [← hE] at OP RV
  obtain ⟨fs, hu⟩ := underValue
  have HU := Lib.hid hu
  have SA := Lib.hid sA
  have BA := Lib.hid bA
  have HA := Lib.hid hA'
  have d1 : ¬ 65536 < (n : Int) := by omega
  have HN := Lib.hid hn
  clear hA' sA bA hE hu h1 h2 hr hA hB hn
  go_enter Tryd.func17, Tryd.ntmps17
  go_upto_region 1 with fail
  rw [show (w.alloc (.cells #[.int .i64 0, .int .i64 0, .slice none 0 0, .string ⟨#[]⟩, .slice none 0 0, .slice none 0 0] 26)) = wA from HA.out.symm]
  go_wp2_with fail
  refine OP.out.mono ?_
  rintro e w1 ⟨⟨g, A', c', rfl, lv1⟩, s1⟩
  obtain ⟨h, hh⟩ : ∃ h, h = w1.heap.size := ⟨_, rfl⟩
  obtain ⟨w2, hw2⟩ : ∃ w2, w2 = w1.alloc (.cells #[.pointer (some ⟨g, 0, none⟩)] 60) := ⟨_, rfl⟩
  have s2 : Still w1 w2 := by rw [hw2]; exact (Still.refl w1).alloc (Nat.le_refl _) _
  have hz2 : w2.heap.size = w1.heap.size + 1 := by rw [hw2]; simp
  have r2 : Rd w2 wA.heap.size w2.heap.size h g E 0 := by
    refine ⟨by rw [hh]; exact s1.size, by omega, by have := lv1.high; omega, lv1.low, Nat.le_refl _, ?_, A', n, c', ((lv1.below (s2.mono (Nat.le_refl _))).more (by omega))⟩
    rw [hw2, hh]; exact Blk.new _ _ _
  have S2 := Lib.hid (SA.out.trans (s1.trans s2))
  have B2 := Lib.hid ((BA.out.still s1).still s2)
  have LOW := Lib.hid (show w.heap.size < wA.heap.size from BA.out.lt)
  have HW2 := Lib.hid hw2
  have HH := Lib.hid hh
  have V := Lib.hid (RV.out _ _ _ _ _ r2)
  clear s2 hz2 r2 hw2 hh lv1 s1 OP RV
  go_upto_region 4 with fail
  rw [← HW2.out, ← HH.out]
  clear HW2 HH
  go_wp2_with fail
  refine V.out.mono ?_
  rintro e w3 ⟨rfl, r3, gr3⟩
  have hlo := r3.low
  have S3 := Lib.hid (S2.out.grown gr3 S2.out.size (fun k hk => by cases hk; have := LOW.out; omega))
  have B3 := Lib.hid (show Blk w3 w.heap.size 26 cellsZ from (gr3.block _ B2.out.lt (fun e => by have := LOW.out; cases e; omega)).trans B2.out)
  obtain ⟨v, hv⟩ : ∃ v, v = w3.heap.size := ⟨_, rfl⟩
  obtain ⟨w4, hw4⟩ : ∃ w4, w4 = w3.alloc (.cells #[.int .i64 3, .int .i64 x, .slice none 0 0, .string ⟨#[]⟩, .slice none 0 0, .slice none 0 0] 26) := ⟨_, rfl⟩
  have s4 : Still w3 w4 := by rw [hw4]; exact (Still.refl w3).alloc (Nat.le_refl _) _
  have bv4 : Blk w4 v 26 (cellsI x) := by rw [hw4, hv]; exact Blk.new _ _ _
  have r4 := r3.still s4
  have k4 := r4.cell
  have EN := rd_end r4
  rw [if_pos rfl] at EN
  have S4 := Lib.hid (Still.trans (show Still w w3 from S3.out) s4)
  have B4 := Lib.hid (B3.out.still s4)
  have BV4 := Lib.hid bv4
  have HW4 := Lib.hid hw4
  have HV := Lib.hid hv
  have EN' := Lib.hid EN
  clear EN s4 bv4 r4 hw4 hv r3 gr3 S3 B3 hlo V
  go_upto_region 5 with fail
  rw [← HW4.out, ← HV.out]
  clear HW4 HV
  go_wp2_with fail
  refine EN'.out.mono ?_
  rintro e w5 ⟨rfl, rfl⟩
  go_upto_region 9 with fail
  refine wp_region_lit ?_
  refine wpList_load_row rfl 26 (.tmp 5) rfl v rfl _ _ _ _ BV4.out HU.out rfl (by rw [sizeValue]; rfl) ?_
  refine wpList_store_rowTo rfl 26 (.tmp 2) (.tmp 27) rfl rfl w.heap.size (cellsI x) rfl rfl 26 _ B4.out (by rw [sizeValue]; rfl) rfl (cellsI_all x) ?_
  go_wp2_with fail
  refine bodyPost_ret (results_val2 rfl _ _ w.heap.size (cellsI x) rfl (setRow_heap w4 _ _ _ _ _ B4.out) rfl _ rfl) rfl ?_
  exact ⟨rfl, below_setRow S4.out (Nat.le_refl _) _⟩
end Go.Proofs.YtmpnehhndhepgaaDoor

/- Contracts: a size read behind its tag. It proves no statement. -/


namespace Go.Proofs.YtmpnehhndhepgaaDoor
open Go.RowKit
set_option linter.unusedVariables false
set_option linter.unusedSimpArgs false

theorem Sizes.grown {w w' : World} {g : Nat} (h : Sizes w) (gr : w.grownBy w' (some g)) (hg : 0 < g) : Sizes w' :=
  h.keep fun o => World.cell?_of_block (w := w) (a := ⟨0, o, none⟩) (gr.block 0 h.lt (fun e => by have e2 := Option.some.inj e; omega))
/-- The first tag of a kind. -/
def noneT (k : Nat) : Nat := sizesT.getD (k * 4) 0

set_option maxRecDepth 100000 in
set_option maxHeartbeats 1600000 in
theorem rsize_own (P : Value) (w : World) (T : Sizes w) (k t : Nat) (h4 : 4 ≤ k) (h7 : k ≤ 7) (ht : t < 256) (hb : bh t = 0) (hn : noneT k ≤ t) :
    Calls Tryd.prog 70 #[P, .int .i64 (k : Int), .int .u8 (t : Int)] w fun e w' => e = .returned (.tuple #[.int .i64 ((t - noneT k : Nat) : Int), .int .i64 0]) ∧ w = w' := by
  have BH := Lib.hid (behind_any t w)
  rw [hb] at BH
  have BH' : Hid (Calls Tryd.prog 63 #[.int .u8 (t : Int)] w fun e w' => e = .returned (.int .i64 0) ∧ w = w') := BH
  clear BH hb
  obtain ⟨y, hy⟩ : ∃ y, y = t - noneT k := ⟨_, rfl⟩
  rw [← hy]
  obtain rfl | rfl | rfl | rfl : k = 4 ∨ k = 5 ∨ k = 6 ∨ k = 7 := by omega
  · have c0 : w.cell? ⟨0, 16, none⟩ = some (.int .u8 0) := T 16 (by omega)
    have hy' : y = t - 0 := hy
    have hn' : 0 ≤ t := hn
    have e1 : IntKind.u8.wrap ((t : Int) - 0) = (y : Int) := by rw [IntKind.wrap_u8]; omega
    have e2 : (t : Int) = (y : Int) := by omega
    have HT := Lib.hid (⟨hy', hn', ht⟩ : _ ∧ _ ∧ _)
    clear hy hy' hn hn' T ht h4 h7 e1
    go_enter Tryd.func70, Tryd.ntmps70
    rw [← e2]
    clear e2
    go_wp2_with fail
    refine BH'.out.mono ?_
    rintro e w1 ⟨rfl, rfl⟩
    have d1 : (t : Int) ≤ 255 := by have := HT.out; omega
    go_wp2_with fail
    go_ret2
    exact ⟨rfl, rfl⟩
  · have c0 : w.cell? ⟨0, 20, none⟩ = some (.int .u8 160) := T 20 (by omega)
    have hy' : y = t - 160 := hy
    have hn' : 160 ≤ t := hn
    have e1 : IntKind.u8.wrap ((t : Int) - 160) = (y : Int) := by rw [IntKind.wrap_u8]; omega
    have e2 : (t : Int) - 160 = (y : Int) := by omega
    have e3 : IntKind.u8.wrap (y : Int) = (y : Int) := by rw [IntKind.wrap_u8]; omega
    have e4 : IntKind.i64.wrap (y : Int) = (y : Int) := by rw [IntKind.wrap_i64]; omega
    clear hy hy' hn hn' T ht h4 h7
    go_enter Tryd.func70, Tryd.ntmps70
    go_wp2_with fail
    refine BH'.out.mono ?_
    rintro e w1 ⟨rfl, rfl⟩
    go_wp2_with fail
    go_ret2
    exact ⟨rfl, rfl⟩
  · have c0 : w.cell? ⟨0, 24, none⟩ = some (.int .u8 144) := T 24 (by omega)
    have hy' : y = t - 144 := hy
    have hn' : 144 ≤ t := hn
    have e1 : IntKind.u8.wrap ((t : Int) - 144) = (y : Int) := by rw [IntKind.wrap_u8]; omega
    have e2 : (t : Int) - 144 = (y : Int) := by omega
    have e3 : IntKind.u8.wrap (y : Int) = (y : Int) := by rw [IntKind.wrap_u8]; omega
    have e4 : IntKind.i64.wrap (y : Int) = (y : Int) := by rw [IntKind.wrap_i64]; omega
    clear hy hy' hn hn' T ht h4 h7
    go_enter Tryd.func70, Tryd.ntmps70
    go_wp2_with fail
    refine BH'.out.mono ?_
    rintro e w1 ⟨rfl, rfl⟩
    go_wp2_with fail
    go_ret2
    exact ⟨rfl, rfl⟩
  · have c0 : w.cell? ⟨0, 28, none⟩ = some (.int .u8 128) := T 28 (by omega)
    have hy' : y = t - 128 := hy
    have hn' : 128 ≤ t := hn
    have e1 : IntKind.u8.wrap ((t : Int) - 128) = (y : Int) := by rw [IntKind.wrap_u8]; omega
    have e2 : (t : Int) - 128 = (y : Int) := by omega
    have e3 : IntKind.u8.wrap (y : Int) = (y : Int) := by rw [IntKind.wrap_u8]; omega
    have e4 : IntKind.i64.wrap (y : Int) = (y : Int) := by rw [IntKind.wrap_i64]; omega
    clear hy hy' hn hn' T ht h4 h7
    go_enter Tryd.func70, Tryd.ntmps70
    go_wp2_with fail
    refine BH'.out.mono ?_
    rintro e w1 ⟨rfl, rfl⟩
    go_wp2_with fail
    go_ret2
    exact ⟨rfl, rfl⟩

set_option maxRecDepth 100000 in
set_option maxHeartbeats 1600000 in
theorem rsize_short {w : World} {lo B h g : Nat} {l : List UInt8} (r : Rd w lo B h g l 0) (T : Sizes w) (hgl : 0 < lo) (k t : Nat) (h4 : 4 ≤ k) (h7 : k ≤ 7) (h1 : 1 ≤ bh t) (hs : l.length < bh t) :
    Calls Tryd.prog 70 #[.pointer (some ⟨h, 0, none⟩), .int .i64 (k : Int), .int .u8 (t : Int)] w fun e w' => e = .returned (.tuple #[.int .i64 0, .int .i64 3]) ∧ w.grownBy w' (some g) := by
  have BH := Lib.hid (fun w => behind_any t w)
  have BG := Lib.hid (rbig_no r (bh t) hs)
  obtain ⟨b, hb⟩ : ∃ b, b = bh t := ⟨_, rfl⟩
  rw [← hb] at BH BG h1
  have TG := Lib.hid (fun (w' : World) (T' : Sizes w') => sizeTag_any k 0 w' T' h4 h7 (by omega))
  have HT : Hid (∀ w', w.grownBy w' (some g) → Sizes w') := Lib.hid fun w' gr => T.grown gr (by have := r.low; omega)
  have d1 : ¬ (b : Int) = 0 := by omega
  obtain ⟨q, hq⟩ : ∃ q : Bool, q = (((st k 0 : Nat) : Int) == (t : Int)) := ⟨_, rfl⟩
  have HQ := Lib.hid hq
  clear r T hgl h4 h7 hs hb h1 hq
  go_enter Tryd.func70, Tryd.ntmps70
  go_wp2_with fail
  refine (BH.out _).mono ?_
  rintro e w1 ⟨rfl, rfl⟩
  go_wp2_with fail
  refine BG.out.mono ?_
  rintro e w1 ⟨rfl, r1, gr1⟩
  have TT := Lib.hid (TG.out w1 (HT.out w1 gr1))
  have R1 := Lib.hid r1
  have GR := Lib.hid gr1
  clear r1 gr1 BG TG HT
  go_wp2_with fail
  refine TT.out.mono ?_
  rintro e w2 ⟨rfl, s2⟩
  have R2 := Lib.hid (R1.out.still s2)
  have G2 := Lib.hid (grown_trans GR.out (grown_of_still s2))
  have FT := Lib.hid (fun b => fits_bad R2.out (by decide) b)
  clear s2
  go_wp2_with fail
  refine (FT.out _).mono ?_
  rintro e w3 ⟨rfl, rfl⟩
  go_wp2_with fail
  go_ret2
  exact ⟨rfl, G2.out⟩

set_option maxRecDepth 100000 in
set_option maxHeartbeats 1600000 in
theorem rsize_num {w : World} {lo B h g : Nat} {l : List UInt8} (r : Rd w lo B h g l 0) (T : Sizes w) (hgl : 0 < lo) (k t n : Nat) (h4 : 4 ≤ k) (h7 : k ≤ 7) (h1 : 1 ≤ bh t) (h2 : bh t ≤ 2) (hs : bh t ≤ l.length) (hn : n = leNum (l.take (bh t)).reverse) :
    Calls Tryd.prog 70 #[.pointer (some ⟨h, 0, none⟩), .int .i64 (k : Int), .int .u8 (t : Int)] w fun e w' => e = .returned (.tuple #[.int .i64 (n : Int), .int .i64 (if (((st k n : Nat) : Int) == (t : Int)) = true then 0 else 4)]) ∧ Rd w' lo B h g (l.drop (bh t)) 0 ∧ w.grownBy w' (some g) := by
  have hn64 : n < 65536 := by
    have := leNum_lt (l.take (bh t)).reverse
    rw [List.length_reverse, List.length_take, Nat.min_eq_left hs, ← hn] at this
    have hp : 2 ^ (8 * bh t) ≤ 65536 := by
      have : bh t = 1 ∨ bh t = 2 := by omega
      rcases this with h | h <;> rw [h] <;> decide
    omega
  have BH := Lib.hid (fun w => behind_any t w)
  have BG := Lib.hid (rbig_yes r (bh t) h1 (bh_le t) hs)
  rw [← hn] at BG
  obtain ⟨b, hb⟩ : ∃ b, b = bh t := ⟨_, rfl⟩
  rw [← hb] at BH BG h1 ⊢
  have TG := Lib.hid (fun (w' : World) (T' : Sizes w') => sizeTag_any k n w' T' h4 h7 hn64)
  have HT : Hid (∀ w', w.grownBy w' (some g) → Sizes w') := Lib.hid fun w' gr => T.grown gr (by have := r.low; omega)
  have d1 : ¬ (b : Int) = 0 := by omega
  have e1 : IntKind.i64.wrap (n : Int) = (n : Int) := by rw [IntKind.wrap_i64]; omega
  obtain ⟨y, hy⟩ : ∃ y, y = st k n := ⟨_, rfl⟩
  rw [← hy] at TG ⊢
  obtain ⟨q, hq⟩ : ∃ q : Bool, q = ((y : Int) == (t : Int)) := ⟨_, rfl⟩
  rw [← hq]
  obtain ⟨L, hL⟩ : ∃ L, L = l.drop b := ⟨_, rfl⟩
  rw [← hL] at BG ⊢
  have FT := Lib.hid (fun (w' : World) (r' : Rd w' lo B h g L 0) => fits_is r' q)
  obtain ⟨e4, he4⟩ : ∃ e4 : Int, e4 = (if q = true then 0 else 4) := ⟨_, rfl⟩
  rw [← he4] at FT ⊢
  have HQ := Lib.hid hq
  clear r T hgl h4 h7 hs hb h1 hq hn h2 hn64 hy hL he4
  go_enter Tryd.func70, Tryd.ntmps70
  go_wp2_with fail
  refine (BH.out _).mono ?_
  rintro e w1 ⟨rfl, rfl⟩
  go_wp2_with fail
  refine BG.out.mono ?_
  rintro e w1 ⟨rfl, r1, gr1⟩
  have TT := Lib.hid (TG.out w1 (HT.out w1 gr1))
  have R1 := Lib.hid r1
  have GR := Lib.hid gr1
  clear r1 gr1 BG TG HT
  go_wp2_with fail
  refine TT.out.mono ?_
  rintro e w2 ⟨rfl, s2⟩
  have R2 := Lib.hid (R1.out.still s2)
  have G2 := Lib.hid (grown_trans GR.out (grown_of_still s2))
  have F2 := Lib.hid (FT.out w2 R2.out)
  have hqs : ((y : Int) == (t : Int)) = q := HQ.out.symm
  clear s2 FT
  go_wp2_with fail
  refine F2.out.mono ?_
  rintro e w3 ⟨rfl, rfl⟩
  go_wp2_with fail
  go_ret2
  exact ⟨rfl, R2.out, G2.out⟩
end Go.Proofs.YtmpnehhndhepgaaDoor

/- Contracts: a size, a text, read behind their tags, whatever bytes there are. It proves no statement. -/


namespace Go.Proofs.YtmpnehhndhepgaaDoor
open Go.RowKit
set_option linter.unusedVariables false
set_option linter.unusedSimpArgs false

/-- A tag that tells a size of kind k. -/
def TagOf (k t : Nat) : Prop := t < 256 ∧ bh t ≤ 2 ∧ (bh t = 0 → noneT k ≤ t)
/-- A size behind a tag: the error, the size, what is left. -/
def szD (k t : Nat) (l : List UInt8) : Int × Nat × List UInt8 :=
  if bh t = 0 then (0, t - noneT k, l) else if l.length < bh t then (3, 0, l)
  else (if st k (leNum (l.take (bh t)).reverse) = t then 0 else 4, leNum (l.take (bh t)).reverse, l.drop (bh t))

theorem rsize_any {w : World} {lo B h g : Nat} {l : List UInt8} (r : Rd w lo B h g l 0) (T : Sizes w) (hgl : 0 < lo) (k t : Nat) (h4 : 4 ≤ k) (h7 : k ≤ 7) (ht : TagOf k t) :
    Calls Tryd.prog 70 #[.pointer (some ⟨h, 0, none⟩), .int .i64 (k : Int), .int .u8 (t : Int)] w fun e w' => (∃ n0 : Int, e = .returned (.tuple #[.int .i64 n0, .int .i64 (szD k t l).1]) ∧ ((szD k t l).1 = 0 → n0 = ((szD k t l).2.1 : Int) ∧ Rd w' lo B h g (szD k t l).2.2 0)) ∧ w.grownBy w' (some g) := by
  obtain ⟨h1, h2, h3⟩ := ht
  unfold szD
  by_cases hb : bh t = 0
  · rw [if_pos hb]
    refine (rsize_own _ w T k t h4 h7 h1 hb (h3 hb)).mono ?_
    rintro e w' ⟨rfl, rfl⟩
    exact ⟨⟨_, rfl, fun _ => ⟨rfl, r⟩⟩, World.grownBy.refl _ _⟩
  · rw [if_neg hb]
    by_cases hs : l.length < bh t
    · rw [if_pos hs]
      refine (rsize_short r T hgl k t h4 h7 (by omega) hs).mono ?_
      rintro e w' ⟨rfl, gr⟩
      exact ⟨⟨_, rfl, fun h => absurd h (show ¬ (3 : Int) = 0 by decide)⟩, gr⟩
    · rw [if_neg hs]
      refine (rsize_num r T hgl k t _ h4 h7 (by omega) h2 (by omega) rfl).mono ?_
      rintro e w' ⟨rfl, r', gr⟩
      refine ⟨⟨_, ?_, fun _ => ⟨rfl, r'⟩⟩, gr⟩
      have e1 : ((((st k (leNum (l.take (bh t)).reverse) : Nat) : Int) == (t : Int)) = true) = (st k (leNum (l.take (bh t)).reverse) = t) := by
        simp
        omega
      simp only [e1]

theorem rd_text_no {w : World} {lo B h g : Nat} {l : List UInt8} (r : Rd w lo B h g l 0) (k : Nat) (hs : l.length < k) :
    Calls Tryd.prog 73 #[.pointer (some ⟨g, 0, none⟩), .int .i64 k] w fun e w' => e = .returned (.string ⟨#[]⟩) ∧ Rd w' lo B h g l 3 ∧ w.grownBy w' (some g) := by
  have lv := r.live
  refine (text_any lv k).mono ?_
  rintro e w' ⟨he, lv', gr⟩
  rw [rstep_short l k false (by simp) (by omega)] at he lv'
  exact ⟨he, r.next gr lv', gr⟩
theorem rd_text_yes {w : World} {lo B h g : Nat} {l : List UInt8} (r : Rd w lo B h g l 0) (k : Nat) (hs : k ≤ l.length) :
    Calls Tryd.prog 73 #[.pointer (some ⟨g, 0, none⟩), .int .i64 k] w fun e w' => e = .returned (.string ⟨(l.take k).toArray⟩) ∧ Rd w' lo B h g (l.drop k) 0 ∧ w.grownBy w' (some g) := by
  have lv := r.live
  refine (text_any lv k).mono ?_
  rintro e w' ⟨he, lv', gr⟩
  rw [rstep_ok l k false (by simp) hs] at he lv'
  exact ⟨he, r.next gr lv', gr⟩

/-- A text behind a tag: the error, the text, what is left. -/
def txD (t : Nat) (l : List UInt8) : Int × List UInt8 × List UInt8 :=
  if (szD 5 t l).1 ≠ 0 then ((szD 5 t l).1, [], l) else if (szD 5 t l).2.2.length < (szD 5 t l).2.1 then (3, [], l)
  else (0, (szD 5 t l).2.2.take (szD 5 t l).2.1, (szD 5 t l).2.2.drop (szD 5 t l).2.1)

set_option maxRecDepth 100000 in
set_option maxHeartbeats 3200000 in
theorem rtext_any {w : World} {lo B h g : Nat} {l : List UInt8} (r : Rd w lo B h g l 0) (T : Sizes w) (hgl : 0 < lo) (t : Nat) (ht : TagOf 5 t) :
    Calls Tryd.prog 53 #[.pointer (some ⟨h, 0, none⟩), .int .u8 (t : Int)] w fun e w' => (∃ s : ByteArray, e = .returned (.tuple #[.string s, .int .i64 (txD t l).1]) ∧ ((txD t l).1 = 0 → s = ⟨(txD t l).2.1.toArray⟩ ∧ Rd w' lo B h g (txD t l).2.2 0)) ∧ w.grownBy w' (some g) := by
  have SZ := Lib.hid (rsize_any r T hgl 5 t (by omega) (by omega) ht)
  have SZ' : Hid (Calls Tryd.prog 70 #[.pointer (some ⟨h, 0, none⟩), .int .i64 5, .int .u8 (t : Int)] w fun e w' => (∃ n0 : Int, e = .returned (.tuple #[.int .i64 n0, .int .i64 (szD 5 t l).1]) ∧ ((szD 5 t l).1 = 0 → n0 = ((szD 5 t l).2.1 : Int) ∧ Rd w' lo B h g (szD 5 t l).2.2 0)) ∧ w.grownBy w' (some g)) := SZ
  clear SZ
  have e : txD t l = if (szD 5 t l).1 ≠ 0 then ((szD 5 t l).1, [], l) else if (szD 5 t l).2.2.length < (szD 5 t l).2.1 then (3, [], l) else (0, (szD 5 t l).2.2.take (szD 5 t l).2.1, (szD 5 t l).2.2.drop (szD 5 t l).2.1) := rfl
  obtain ⟨D, hD⟩ : ∃ D, D = txD t l := ⟨_, rfl⟩
  rw [← hD] at e ⊢
  generalize szD 5 t l = z at *
  obtain ⟨er, n, L⟩ := z
  simp only at SZ' e
  have HE := Lib.hid e
  clear e r T hgl ht hD
  by_cases hz : er = 0
  · subst hz
    have e2 : D = if L.length < n then (3, [], l) else (0, L.take n, L.drop n) := by rw [HE.out, if_neg (by decide)]
    have HE2 := Lib.hid e2
    clear e2 HE
    go_enter Tryd.func53, Tryd.ntmps53
    go_wp2_with fail
    refine SZ'.out.mono ?_
    rintro e w1 ⟨⟨n0, rfl, hn0⟩, gr1⟩
    obtain ⟨rfl, r1⟩ := hn0 (by trivial)
    have c1 := r1.cell
    have R1 := Lib.hid r1
    have GR := Lib.hid gr1
    clear r1 gr1 SZ' hn0
    by_cases hs : L.length < n
    · have HD := Lib.hid (HE2.out.trans (if_pos hs))
      have TX := Lib.hid (fun (w' : World) (s : Still w1 w') => rd_text_no (R1.out.still s) n hs)
      clear hs HE2
      go_wp2_with fail
      go_region_held3 (fun w' => w'.cell? ⟨h, 0, none⟩ = some (.pointer (some ⟨g, 0, none⟩))) (first | exact (R1.out.still ((Still.refl _).drew)).cell | exact r2.cell)
        (first
          | (go_at_call 73; refine (TX.out _ ((Still.refl _).drew)).mono ?_; rintro e w2 ⟨rfl, r2, gr2⟩)
          | (go_at_call 56; refine (rd_err r2).mono ?_; rintro e w3 ⟨rfl, rfl⟩))
      go_wp2_with fail
      go_ret2
      rw [HD.out]
      exact ⟨⟨_, rfl, fun h => absurd h (show ¬ (3 : Int) = 0 by decide)⟩, grown_trans GR.out (grown_trans (grown_of_still ((Still.refl w1).drew)) gr2)⟩
    · have HD := Lib.hid (HE2.out.trans (if_neg hs))
      have TX := Lib.hid (fun (w' : World) (s : Still w1 w') => rd_text_yes (R1.out.still s) n (by omega))
      obtain ⟨tx, htx⟩ : ∃ tx : ByteArray, tx = ⟨(L.take n).toArray⟩ := ⟨_, rfl⟩
      rw [← htx] at TX
      have HTX := Lib.hid htx
      clear hs HE2 htx
      go_wp2_with fail
      go_region_held3 (fun w' => w'.cell? ⟨h, 0, none⟩ = some (.pointer (some ⟨g, 0, none⟩))) (first | exact (R1.out.still ((Still.refl _).drew)).cell | exact r2.cell)
        (first
          | (go_at_call 73; refine (TX.out _ ((Still.refl _).drew)).mono ?_; rintro e w2 ⟨rfl, r2, gr2⟩)
          | (go_at_call 56; refine (rd_err r2).mono ?_; rintro e w3 ⟨rfl, rfl⟩))
      go_wp2_with fail
      go_ret2
      rw [HD.out]
      exact ⟨⟨_, rfl, fun _ => ⟨HTX.out, r2⟩⟩, grown_trans GR.out (grown_trans (grown_of_still ((Still.refl w1).drew)) gr2)⟩
  · have e2 : D = (er, [], l) := by rw [HE.out, if_pos hz]
    have HE2 := Lib.hid e2
    have HZ := Lib.hid hz
    have hz' : (er != 0) = true := by simpa using hz
    clear e2 HE hz
    go_enter Tryd.func53, Tryd.ntmps53
    go_wp2_with fail
    refine SZ'.out.mono ?_
    rintro e w1 ⟨⟨n0, rfl, hn0⟩, gr1⟩
    have GR := Lib.hid gr1
    clear gr1 SZ' hn0
    go_wp2_with fail
    (try simp only [Exit.inBlock, Exit.then])
    go_ret2
    rw [HE2.out]
    exact ⟨⟨_, rfl, fun h => absurd h HZ.out⟩, GR.out⟩
end Go.Proofs.YtmpnehhndhepgaaDoor

/- Contracts: bytes, a key, read behind their tags, whatever bytes there are. It proves no statement. -/

namespace Go.Proofs.YtmpnehhndhepgaaDoor
open Go.RowKit
set_option linter.unusedVariables false
set_option linter.unusedSimpArgs false

set_option maxHeartbeats 400000 in
theorem bclone_any (A : Option Addr) (n c : Nat) (l : List UInt8) (w : World) (B : Nat) (h : Reads w B A n l) (hB : B ≤ w.heap.size) (hn : n ≤ 70368744177664) (hA : A = none → n = 0 ∧ c = 0) :
    Calls Tryd.prog 71 #[.slice A n c] w fun e w' => (∃ v, e = .returned v ∧ w'.ownsRow w.heap.size 5 1 v n (bytesV l)) ∧ Still w w' := by
  rcases A with _ | ad
  · obtain ⟨rfl, rfl⟩ := hA rfl
    have hl : l = [] := List.eq_nil_of_length_eq_zero h.1
    subst hl
    have hk : ∀ w : World, (binOp .eql 22 (.slice none 0 0) (.slice none 0 0)).run Tryd.prog w = .ok (.bool true) w := fun w => Lib.run_eql_slice_nil w _ _ none 0 0 0 0 Tryd.underlying22
    go_enter Tryd.func71, Tryd.ntmps71
    go_wp2
    go_ret
    exact ⟨⟨_, rfl, World.ownsRow_nil _ _ _ _⟩, Below.refl _ _⟩
  · have r1 : Reads (w.alloc (.cells #[] 5)) B (some ad) n l := h.keep fun p hp => World.cell?_alloc_lt w _ p (by omega)
    have o1 : (w.alloc (.cells #[] 5)).ownsRow w.heap.size 5 1 (.slice (some ⟨w.heap.size, 0, none⟩) 0 0) 0 (bytesV []) := World.ownsRow_made w #[] 0 (Nat.le_refl _) (by unfold maxLen; omega) rfl
    have s1 : Still w (w.alloc (.cells #[] 5)) := (Below.refl _ _).alloc (Nat.le_refl _) _
    have hk : ∀ w : World, (binOp .eql 22 (.slice (some ad) n c) (.slice none 0 0)).run Tryd.prog w = .ok (.bool false) w := fun w => Lib.run_eql_slice_nil w _ _ (some ad) n c 0 0 Tryd.underlying22
    go_enter Tryd.func71, Tryd.ntmps71
    go_wp2_with (at_builtin; go_must (refine wpList_adds _ rfl _ _ rfl w.heap.size _ 0 [] rfl o1 _ n c B l rfl r1 (fun e => by cases e) ?c1 ?c2 ?_))
    case c1 => omega
    case c2 => simp
    intro v' w' hown hg _
    have hst : Still w w' := s1.grown hg (by simp) (fun k hk => by simp [Value.ownBlock] at hk; omega)
    have hown' : w'.ownsRow w.heap.size 5 1 v' n (bytesV l) := by simpa using hown
    clear hg hown
    go_wp2_with fail
    go_ret
    exact ⟨⟨_, rfl, hown'⟩, hst⟩

/-- No bytes, cloned. -/
theorem bclone0 (A : Option Addr) (w : World) :
    Calls Tryd.prog 71 #[.slice A 0 0] w fun e w' => (∃ v, e = .returned v ∧ w'.ownsRow w.heap.size 5 1 v 0 (bytesV [])) ∧ Still w w' :=
  bclone_any A 0 0 [] w 0 Reads.nil0 (Nat.zero_le _) (by omega) (fun _ => ⟨rfl, rfl⟩)
theorem own_one {w : World} {base n : Nat} {v : Value} {xs : List Value} (h : w.ownsRow base 5 1 v n xs) : v.oneCell' = true := by
  obtain ⟨A, c, rfl, _⟩ := own_form h
  rfl
/-- Bytes behind a tag: the error, the bytes, what is left. -/
def byD (t : Nat) (l : List UInt8) : Int × List UInt8 × List UInt8 :=
  if (szD 4 t l).1 ≠ 0 then ((szD 4 t l).1, [], l) else if (szD 4 t l).2.2.length < (szD 4 t l).2.1 then (3, [], l)
  else (0, (szD 4 t l).2.2.take (szD 4 t l).2.1, (szD 4 t l).2.2.drop (szD 4 t l).2.1)
theorem szD_bd (k t : Nat) (l : List UInt8) (ht : TagOf k t) : (szD k t l).2.1 < 65536 := by
  obtain ⟨h1, h2, h3⟩ := ht
  unfold szD
  split
  · simp only; omega
  · split
    · show (0 : Nat) < 65536
      decide
    · simp only
      have := leNum_lt (l.take (bh t)).reverse
      rw [List.length_reverse, List.length_take, Nat.min_eq_left (by omega)] at this
      have hp : 2 ^ (8 * bh t) ≤ 65536 := by
        have : bh t = 0 ∨ bh t = 1 ∨ bh t = 2 := by omega
        rcases this with h | h | h <;> rw [h] <;> decide
      omega

set_option maxRecDepth 100000 in
set_option maxHeartbeats 3200000 in
theorem rbytes_any {w : World} {lo B h g : Nat} {l : List UInt8} (r : Rd w lo B h g l 0) (T : Sizes w) (hgl : 0 < lo) (t : Nat) (ht : TagOf 4 t) :
    Calls Tryd.prog 52 #[.pointer (some ⟨h, 0, none⟩), .int .u8 (t : Int)] w fun e w' => (∃ v, e = .returned (.tuple #[v, .int .i64 (byD t l).1]) ∧ v.oneCell' = true ∧ ((byD t l).1 = 0 → w'.ownsRow w.heap.size 5 1 v (byD t l).2.1.length (bytesV (byD t l).2.1) ∧ (byD t l).2.1.length < 65536 ∧ Rd w' lo B h g (byD t l).2.2 0)) ∧ w.grownBy w' (some g) := by
  have SZ := Lib.hid (rsize_any r T hgl 4 t (by omega) (by omega) ht)
  have SZ' : Hid (Calls Tryd.prog 70 #[.pointer (some ⟨h, 0, none⟩), .int .i64 4, .int .u8 (t : Int)] w fun e w' => (∃ n0 : Int, e = .returned (.tuple #[.int .i64 n0, .int .i64 (szD 4 t l).1]) ∧ ((szD 4 t l).1 = 0 → n0 = ((szD 4 t l).2.1 : Int) ∧ Rd w' lo B h g (szD 4 t l).2.2 0)) ∧ w.grownBy w' (some g)) := SZ
  clear SZ
  have hbd := szD_bd 4 t l ht
  have e : byD t l = if (szD 4 t l).1 ≠ 0 then ((szD 4 t l).1, [], l) else if (szD 4 t l).2.2.length < (szD 4 t l).2.1 then (3, [], l) else (0, (szD 4 t l).2.2.take (szD 4 t l).2.1, (szD 4 t l).2.2.drop (szD 4 t l).2.1) := rfl
  obtain ⟨D, hD⟩ : ∃ D, D = byD t l := ⟨_, rfl⟩
  rw [← hD] at e ⊢
  generalize szD 4 t l = z at *
  obtain ⟨er, n, L⟩ := z
  simp only at SZ' e hbd
  have HE := Lib.hid e
  have HBD := Lib.hid hbd
  clear e r T hgl ht hD hbd
  by_cases hz : er = 0
  · subst hz
    have e2 : D = if L.length < n then (3, [], l) else (0, L.take n, L.drop n) := by rw [HE.out, if_neg (by decide)]
    have HE2 := Lib.hid e2
    clear e2 HE
    go_enter Tryd.func52, Tryd.ntmps52
    go_wp2_with fail
    refine SZ'.out.mono ?_
    rintro e w1 ⟨⟨n0, rfl, hn0⟩, gr1⟩
    obtain ⟨rfl, r1⟩ := hn0 (by trivial)
    have c1 := r1.cell
    have R1 := Lib.hid r1
    have GR := Lib.hid gr1
    clear r1 gr1 SZ' hn0
    by_cases hs : L.length < n
    · have HD := Lib.hid (HE2.out.trans (if_pos hs))
      have BY := Lib.hid (fun (w' : World) (s : Still w1 w') => rd_bytes_no (R1.out.still s) n hs)
      clear hs HE2
      go_wp2_with fail
      go_region_held3 (fun w' => w'.cell? ⟨h, 0, none⟩ = some (.pointer (some ⟨g, 0, none⟩))) (first | exact (R1.out.still ((Still.refl _).drew)).cell | exact r3.cell | exact r2.cell)
        (first
          | (go_at_call 72; refine (BY.out _ ((Still.refl _).drew)).mono ?_; rintro e w2 ⟨⟨A1, rfl⟩, r2, gr2⟩)
          | (go_at_call 71; refine (bclone0 A1 w2).mono ?_; rintro e w3 ⟨⟨v3, rfl, o3⟩, s3⟩; have r3 := r2.still s3)
          | (go_at_call 56; refine (rd_err r3).mono ?_; rintro e w4 ⟨rfl, rfl⟩))
      go_wp2_with fail
      go_ret2
      rw [HD.out]
      exact ⟨⟨_, rfl, own_one o3, fun h => absurd h (show ¬ (3 : Int) = 0 by decide)⟩, grown_trans GR.out (grown_trans (grown_trans (grown_of_still ((Still.refl w1).drew)) gr2) (grown_of_still s3))⟩
    · have HD := Lib.hid (HE2.out.trans (if_neg hs))
      have hs' : n ≤ L.length := by omega
      have BY := Lib.hid (fun (w' : World) (s : Still w1 w') => rd_bytes_yes (R1.out.still s) n hs')
      have HLN := Lib.hid (show (L.take n).length = n by rw [List.length_take]; omega)
      have CLO := Lib.hid (fun (A1 : Option Addr) (w2 : World) (q : Reads w2 w2.heap.size A1 n (L.take n)) (hn : A1 = none → n = 0) => bclone_any A1 n n (L.take n) w2 _ q (Nat.le_refl _) (by have := HBD.out; omega) (fun e => ⟨hn e, hn e⟩))
      clear hs hs' HE2
      go_wp2_with fail
      go_region_held3 (fun w' => w'.cell? ⟨h, 0, none⟩ = some (.pointer (some ⟨g, 0, none⟩))) (first | exact (R1.out.still ((Still.refl _).drew)).cell | exact r3.cell | exact r2.cell)
        (first
          | (go_at_call 72; refine (BY.out _ ((Still.refl _).drew)).mono ?_; rintro e w2 ⟨⟨A1, rfl, q2, hn2⟩, r2, gr2⟩)
          | (go_at_call 71; refine (CLO.out A1 w2 q2 hn2).mono ?_; rintro e w3 ⟨⟨v3, rfl, o3⟩, s3⟩; have r3 := r2.still s3)
          | (go_at_call 56; refine (rd_err r3).mono ?_; rintro e w4 ⟨rfl, rfl⟩))
      go_wp2_with fail
      go_ret2
      rw [HD.out]
      have g2 := grown_trans GR.out (grown_trans (grown_of_still ((Still.refl w1).drew)) gr2)
      refine ⟨⟨_, rfl, own_one o3, fun _ => ⟨?_, ?_, r3⟩⟩, grown_trans g2 (grown_of_still s3)⟩
      · simp only
        rw [HLN.out]
        exact own_rebase o3 g2.size
      · simp only
        rw [HLN.out]
        exact HBD.out
  · have e2 : D = (er, [], l) := by rw [HE.out, if_pos hz]
    have HE2 := Lib.hid e2
    have HZ := Lib.hid hz
    have hz' : (er != 0) = true := by simpa using hz
    clear e2 HE hz
    go_enter Tryd.func52, Tryd.ntmps52
    go_wp2_with fail
    refine SZ'.out.mono ?_
    rintro e w1 ⟨⟨n0, rfl, hn0⟩, gr1⟩
    have GR := Lib.hid gr1
    clear gr1 SZ' hn0
    go_wp2_with fail
    (try simp only [Exit.inBlock, Exit.then])
    go_ret2
    rw [HE2.out]
    exact ⟨⟨_, rfl, rfl, fun h => absurd h HZ.out⟩, GR.out⟩
end Go.Proofs.YtmpnehhndhepgaaDoor

/- Contract: a key, read, whatever bytes there are. It proves no statement. -/

namespace Go.Proofs.YtmpnehhndhepgaaDoor
open Go.RowKit
set_option linter.unusedVariables false
set_option linter.unusedSimpArgs false

theorem tagOf_kd (k t : Nat) (h4 : 4 ≤ k) (h7 : k ≤ 7) (ht : t < 256) (h : kd t = (k : Int)) : TagOf k t := by
  have hh : ((List.range 8).all fun k => (List.range 256).all fun t => decide (4 ≤ k → kd t = (k : Int) → bh t ≤ 2 ∧ (bh t = 0 → noneT k ≤ t))) = true := by decide +kernel
  rw [List.all_eq_true] at hh
  have h1 := hh k (List.mem_range.2 (by omega))
  rw [List.all_eq_true] at h1
  have h2 := of_decide_eq_true (h1 t (List.mem_range.2 ht)) h4 h
  exact ⟨ht, h2.1, h2.2⟩

/-- A first byte: there is none. -/
theorem tag_no {w : World} {lo B h g : Nat} (r : Rd w lo B h g [] 0) :
    Calls Tryd.prog 49 #[.pointer (some ⟨h, 0, none⟩)] w fun e w' => e = .returned (.tuple #[.int .u8 0, .int .i64 3]) ∧ Rd w' lo B h g [] 3 ∧ w.grownBy w' (some g) := by
  have c0 := r.cell
  have NN := Lib.hid (rd_num_no r 1 (by omega) (by omega) (by simp))
  clear r
  go_enter Tryd.func49, Tryd.ntmps49
  go_wp2_with fail
  refine NN.out.mono ?_
  rintro e w1 ⟨rfl, r1, gr1⟩
  have c1 := r1.cell
  have EE := Lib.hid (rd_err r1)
  have R1 := Lib.hid r1
  have GR := Lib.hid gr1
  clear r1 gr1 c0 NN
  go_wp2_with fail
  refine EE.out.mono ?_
  rintro e w2 ⟨rfl, rfl⟩
  go_wp2_with fail
  go_ret2
  exact ⟨rfl, R1.out, GR.out⟩

/-- A key: the error, the text, what is left. -/
def keD : List UInt8 → Int × List UInt8 × List UInt8
  | [] => (3, [], [])
  | t :: l => if kd t.toNat = 5 then txD t.toNat l else (4, [], l)

set_option maxRecDepth 100000 in
set_option maxHeartbeats 1600000 in
theorem rkey_any {w : World} {lo B h g : Nat} {l : List UInt8} (r : Rd w lo B h g l 0) (T : Sizes w) (hgl : 0 < lo) :
    Calls Tryd.prog 74 #[.pointer (some ⟨h, 0, none⟩)] w fun e w' => (∃ s : ByteArray, e = .returned (.tuple #[.string s, .int .i64 (keD l).1]) ∧ ((keD l).1 = 0 → s = ⟨(keD l).2.1.toArray⟩ ∧ Rd w' lo B h g (keD l).2.2 0)) ∧ w.grownBy w' (some g) := by
  have HT : Hid (∀ w', w.grownBy w' (some g) → Sizes w') := Lib.hid fun w' gr => T.grown gr (by have := r.low; omega)
  rcases l with _ | ⟨t, l⟩
  · have TG := Lib.hid (tag_no r)
    clear r T hgl HT
    unfold keD
    go_enter Tryd.func74, Tryd.ntmps74
    go_wp2_with fail
    refine TG.out.mono ?_
    rintro e w1 ⟨rfl, r1, gr1⟩
    have GR := Lib.hid gr1
    clear r1 gr1 TG
    go_wp2_with fail
    (try simp only [Exit.inBlock, Exit.then])
    go_ret2
    exact ⟨⟨_, rfl, fun h => absurd h (show ¬ (3 : Int) = 0 by decide)⟩, GR.out⟩
  · have TG := Lib.hid (tag_yes t r)
    have htl := t.toNat_lt
    have TX := Lib.hid (fun (w' : World) (r' : Rd w' lo B h g l 0) (T' : Sizes w') (hk : kd t.toNat = 5) => rtext_any r' T' hgl t.toNat (tagOf_kd 5 t.toNat (by omega) (by omega) htl hk))
    have e : keD (t :: l) = if kd t.toNat = 5 then txD t.toNat l else (4, [], l) := rfl
    have KD := Lib.hid (fun w => kindOf_any t.toNat w)
    obtain ⟨D, hD⟩ : ∃ D, D = keD (t :: l) := ⟨_, rfl⟩
    rw [← hD] at e ⊢
    generalize t.toNat = y at *
    obtain ⟨q, hq⟩ : ∃ q, q = kd y := ⟨_, rfl⟩
    rw [← hq] at TX e KD
    have HE := Lib.hid e
    clear e r T hgl htl hD hq
    by_cases h5 : q = 5
    · have e2 : D = txD y l := HE.out.trans (if_pos h5)
      have TX' := Lib.hid (fun (w' : World) (r' : Rd w' lo B h g l 0) (T' : Sizes w') => TX.out w' r' T' h5)
      rw [← e2] at TX'
      subst h5
      clear HE TX e2
      go_enter Tryd.func74, Tryd.ntmps74
      go_wp2_with fail
      refine TG.out.mono ?_
      rintro e w1 ⟨rfl, r1, gr1⟩
      have X := Lib.hid (TX'.out w1 r1 (HT.out w1 gr1))
      have GR := Lib.hid gr1
      clear r1 gr1 TG TX' HT
      go_wp2_with fail
      refine (KD.out _).mono ?_
      rintro e w2 ⟨rfl, rfl⟩
      go_wp2_with fail
      refine X.out.mono ?_
      rintro e w3 ⟨⟨s, rfl, hs⟩, gr3⟩
      have HS := Lib.hid hs
      have GR3 := Lib.hid gr3
      clear hs gr3 X
      go_wp2_with fail
      go_ret2
      exact ⟨⟨_, rfl, HS.out⟩, grown_trans GR.out GR3.out⟩
    · have e2 : D = (4, [], l) := HE.out.trans (if_neg h5)
      have HE2 := Lib.hid e2
      have d5 : (q != 5) = true := by simpa using h5
      clear HE TX e2 h5 HT
      go_enter Tryd.func74, Tryd.ntmps74
      go_wp2_with fail
      refine TG.out.mono ?_
      rintro e w1 ⟨rfl, r1, gr1⟩
      have GR := Lib.hid gr1
      clear r1 gr1 TG
      go_wp2_with fail
      refine (KD.out _).mono ?_
      rintro e w2 ⟨rfl, rfl⟩
      go_wp2_with fail
      (try simp only [Exit.inBlock, Exit.then])
      go_ret2
      rw [HE2.out]
      exact ⟨⟨_, rfl, fun h => absurd h (show ¬ (4 : Int) = 0 by decide)⟩, GR.out⟩
end Go.Proofs.YtmpnehhndhepgaaDoor

/- Values as trees with what they lead to told by a predicate on blocks; and what reading answers, as a function. It proves no statement. -/



namespace Go.Proofs.YtmpnehhndhepgaaDoor
open Go.RowKit
set_option linter.unusedVariables false
set_option linter.unusedSimpArgs false

/-- Bytes that read, in a block of which P is said. -/
def ReadsP (w : World) (P : Nat → Prop) (A : Option Addr) (n : Nat) (l : List UInt8) : Prop :=
  l.length = n ∧ (0 < n → ∃ b o, A = some ⟨b, o, none⟩ ∧ P b ∧ b < w.heap.size ∧ ∀ i, i < n → w.cell? ⟨b, o + i, none⟩ = some (Value.int .u8 ((l.getD i 0).toNat : Int)))
def KeysP (w : World) (P : Nat → Prop) (A : Option Addr) (ks : List ByteArray) : Prop :=
  (∀ s ∈ ks, s.size ≤ 1048576) ∧ (0 < ks.length → ∃ g o, A = some ⟨g, o, none⟩ ∧ P g ∧ g < w.heap.size ∧ ∀ j, j < ks.length → w.cell? ⟨g, o + j, none⟩ = some (.string (ks.getD j ByteArray.empty)))
mutual
/-- The cells cs are the value t; what they lead to lies in blocks of which P is said. -/
def HasP (w : World) (P : Nat → Prop) : Tr → Array Value → Prop
  | .mk k i b t ks l, cs => ∃ A n c Ak ck Al cl, cs = #[.int .i64 k, .int .i64 i, .slice A n c, .string t, .slice Ak ks.length ck, .slice Al l.length cl] ∧
      (-9223372036854775808 ≤ k ∧ k ≤ 9223372036854775807) ∧ (-9223372036854775808 ≤ i ∧ i ≤ 9223372036854775807) ∧ (ReadsP w P A n b ∧ n ≤ 1048576 ∧ (A = none → c = 0)) ∧ t.size ≤ 1048576 ∧
      (KeysP w P Ak ks ∧ ks.length ≤ 1048576) ∧ l.length ≤ 1048576 ∧ (0 < l.length → ∃ g o, Al = some ⟨g, o, none⟩ ∧ P g ∧ g < w.heap.size ∧ HasLP w P g o l)
def HasLP (w : World) (P : Nat → Prop) (g : Nat) : Nat → List Tr → Prop
  | _, [] => True
  | o, x :: r => (∃ cs, HasP w P x cs ∧ cs.size = 6 ∧ ∀ j v, cs[j]? = some v → w.cell? ⟨g, o + j, none⟩ = some v) ∧ HasLP w P g (o + 6) r
end
mutual
/-- Where the blocks of which P is said stay, the value stays; Q may say more blocks. -/
theorem HasP.keep {w w' : World} {P Q : Nat → Prop} (hb : ∀ b, P b → b < w.heap.size → w'.heap[b]? = w.heap[b]?) (hz : w.heap.size ≤ w'.heap.size) (hq : ∀ b, P b → b < w.heap.size → Q b) : ∀ (t : Tr) (cs : Array Value), HasP w P t cs → HasP w' Q t cs
  | .mk k i b t ks l, cs, h => by
    unfold HasP at h ⊢
    obtain ⟨A, n, c, Ak, ck, Al, cl, e, hk, hi, ⟨hr, h1, h2⟩, ht, ⟨hks, hkl⟩, hl, hL⟩ := h
    refine ⟨A, n, c, Ak, ck, Al, cl, e, hk, hi, ⟨⟨hr.1, fun hn => ?_⟩, h1, h2⟩, ht, ⟨⟨hks.1, fun hn => ?_⟩, hkl⟩, hl, fun hn => ?_⟩
    · obtain ⟨b', o, e2, hp, hlt, hc⟩ := hr.2 hn
      exact ⟨b', o, e2, hq _ hp hlt, by omega, fun i hi => (World.cell?_of_block (w := w) (a := ⟨b', o + i, none⟩) (hb b' hp hlt)).trans (hc i hi)⟩
    · obtain ⟨b', o, e2, hp, hlt, hc⟩ := hks.2 hn
      exact ⟨b', o, e2, hq _ hp hlt, by omega, fun i hi => (World.cell?_of_block (w := w) (a := ⟨b', o + i, none⟩) (hb b' hp hlt)).trans (hc i hi)⟩
    · obtain ⟨g, o, e2, hp, hlt, hh⟩ := hL hn
      exact ⟨g, o, e2, hq _ hp hlt, by omega, HasLP.keep hb hz hq g hp hlt o l hh⟩
theorem HasLP.keep {w w' : World} {P Q : Nat → Prop} (hb : ∀ b, P b → b < w.heap.size → w'.heap[b]? = w.heap[b]?) (hz : w.heap.size ≤ w'.heap.size) (hq : ∀ b, P b → b < w.heap.size → Q b) (g : Nat) (hg : P g) (hlt : g < w.heap.size) : ∀ (o : Nat) (l : List Tr), HasLP w P g o l → HasLP w' Q g o l
  | _, [], _ => by unfold HasLP; trivial
  | o, x :: r, h => by
    unfold HasLP at h ⊢
    obtain ⟨⟨cs, hv, hz', hc⟩, hr⟩ := h
    exact ⟨⟨cs, HasP.keep hb hz hq x cs hv, hz', fun j v hj => (World.cell?_of_block (w := w) (a := ⟨g, o + j, none⟩) (hb g hg hlt)).trans (hc j v hj)⟩, HasLP.keep hb hz hq g hg hlt (o + 6) r hr⟩
end
mutual
theorem HasP.toV {w : World} {P : Nat → Prop} {B : Nat} (hp : ∀ b, P b → b < w.heap.size → b < B) : ∀ (t : Tr) (cs : Array Value), HasP w P t cs → HasV w B t cs
  | .mk k i b t ks l, cs, h => by
    unfold HasP at h
    unfold HasV
    obtain ⟨A, n, c, Ak, ck, Al, cl, e, hk, hi, ⟨hr, h1, h2⟩, ht, ⟨hks, hkl⟩, hl, hL⟩ := h
    refine ⟨A, n, c, Ak, ck, Al, cl, e, hk, hi, ⟨⟨hr.1, fun hn => ?_⟩, h1, h2⟩, ht, ⟨⟨hks.1, fun hn => ?_⟩, hkl⟩, hl, fun hn => ?_⟩
    · obtain ⟨b', o, e2, hp', hlt, hc⟩ := hr.2 hn
      exact ⟨b', o, e2, hp b' hp' hlt, hc⟩
    · obtain ⟨b', o, e2, hp', hlt, hc⟩ := hks.2 hn
      exact ⟨b', o, e2, hp b' hp' hlt, hc⟩
    · obtain ⟨g, o, e2, hp', hlt, hh⟩ := hL hn
      exact ⟨g, o, e2, hp g hp' hlt, HasLP.toV hp g o l hh⟩
theorem HasLP.toV {w : World} {P : Nat → Prop} {B : Nat} (hp : ∀ b, P b → b < w.heap.size → b < B) (g : Nat) : ∀ (o : Nat) (l : List Tr), HasLP w P g o l → HasL w B g o l
  | _, [], _ => by unfold HasL; trivial
  | o, x :: r, h => by
    unfold HasLP at h
    unfold HasL
    obtain ⟨⟨cs, hv, hz', hc⟩, hr⟩ := h
    exact ⟨⟨cs, HasP.toV hp x cs hv, hz', hc⟩, HasLP.toV hp g (o + 6) r hr⟩
end
theorem HasLP.snoc {w : World} {P : Nat → Prop} {g : Nat} {x : Tr} {cs : Array Value} (hv : HasP w P x cs) (hz : cs.size = 6) : ∀ (l : List Tr) (o : Nat), HasLP w P g o l → (∀ j v, cs[j]? = some v → w.cell? ⟨g, o + 6 * l.length + j, none⟩ = some v) → HasLP w P g o (l ++ [x])
  | [], o, _, hc => by
    simp only [List.nil_append]
    unfold HasLP
    refine ⟨⟨cs, hv, hz, fun j v hj => by simpa using hc j v hj⟩, ?_⟩
    unfold HasLP
    trivial
  | y :: r, o, h, hc => by
    simp only [List.cons_append]
    unfold HasLP at h ⊢
    refine ⟨h.1, HasLP.snoc hv hz r (o + 6) h.2 fun j v hj => ?_⟩
    have := hc j v hj
    simp only [List.length_cons] at this
    rwa [show o + 6 * (r.length + 1) + j = o + 6 + 6 * r.length + j by omega] at this

/-- The zero value as a tree. -/
def trZ : Tr := .mk 0 0 [] ByteArray.empty [] []
/-- Reading, one value after another. -/
def decL (dec : List UInt8 → Int × Tr × List UInt8) : Nat → List UInt8 → Int × List Tr × List UInt8
  | 0, l => (0, [], l)
  | n + 1, l => if (dec l).1 ≠ 0 then ((dec l).1, [], []) else if (decL dec n (dec l).2.2).1 ≠ 0 then ((decL dec n (dec l).2.2).1, [], []) else (0, (dec l).2.1 :: (decL dec n (dec l).2.2).2.1, (decL dec n (dec l).2.2).2.2)
/-- Reading keys and values; 'last': the key ahead, where there is one. -/
def decM (dec : List UInt8 → Int × Tr × List UInt8) : Nat → Option (List UInt8) → List UInt8 → Int × (List (List UInt8) × List Tr) × List UInt8
  | 0, _, l => (0, ([], []), l)
  | n + 1, last, l =>
    if (keD l).1 ≠ 0 then ((keD l).1, ([], []), [])
    else if (match last with | some p => !Op.bytesLess p (keD l).2.1 | none => false) = true then (4, ([], []), [])
    else if (dec (keD l).2.2).1 ≠ 0 then ((dec (keD l).2.2).1, ([], []), [])
    else if (decM dec n (some (keD l).2.1) (dec (keD l).2.2).2.2).1 ≠ 0 then ((decM dec n (some (keD l).2.1) (dec (keD l).2.2).2.2).1, ([], []), [])
    else (0, ((keD l).2.1 :: (decM dec n (some (keD l).2.1) (dec (keD l).2.2).2.2).2.1.1, (dec (keD l).2.2).2.1 :: (decM dec n (some (keD l).2.1) (dec (keD l).2.2).2.2).2.1.2), (decM dec n (some (keD l).2.1) (dec (keD l).2.2).2.2).2.2)
/-- A number behind its tag: the error, the number, what is left. -/
def nuD (t : Nat) (l : List UInt8) : Int × Int × List UInt8 :=
  if bh t = 0 then (0, IntKind.i8.wrap (t : Int), l) else if l.length < bh t then (3, 0, [])
  else (if nt (decK (decide (208 ≤ t)) (bh t) (leNum (l.take (bh t)).reverse)) = t then 0 else 4, decK (decide (208 ≤ t)) (bh t) (leNum (l.take (bh t)).reverse), l.drop (bh t))
/-- Reading a value, so many within one another: the error, the value, what is left. -/
def decV : Nat → List UInt8 → Int × Tr × List UInt8
  | _, [] => (3, trZ, [])
  | 0, _ :: _ => (4, trZ, [])
  | f + 1, t :: l =>
    if kd t.toNat = -1 then (4, trZ, [])
    else if kd t.toNat = 3 then ((nuD t.toNat l).1, .mk 3 (nuD t.toNat l).2.1 [] ByteArray.empty [] [], (nuD t.toNat l).2.2)
    else if kd t.toNat = 4 then ((byD t.toNat l).1, .mk 4 0 (byD t.toNat l).2.1 ByteArray.empty [] [], (byD t.toNat l).2.2)
    else if kd t.toNat = 5 then ((txD t.toNat l).1, .mk 5 0 [] ⟨(txD t.toNat l).2.1.toArray⟩ [] [], (txD t.toNat l).2.2)
    else if kd t.toNat = 6 then
      (if (szD 6 t.toNat l).1 ≠ 0 then ((szD 6 t.toNat l).1, trZ, [])
       else ((decL (decV f) (szD 6 t.toNat l).2.1 (szD 6 t.toNat l).2.2).1, .mk 6 0 [] ByteArray.empty [] (decL (decV f) (szD 6 t.toNat l).2.1 (szD 6 t.toNat l).2.2).2.1, (decL (decV f) (szD 6 t.toNat l).2.1 (szD 6 t.toNat l).2.2).2.2))
    else if kd t.toNat = 7 then
      (if (szD 7 t.toNat l).1 ≠ 0 then ((szD 7 t.toNat l).1, trZ, [])
       else ((decM (decV f) (szD 7 t.toNat l).2.1 none (szD 7 t.toNat l).2.2).1, .mk 7 0 [] ByteArray.empty ((decM (decV f) (szD 7 t.toNat l).2.1 none (szD 7 t.toNat l).2.2).2.1.1.map fun k => ⟨k.toArray⟩) (decM (decV f) (szD 7 t.toNat l).2.1 none (szD 7 t.toNat l).2.2).2.1.2, (decM (decV f) (szD 7 t.toNat l).2.1 none (szD 7 t.toNat l).2.2).2.2))
    else (0, .mk (kd t.toNat) 0 [] ByteArray.empty [] [], l)
end Go.Proofs.YtmpnehhndhepgaaDoor

/- Rows of values that grow. It proves no statement. -/


namespace Go.Proofs.YtmpnehhndhepgaaDoor
open Go.RowKit
set_option linter.unusedVariables false
set_option linter.unusedSimpArgs false

/-- The cells xs are the values l, one behind the other. -/
def HasR (w : World) (P : Nat → Prop) : List Tr → List Value → Prop
  | [], xs => xs = []
  | x :: r, xs => ∃ cs rest, xs = cs ++ rest ∧ cs.length = 6 ∧ HasP w P x cs.toArray ∧ HasR w P r rest
theorem HasR.len {w : World} {P : Nat → Prop} : ∀ (l : List Tr) (xs : List Value), HasR w P l xs → xs.length = 6 * l.length
  | [], xs, h => by unfold HasR at h; subst h; rfl
  | x :: r, xs, h => by
    unfold HasR at h
    obtain ⟨cs, rest, rfl, hc, _, hr⟩ := h
    have := HasR.len r rest hr
    simp only [List.length_append, List.length_cons, hc, this]
    omega
theorem HasR.keep {w w' : World} {P Q : Nat → Prop} (hb : ∀ b, P b → b < w.heap.size → w'.heap[b]? = w.heap[b]?) (hz : w.heap.size ≤ w'.heap.size) (hq : ∀ b, P b → b < w.heap.size → Q b) : ∀ (l : List Tr) (xs : List Value), HasR w P l xs → HasR w' Q l xs
  | [], xs, h => h
  | x :: r, xs, h => by
    unfold HasR at h ⊢
    obtain ⟨cs, rest, e, hc, hv, hr⟩ := h
    exact ⟨cs, rest, e, hc, HasP.keep hb hz hq x _ hv, HasR.keep hb hz hq r rest hr⟩
theorem HasR.snoc {w : World} {P : Nat → Prop} {x : Tr} {cs : List Value} (hv : HasP w P x cs.toArray) (hc : cs.length = 6) : ∀ (l : List Tr) (xs : List Value), HasR w P l xs → HasR w P (l ++ [x]) (xs ++ cs)
  | [], xs, h => by
    unfold HasR at h
    subst h
    exact ⟨cs, [], by simp, hc, hv, rfl⟩
  | y :: r, xs, h => by
    unfold HasR at h
    obtain ⟨c1, rest, rfl, h1, h2, h3⟩ := h
    exact ⟨c1, rest ++ cs, by simp, h1, h2, HasR.snoc hv hc r rest h3⟩
theorem HasR.toL {w : World} {P : Nat → Prop} {g : Nat} : ∀ (l : List Tr) (xs : List Value) (o : Nat), HasR w P l xs → (∀ i v, xs[i]? = some v → w.cell? ⟨g, o + i, none⟩ = some v) → HasLP w P g o l
  | [], xs, o, h, hx => by unfold HasLP; trivial
  | x :: r, xs, o, h, hx => by
    unfold HasR at h
    obtain ⟨cs, rest, rfl, hc, hv, hr⟩ := h
    unfold HasLP
    refine ⟨⟨cs.toArray, hv, by simpa using hc, fun j v hj => hx j v ?_⟩, HasR.toL r rest (o + 6) hr fun i v hi => ?_⟩
    · have hjl : j < cs.length := by
        have := (Array.getElem?_eq_some_iff.1 hj).1
        simpa using this
      rw [List.getElem?_append_left hjl]
      simpa using hj
    · have := hx (6 + i) v (by rw [List.getElem?_append_right (by omega), hc, show 6 + i - 6 = i by omega]; exact hi)
      rwa [show o + (6 + i) = o + 6 + i by omega] at this

theorem HasP.oneCells {w : World} {P : Nat → Prop} {x : Tr} {cs : Array Value} (h : HasP w P x cs) : cs.size = 6 ∧ cs.all (·.oneCell') = true := by
  have hv : HasV w w.heap.size x cs := HasP.toV (fun b _ h => h) x cs h
  exact ⟨hv.size, hv.one⟩

theorem Tryd.infoValue : (Tryd.prog.info? 26).map (fun i => (i.zero, i.size, i.bytes)) = some (some (.agg cellsZ), 6, 104) := by kernel_rfl

/-- 'l = append(l, v)': one value more on a row of the call's own. -/
theorem wpList_pushV (w : World) {ops : Array Oper} {rest : List Oper} {o : Oper} {a : Act} {Q : Exit → Act → World → Prop} (hgd : o.guard = none) (s x : Operand)
    (ho : o.op = .call { callee := .builtin .append, args := #[s, x], argTypes := #[24, 24] })
    (base : Nat) (v : Value) (n : Nat) (xs : List Value) (hs : a.eval s = v) (hown : w.ownsRow base 26 6 v n xs) (gb : Nat) (cs : List Value)
    (hx : a.eval x = .slice (some ⟨gb, 0, none⟩) 1 1) (hc : ∀ j u, cs[j]? = some u → w.cell? ⟨gb, j, none⟩ = some u) (hc6 : cs.length = 6) (h1 : ∀ u ∈ cs, u.oneCell' = true) (hn : n ≤ 1048576) (hbase : base ≤ w.heap.size)
    (h : ∀ v' w', w'.ownsRow base 26 6 v' (n + 1) (xs ++ cs) → w.grownBy w' v.ownBlock → (v'.ownBlock = v.ownBlock ∨ v'.ownBlock = some w.heap.size) → wpList Tryd.prog ops Q rest (a.put o.dst v') w') :
    wpList Tryd.prog ops Q (o :: rest) a w := by
  obtain ⟨i0, hi, hz0, hz1, hz2⟩ := info_parts Tryd.infoValue
  refine wpList_plain hgd fun _ hK => ?_
  obtain ⟨v', w', hrun, h2, h3, _, h5⟩ := run_append_own_at (P := Tryd.prog) w base 24 o.type 26 i0 (.agg cellsZ) 6 104 Tryd.underlying24 hi hz0 hz1 hz2 rfl (by decide) v n xs hown ⟨gb, 0, none⟩ 1 1 cs (by rw [hc6]) (fun j u hu => by
    rw [Addr.add_mid, Nat.zero_add]; exact hc j u hu) h1 (by unfold maxLen; omega) (by omega) hbase
  unfold Oper.wp execOp
  simp only [ho, resolve, invoke, builtin, Sem.run_bind, Sem.run_pure, Result.andThen_ok, List.map_toArray, List.map_cons, List.map_nil, hs, hx, hrun]
  exact hK _ _ (h v' w' h2 h3 h5)
end Go.Proofs.YtmpnehhndhepgaaDoor

/- Contract: a list read, whatever bytes there are. It proves no statement. -/



namespace Go.Proofs.YtmpnehhndhepgaaDoor
open Go.RowKit
set_option linter.unusedVariables false
set_option linter.unusedSimpArgs false

/-- What is said of reading a value so many within one another. -/
def RdOK (f : Nat) : Prop := ∀ (w : World) (lo B h g : Nat) (l : List UInt8), Rd w lo B h g l 0 → Sizes w → 0 < lo →
  Calls Tryd.prog 29 #[.pointer (some ⟨h, 0, none⟩), .int .i64 (17 - (f : Int))] w fun e w' =>
    (∃ cs : List Value, e = .returned (.tuple #[.agg cs.toArray, .int .i64 (decV f l).1]) ∧ cs.length = 6 ∧ cs.toArray.all (·.oneCell') = true ∧ ((decV f l).1 = 0 → HasP w' (fun b => w.heap.size ≤ b) (decV f l).2.1 cs.toArray ∧ Rd w' lo B h g (decV f l).2.2 0)) ∧ w.grownBy w' (some g)

/-- What was read ahead of what is still to be read. -/
def preL (acc : List Tr) (z : Int × List Tr × List UInt8) : Int × List Tr × List UInt8 := if z.1 ≠ 0 then (z.1, [], []) else (0, acc ++ z.2.1, z.2.2)
theorem preL_step (dec : List UInt8 → Int × Tr × List UInt8) (acc : List Tr) (m : Nat) (l : List UInt8) :
    preL acc (decL dec (m + 1) l) = if (dec l).1 ≠ 0 then ((dec l).1, [], []) else preL (acc ++ [(dec l).2.1]) (decL dec m (dec l).2.2) := by
  rw [decL]
  by_cases h : (dec l).1 ≠ 0
  · rw [if_pos h, if_pos h]
    unfold preL
    rw [if_pos h]
  · rw [if_neg h, if_neg h]
    by_cases h2 : (decL dec m (dec l).2.2).1 ≠ 0
    · rw [if_pos h2]
      unfold preL
      rw [if_pos h2, if_pos h2]
    · rw [if_neg h2]
      unfold preL
      rw [if_neg h2, if_neg (show ¬ (0 : Int) ≠ 0 by decide)]
      simp

theorem preL_nil (dec : List UInt8 → Int × Tr × List UInt8) (n : Nat) (l : List UInt8) : preL [] (decL dec n l) = decL dec n l := by
  cases n with
  | zero => rfl
  | succ n =>
    rw [decL]
    by_cases h : (dec l).1 ≠ 0
    · rw [if_pos h]; unfold preL; rw [if_pos h]
    · rw [if_neg h]
      by_cases h2 : (decL dec n (dec l).2.2).1 ≠ 0
      · rw [if_pos h2]; unfold preL; rw [if_pos h2]
      · rw [if_neg h2]; rfl
/-- '[]Value{v}', as the walk has it. -/
theorem build1 (cs : List Value) (h6 : cs.length = 6) : List.foldl (fun (cs : Array Value) (x : Value × Nat) => cs.setIfInBounds x.snd x.fst) #[.int .i64 0, .int .i64 0, .slice none 0 0, .string ⟨#[]⟩, .slice none 0 0, .slice none 0 0] cs.zipIdx = cs.toArray := by
  match cs, h6 with
  | [a, b, c, d, e, f], _ => rfl
/-- A list behind a tag: the error, the values, what is left. -/
def liD (f t : Nat) (l : List UInt8) : Int × List Tr × List UInt8 := if (szD 6 t l).1 ≠ 0 then ((szD 6 t l).1, [], []) else decL (decV f) (szD 6 t l).2.1 (szD 6 t l).2.2

set_option maxRecDepth 100000 in
set_option maxHeartbeats 3200000 in
theorem rlist_any (f : Nat) (hf : f ≤ 16) (OK : RdOK f) {w : World} {lo B h g : Nat} {l : List UInt8} (r : Rd w lo B h g l 0) (T : Sizes w) (hgl : 0 < lo) (t : Nat) (ht : TagOf 6 t) :
    Calls Tryd.prog 54 #[.pointer (some ⟨h, 0, none⟩), .int .u8 (t : Int), .int .i64 (16 - (f : Int))] w fun e w' =>
      (∃ v, e = .returned (.tuple #[v, .int .i64 (liD f t l).1]) ∧ v.oneCell' = true ∧ ((liD f t l).1 = 0 → (∃ A c, v = .slice A (liD f t l).2.1.length c ∧ (liD f t l).2.1.length < 65536 ∧ (0 < (liD f t l).2.1.length → ∃ g' o, A = some ⟨g', o, none⟩ ∧ w.heap.size ≤ g' ∧ g' < w'.heap.size ∧ HasLP w' (fun b => w.heap.size ≤ b) g' o (liD f t l).2.1)) ∧ Rd w' lo B h g (liD f t l).2.2 0)) ∧ w.grownBy w' (some g) := by
  have SZ := Lib.hid (rsize_any r T hgl 6 t (by omega) (by omega) ht)
  have SZ' : Hid (Calls Tryd.prog 70 #[.pointer (some ⟨h, 0, none⟩), .int .i64 6, .int .u8 (t : Int)] w fun e w' => (∃ n0 : Int, e = .returned (.tuple #[.int .i64 n0, .int .i64 (szD 6 t l).1]) ∧ ((szD 6 t l).1 = 0 → n0 = ((szD 6 t l).2.1 : Int) ∧ Rd w' lo B h g (szD 6 t l).2.2 0)) ∧ w.grownBy w' (some g)) := SZ
  clear SZ
  have HT : Hid (∀ w', w.grownBy w' (some g) → Sizes w') := Lib.hid fun w' gr => T.grown gr (by have := r.low; omega)
  have HLOW := Lib.hid r.low
  have hbd := szD_bd 6 t l ht
  have e : liD f t l = if (szD 6 t l).1 ≠ 0 then ((szD 6 t l).1, [], []) else decL (decV f) (szD 6 t l).2.1 (szD 6 t l).2.2 := rfl
  obtain ⟨D, hD⟩ : ∃ D, D = liD f t l := ⟨_, rfl⟩
  rw [← hD] at e ⊢
  generalize szD 6 t l = z at *
  obtain ⟨er, n, L⟩ := z
  simp only at SZ' e hbd
  have HE := Lib.hid e
  have HBD := Lib.hid hbd
  obtain ⟨dp, hdp⟩ : ∃ dp : Int, dp = 16 - (f : Int) := ⟨_, rfl⟩
  obtain ⟨dq, hdq⟩ : ∃ dq : Int, dq = 17 - (f : Int) := ⟨_, rfl⟩
  have e1 : dp + 1 = dq := by omega
  have e2 : IntKind.i64.wrap (dp + 1) = dq := by rw [IntKind.wrap_i64]; omega
  have e3 : IntKind.i64.wrap dq = dq := by rw [IntKind.wrap_i64]; omega
  have OK' := Lib.hid OK
  unfold RdOK at OK'
  rw [← hdq] at OK'
  rw [← hdp]
  obtain ⟨dec, hdec⟩ : ∃ dec, dec = decV f := ⟨_, rfl⟩
  rw [← hdec] at OK' HE
  have HGL := Lib.hid hgl
  clear e r T ht hD hbd hdp hdq OK hdec hf hgl
  by_cases hz : er = 0
  · subst hz
    have e4 : D = decL dec n L := by rw [HE.out, if_neg (by decide)]
    have HE2 := Lib.hid e4
    have d3 : (n : Int) ≤ 65535 := by have := HBD.out; omega
    clear e4 HE
    go_enter Tryd.func54, Tryd.ntmps54
    go_wp2_with fail
    refine SZ'.out.mono ?_
    rintro e w1 ⟨⟨n0, rfl, hn0⟩, gr1⟩
    obtain ⟨rfl, r1⟩ := hn0 (by trivial)
    have R1 := Lib.hid r1
    have GR := Lib.hid gr1
    clear r1 gr1 SZ' hn0
    go_wp2_with fail
    go_loopw [10, 23] (fun lv iv wr => ∃ j : Nat, j ≤ n ∧ iv = .int .i64 j ∧ Hid (∃ acc xs lj, acc.length = j ∧ wr.ownsRow w1.heap.size 26 6 lv j xs ∧ HasR wr (fun b => w1.heap.size ≤ b ∧ lv.ownBlock ≠ some b) acc xs ∧ Rd wr lo B h g lj 0 ∧ w1.grownBy wr (some g) ∧ D = preL acc (decL dec (n - j) lj))) (fun _ iv _ => n - (intOf iv).toNat)
    case atStart => exact ⟨0, by omega, rfl, [], [], L, rfl, World.ownsRow_nil _ _ _ _, rfl, R1.out, World.grownBy.refl _ _, by rw [HE2.out, Nat.sub_zero, preL_nil]⟩
    case round =>
      obtain ⟨j, hj, rfl, acc, xs, lj, hacc, own, hR, rj, grj, hDj⟩ := hrel
      by_cases hlt : j < n
      · have d1 : (j : Int) < (n : Int) := by omega
        have d2 : (0 : Int) ≤ (j : Int) := by omega
        have VL := Lib.hid (OK'.out wr lo B h g lj rj (HT.out _ (grown_trans GR.out grj)) HGL.out)
        have OWN := Lib.hid own
        have HR := Lib.hid hR
        have GRJ := Lib.hid grj
        have HDJ := Lib.hid hDj
        have HACC := Lib.hid hacc
        have HLT := Lib.hid hlt
        clear own hR grj hDj hacc hlt rj hj
        obtain ⟨E, hE⟩ : ∃ E, E = dec lj := ⟨_, rfl⟩
        rw [← hE] at VL
        have HEE := Lib.hid hE
        clear hE
        go_wp2_with fail
        refine VL.out.mono ?_
        rintro e w2 ⟨⟨cs, rfl, hc6, hall, hok⟩, gr2⟩
        obtain ⟨gx, hgx⟩ : ∃ gx, gx = w2.heap.size := ⟨_, rfl⟩
        have ALL := Lib.hid hall
        have C6 := Lib.hid hc6
        have HOK := Lib.hid hok
        have GR2 := Lib.hid gr2
        have BS := build1 cs hc6

        clear hall hok gr2 VL
        go_upto_region 8 with (first
          | (guard_target =~ wpList _ _ _ (Oper.mk none (Op.store _ _ _) _ _ _ _ :: _) _ _; go_must (refine wpList_store_rowTo rfl 26 (.tmp 11) (.tmp 30) rfl rfl w2.heap.size cs.toArray rfl rfl 26 _ (heap_alloc_new w2 _) (by rw [sizeValue]; simp [C6.out]) (by simp [C6.out]) ALL.out ?_)))
        obtain ⟨w3, hw3⟩ : ∃ w3, w3 = (w2.alloc (.cells #[.int .i64 0, .int .i64 0, .slice none 0 0, .string ⟨#[]⟩, .slice none 0 0, .slice none 0 0] 26)).setRow w2.heap.size cs.toArray := ⟨_, rfl⟩
        have s3 : Still w2 w3 := by rw [hw3]; exact below_setRow ((Still.refl w2).alloc (Nat.le_refl _) _) (Nat.le_refl _) _
        have bx : Blk w3 gx 26 cs.toArray := by rw [hw3, hgx]; exact setRow_heap _ _ _ _ _ _ (heap_alloc_new w2 _)
        rw [← hw3, ← hgx]
        have S3 := Lib.hid s3
        have BX := Lib.hid bx
        have HGX := Lib.hid hgx
        clear hw3 s3 bx hgx
        obtain ⟨er, tr, lr⟩ := E
        simp only at HOK ⊢
        by_cases h0 : er = 0
        · subst h0
          obtain ⟨hv, r2⟩ := HOK.out (by trivial)
          have RR2 := Lib.hid r2
          have HV := Lib.hid hv
          clear hv r2
          have G3 := Lib.hid (grown_trans GRJ.out (grown_trans GR2.out (grown_of_still S3.out)))
          obtain ⟨w4, hw4⟩ : ∃ w4, w4 = w3.alloc (.cells cs.toArray 26) := ⟨_, rfl⟩
          have s4 : Still w3 w4 := by rw [hw4]; exact (Still.refl w3).alloc (Nat.le_refl _) _
          have b4 : Blk w4 w3.heap.size 26 cs.toArray := by rw [hw4]; exact Blk.new _ _ _
          have own4 : w4.ownsRow w1.heap.size 26 6 u10 j xs := OWN.out.kept (grown_trans GR2.out (grown_of_still (S3.out.trans s4)) : wr.grownBy w4 (some g)) (.inr (fun e => by have h1 := OWN.out.lt g e; have h2 := HLOW.out; have h3 := GR.out.size; omega))
          have S4 := Lib.hid s4
          have B4 := Lib.hid b4
          have OW4 := Lib.hid own4
          have HW4 := Lib.hid hw4
          clear s4 b4 own4 hw4
          go_upto_region 11 with (first
            | (guard_target =~ wpList _ _ _ (Oper.mk (some 36) _ _ _ _ _ :: _) _ _; go_must (refine wpList_load_row rfl 26 (.tmp 11) rfl gx rfl _ _ _ _ BX.out (Tryd.underlying26) rfl (by rw [sizeValue]; simp [C6.out]) ?_))
            | (at_builtin; go_must (rw [← HW4.out]; refine wpList_pushV w4 rfl _ _ rfl w1.heap.size _ j xs rfl OW4.out w3.heap.size cs rfl (fun q u hq => (B4.out.cell q).trans (by simpa using hq)) C6.out (fun u hu => (Array.all_eq_true_iff_forall_mem.1 ALL.out) u (by simpa using hu)) (by have := HLT.out; have := HBD.out; omega) ?c1 ?_)))
          case c1 => have h1 := G3.out.size; have h2 := S4.out.size; omega
          intro v5 w5 own5 gr5 loc5
          have z1 : w1.heap.size ≤ wr.heap.size := GRJ.out.size
          have z2 : wr.heap.size ≤ w2.heap.size := GR2.out.size
          have z3 : w2.heap.size ≤ w3.heap.size := S3.out.size
          have z4 : w3.heap.size ≤ w4.heap.size := S4.out.size
          have zg : g < w1.heap.size := by have h2 := HLOW.out; have h3 := GR.out.size; omega
          have old : ∀ b, u10.ownBlock = some b → w1.heap.size ≤ b ∧ b < wr.heap.size := fun b e => OWN.out.lt b e
          have new : ∀ b, v5.ownBlock = some b → (u10.ownBlock = some b ∨ b = w4.heap.size) := fun b e => by
            rcases loc5 with h | h
            · exact .inl (h ▸ e)
            · rw [h] at e; exact .inr (Option.some.inj e).symm
          have R5 : HasR w5 (fun b => w1.heap.size ≤ b ∧ v5.ownBlock ≠ some b) acc xs := by
            refine HasR.keep (w := wr) (w' := w5) (fun b hb hlt => ?_) (by have := gr5.size; omega) (fun b hb hlt => ⟨hb.1, fun e => ?_⟩) _ _ HR.out
            · rw [gr5.block b (by omega) (fun e => hb.2 e.symm), S4.out.block b (by omega), S3.out.block b (by omega)]
              exact GR2.out.block b hlt (fun e => by have := Option.some.inj e; omega)
            · rcases new b e with h | h
              · exact hb.2 h
              · omega
          have V5 : HasP w5 (fun b => w1.heap.size ≤ b ∧ v5.ownBlock ≠ some b) tr cs.toArray := by
            refine HasP.keep (w := w2) (w' := w5) (fun b hb hlt => ?_) (by have := gr5.size; omega) (fun b hb hlt => ⟨by omega, fun e => ?_⟩) _ _ HV.out
            · rw [gr5.block b (by omega) (fun e => by have := (old b e.symm).2; omega), S4.out.block b (by omega), S3.out.block b (by omega)]
            · rcases new b e with h | h
              · have := (old b h).2; omega
              · omega
          have RD5 : Rd w5 lo B h g lr 0 := ((RR2.out.still S3.out).still S4.out).below ((Below.refl _ _).grown gr5 (by have := HLOW.out; have := GR.out.size; omega) (fun k hk => by have h1 := (old k hk).1; have h2 := HLOW.out; have h3 := GR.out.size; omega))
          have G5 : w1.grownBy w5 (some g) := by
            have g4 := grown_trans G3.out (grown_of_still (r := some g) S4.out)
            exact ⟨gr5.os.trans g4.os, gr5.tape.trans g4.tape, gr5.output.trans g4.output, Nat.le_trans g4.size gr5.size, fun k hk hne => (gr5.block k (by omega) (fun e => by have := (old k e.symm).1; omega)).trans (g4.block k hk hne)⟩
          have D5 : D = preL (acc ++ [tr]) (decL dec (n - (j + 1)) lr) := by
            rw [HDJ.out, show n - j = (n - (j + 1)) + 1 by have := HLT.out; omega, preL_step, ← HEE.out, if_neg (show ¬ (0 : Int) ≠ 0 by decide)]
          have ACC := Lib.hid (show ∃ acc xs lj, acc.length = j + 1 ∧ w5.ownsRow w1.heap.size 26 6 v5 (j + 1) xs ∧ HasR w5 (fun b => w1.heap.size ≤ b ∧ v5.ownBlock ≠ some b) acc xs ∧ Rd w5 lo B h g lj 0 ∧ w1.grownBy w5 (some g) ∧ D = preL acc (decL dec (n - (j + 1)) lj) from
            ⟨acc ++ [tr], xs ++ cs, lr, by rw [List.length_append, HACC.out]; rfl, own5, HasR.snoc V5 C6.out _ _ R5, RD5, G5, D5⟩)
          clear own5 gr5 loc5 old new R5 V5 RD5 G5 D5 z1 z2 z3 z4 zg
          go_wp2_with fail
          go_roundw
          case rel => exact ⟨j + 1, by have := HLT.out; omega, by go_num, ACC.out⟩
          case measure => simp [intOf]; have := HLT.out; omega
        · have d5 : (er != 0) = true := by simpa using h0
          have HDE := Lib.hid (show D = (er, [], []) by
            rw [HDJ.out, show n - j = (n - (j + 1)) + 1 by have := HLT.out; omega, preL_step, ← HEE.out, if_pos h0])
          have H0 := Lib.hid h0
          clear h0
          go_wp2_with fail
          (try simp only [Exit.inBlock, Exit.then])
          go_ret2
          rw [HDE.out]
          exact ⟨⟨_, rfl, rfl, fun h => absurd h H0.out⟩, grown_trans GR.out (grown_trans GRJ.out (grown_trans GR2.out (grown_of_still S3.out)))⟩
      · obtain rfl : j = n := by omega
        have hD : D = (0, acc, lj) := by
          rw [hDj, Nat.sub_self]
          unfold decL preL
          simp
        have HD := Lib.hid hD
        have OWN := Lib.hid own
        have HR := Lib.hid hR
        have RJ := Lib.hid rj
        have GRJ := Lib.hid grj
        have HACC := Lib.hid hacc
        clear hD own hR rj grj hacc hDj hlt
        go_wp2_with fail
        go_ret2
        rw [HD.out]
        have hsz : w.heap.size ≤ w1.heap.size := GR.out.size
        have hP := HasR.keep (w := wr) (w' := wr) (Q := fun b => w.heap.size ≤ b) (fun _ _ _ => rfl) (Nat.le_refl _) (fun b hb _ => by have := hb.1; omega) _ _ HR.out
        rcases OWN.out.2 with ⟨hv, hn⟩ | ⟨g', cap, cur, hv, hlo, hgb, _⟩
        · have hz0 : acc.length = 0 := by rw [HACC.out, hn]
          refine ⟨⟨u10, rfl, by rw [hv]; rfl, fun _ => ⟨⟨none, 0, by rw [hv, hz0], by rw [hz0]; decide, fun h => absurd h (by rw [hz0]; omega)⟩, RJ.out⟩⟩, grown_trans GR.out GRJ.out⟩
        · refine ⟨⟨u10, rfl, by rw [hv]; rfl, fun _ => ⟨⟨some ⟨g', 0, none⟩, cap, by rw [hv, HACC.out], by rw [HACC.out]; exact HBD.out, fun _ => ⟨g', 0, rfl, by omega, (Array.getElem?_eq_some_iff.1 hgb).1, ?_⟩⟩, RJ.out⟩⟩, grown_trans GR.out GRJ.out⟩
          have OW2 := OWN.out
          rw [hv] at OW2
          exact HasR.toL _ _ 0 hP fun i v hi => by
            rw [Nat.zero_add]
            have hl := OW2.1
            have hil := (List.getElem?_eq_some_iff.1 hi).1
            exact (OW2.cellAt i (by omega)).trans hi
  · have e4 : D = (er, [], []) := by rw [HE.out, if_pos hz]
    have HE2 := Lib.hid e4
    have HZ := Lib.hid hz
    have hz' : (er != 0) = true := by simpa using hz
    clear e4 HE hz
    go_enter Tryd.func54, Tryd.ntmps54
    go_wp2_with fail
    refine SZ'.out.mono ?_
    rintro e w1 ⟨⟨n0, rfl, hn0⟩, gr1⟩
    have GR := Lib.hid gr1
    clear gr1 SZ' hn0
    go_wp2_with fail
    (try simp only [Exit.inBlock, Exit.then])
    go_ret2
    rw [HE2.out]
    exact ⟨⟨_, rfl, rfl, fun h => absurd h HZ.out⟩, GR.out⟩
end Go.Proofs.YtmpnehhndhepgaaDoor

/- Contract: a number read behind its tag, whatever bytes there are. It proves no statement. -/


namespace Go.Proofs.YtmpnehhndhepgaaDoor
open Go.RowKit
set_option linter.unusedVariables false
set_option linter.unusedSimpArgs false

set_option maxRecDepth 100000 in
set_option maxHeartbeats 3200000 in
theorem rnum_no {w : World} {lo B h g : Nat} {l : List UInt8} (r : Rd w lo B h g l 0) (t : Nat) (ht : t < 256) (h1 : 1 ≤ bh t) (hs : l.length < bh t) :
    Calls Tryd.prog 51 #[.pointer (some ⟨h, 0, none⟩), .int .u8 (t : Int)] w fun e w' => e = .returned (.tuple #[.int .i64 0, .int .i64 3]) ∧ w.grownBy w' (some g) := by
  have BG := Lib.hid (rbig_no r (bh t) hs)
  have BH := Lib.hid (fun w => behind_any t w)
  obtain ⟨k, hk⟩ : ∃ k, k = bh t := ⟨_, rfl⟩
  have hkc := bh_cases t
  rw [← hk] at BG BH hkc h1
  have hkc2 : k = 1 ∨ k = 2 ∨ k = 4 ∨ k = 8 := by omega
  have NT := Lib.hid (fun w => numTag_any 0 w (by decide) (by decide))
  obtain ⟨y, hy⟩ : ∃ y, y = nt 0 := ⟨_, rfl⟩
  rw [← hy] at NT
  obtain ⟨b, hb⟩ : ∃ b, b = ((y : Int) == (t : Int)) := ⟨_, rfl⟩
  have HB := Lib.hid hb
  have FT := Lib.hid (fun (w' : World) (q : Rd w' lo B h g l 3) => fits_bad q (by decide) b)
  clear hk hs hy hb hkc r ht
  by_cases hc : 208 ≤ t
  · have d1 : 208 ≤ (t : Int) := by omega
    rcases hkc2 with rfl | rfl | rfl | rfl
    all_goals
      clear hc h1
      go_enter Tryd.func51, Tryd.ntmps51
      go_wp2_with fail
      refine (BH.out _).mono ?_
      rintro e w1 ⟨rfl, rfl⟩
      go_wp2_with fail
      refine BG.out.mono ?_
      rintro e w1 ⟨rfl, r1, gr1⟩
      have R1 := Lib.hid r1
      have GR := Lib.hid gr1
      clear r1 gr1
      go_wp2_with fail
      refine (NT.out _).mono ?_
      rintro e w2 ⟨rfl, s2⟩
      have R2 := Lib.hid (R1.out.still s2)
      have S2 := Lib.hid s2
      clear s2
      have hbs : ((y : Int) == (t : Int)) = b := HB.out.symm
      go_wp2_with fail
      refine (FT.out _ R2.out).mono ?_
      rintro e w3 ⟨rfl, rfl⟩
      go_wp2_with fail
      go_ret2
      exact ⟨rfl, grown_trans GR.out (grown_of_still S2.out)⟩
  · have d1 : ¬ 208 ≤ (t : Int) := by omega
    have dk : ¬ ((k : Int) = 0) := by omega
    clear hc hkc2
    go_enter Tryd.func51, Tryd.ntmps51
    go_wp2_with fail
    refine (BH.out _).mono ?_
    rintro e w1 ⟨rfl, rfl⟩
    go_wp2_with fail
    refine BG.out.mono ?_
    rintro e w1 ⟨rfl, r1, gr1⟩
    have R1 := Lib.hid r1
    have GR := Lib.hid gr1
    clear r1 gr1
    go_wp2_with fail
    refine (NT.out _).mono ?_
    rintro e w2 ⟨rfl, s2⟩
    have R2 := Lib.hid (R1.out.still s2)
    have S2 := Lib.hid s2
    clear s2
    have hbs : ((y : Int) == (t : Int)) = b := HB.out.symm
    go_wp2_with fail
    refine (FT.out _ R2.out).mono ?_
    rintro e w3 ⟨rfl, rfl⟩
    go_wp2_with fail
    go_ret2
    exact ⟨rfl, grown_trans GR.out (grown_of_still S2.out)⟩

theorem rnum_any {w : World} {lo B h g : Nat} {l : List UInt8} (r : Rd w lo B h g l 0) (t : Nat) (ht : t < 256) (hk : kd t = 3) :
    Calls Tryd.prog 51 #[.pointer (some ⟨h, 0, none⟩), .int .u8 (t : Int)] w fun e w' => (∃ x0 : Int, e = .returned (.tuple #[.int .i64 x0, .int .i64 (nuD t l).1]) ∧ ((nuD t l).1 = 0 → x0 = (nuD t l).2.1 ∧ Rd w' lo B h g (nuD t l).2.2 0)) ∧ w.grownBy w' (some g) := by
  unfold nuD
  by_cases hb : bh t = 0
  · rw [if_pos hb]
    have hh : ((List.range 256).all fun t => decide (kd t = 3 → bh t = 0 → -32 ≤ IntKind.i8.wrap (t : Int) ∧ IntKind.i8.wrap (t : Int) ≤ 127)) = true := by decide +kernel
    rw [List.all_eq_true] at hh
    obtain ⟨q1, q2⟩ := of_decide_eq_true (hh t (List.mem_range.2 ht)) hk hb
    refine (rnum_zero _ w t hb _ rfl q1 q2).mono ?_
    rintro e w' ⟨rfl, rfl⟩
    exact ⟨⟨_, rfl, fun _ => ⟨rfl, r⟩⟩, World.grownBy.refl _ _⟩
  · rw [if_neg hb]
    by_cases hs : l.length < bh t
    · rw [if_pos hs]
      refine (rnum_no r t ht (by omega) hs).mono ?_
      rintro e w' ⟨rfl, gr⟩
      exact ⟨⟨_, rfl, fun h => absurd h (by decide)⟩, gr⟩
    · rw [if_neg hs]
      refine (rnum_yes r t ht (by omega) (by omega) _ rfl).mono ?_
      rintro e w' ⟨rfl, r', gr⟩
      refine ⟨⟨_, ?_, fun _ => ⟨rfl, r'⟩⟩, gr⟩
      by_cases c : nt (decK (decide (208 ≤ t)) (bh t) (leNum (l.take (bh t)).reverse)) = t
      · rw [if_pos (by rw [c]; simp), if_pos c]
      · rw [if_neg (by simpa using fun h => c (by exact_mod_cast h)), if_neg c]
end Go.Proofs.YtmpnehhndhepgaaDoor
