/- Contracts: the reader of values: a tag, a number's bytes, whether it fits. It proves no statement. -/
import Derived.Test.YtomhpnomcciniaaDoorPackEncInt
import Derived.Test.YtomhpnomcciniaaDoorGetBig
import Derived.Test.YtomhpnomcciniaaDoorGet
import Derived.Laws.ResultCell
namespace Go.Proofs.YtomhpnomcciniaaDoor
open Go.RowKit
set_option linter.unusedVariables false
set_option linter.unusedSimpArgs false

section
variable {w w' w'' : World} {lo B g : Nat} {A : Option Addr} {n c : Nat} {l : List UInt8} {x : Int}
theorem grown_trans {r : Option Nat} (a : w.grownBy w' r) (b : w'.grownBy w'' r) : w.grownBy w'' r :=
  ⟨b.os.trans a.os, b.tape.trans a.tape, b.output.trans a.output, Nat.le_trans a.size b.size, fun k hk hr => (b.block k (Nat.lt_of_lt_of_le hk a.size) hr).trans (a.block k hk hr)⟩
theorem grown_of_still {r : Option Nat} (b : Still w w') : w.grownBy w' r := ⟨b.os, b.tape, b.output, b.size, fun k hk _ => b.block k hk⟩
theorem Live.below (h : Live w lo B g A n c l x) (s : Below B w w') : Live w' lo B g A n c l x := by
  refine ⟨(s.block g h.high).trans h.blk, h.low, h.high, h.reads.below s, fun hn => ?_, h.fit, h.cap, h.nil⟩
  obtain ⟨b, o, e, hb, hf⟩ := h.mine hn
  obtain ⟨b', o', e', hlt, _⟩ := h.reads.2 hn
  rw [e] at e'
  simp only [Option.some.injEq, Addr.mk.injEq, and_true] at e'
  obtain ⟨rfl, rfl⟩ := e'
  exact ⟨b, o, e, hb, fun i hi => (World.frozen?_of_block (w := w) (s.block b hlt)).trans (hf i hi)⟩
end

/-- The reader of values at block h, over the reader of bytes at block g, all below block B: the bytes l are left, the error is x. -/
def Rd (w : World) (lo B h g : Nat) (l : List UInt8) (x : Int) : Prop :=
  lo ≤ h ∧ h < B ∧ h ≠ g ∧ lo ≤ g ∧ B ≤ w.heap.size ∧ Blk w h 61 #[.pointer (some ⟨g, 0, none⟩)] ∧ LiveAny w lo B g l x
section
variable {w w' : World} {lo B h g : Nat} {l l' : List UInt8} {x x' : Int}
theorem Rd.below (r : Rd w lo B h g l x) (s : Below B w w') : Rd w' lo B h g l x := by
  obtain ⟨h1, h0, h2, h3, hB, hb, A, n, c, lv⟩ := r
  exact ⟨h1, h0, h2, h3, Nat.le_trans hB s.size, (s.block h h0).trans hb, A, n, c, lv.below s⟩
theorem Rd.still (r : Rd w lo B h g l x) (s : Still w w') : Rd w' lo B h g l x := r.below (s.mono r.2.2.2.2.1)
theorem Rd.cell (r : Rd w lo B h g l x) : w.cell? ⟨h, 0, none⟩ = some (.pointer (some ⟨g, 0, none⟩)) := r.2.2.2.2.2.1.cell 0
theorem Rd.next (r : Rd w lo B h g l x) (gr : w.grownBy w' (some g)) (n : LiveAny w' lo B g l' x') : Rd w' lo B h g l' x' := by
  obtain ⟨h1, h0, h2, h3, hB, hb, lv⟩ := r
  exact ⟨h1, h0, h2, h3, Nat.le_trans hB gr.size, (gr.block h hb.lt (fun e => h2 (Option.some.inj e))).trans hb, n⟩
theorem Rd.low (r : Rd w lo B h g l x) : lo ≤ g ∧ g < B ∧ B ≤ w.heap.size ∧ h < B := by
  obtain ⟨h1, h0, h2, h3, hB, hb, A, n, c, lv⟩ := r
  exact ⟨h3, lv.high, hB, h0⟩
theorem Rd.live (r : Rd w lo B h g l x) : LiveAny w lo B g l x := r.2.2.2.2.2.2
end

/-- What a reader of bytes does: so many are taken. -/
theorem rd_num_no {w : World} {lo B h g : Nat} {l : List UInt8} (r : Rd w lo B h g l 0) (k : Nat) (h1 : 1 ≤ k) (h8 : k ≤ 8) (hs : l.length < k) :
    Calls Tryd.prog 68 #[.pointer (some ⟨g, 0, none⟩), .int .i64 k] w fun e w' => e = .returned (.int .u64 0) ∧ Rd w' lo B h g l 3 ∧ w.grownBy w' (some g) := by
  have lv := r.live
  refine (num_any lv k).mono ?_
  rintro e w' ⟨he, lv', gr⟩
  rw [rstep_short l k true (by simp; omega) (by omega)] at he lv'
  exact ⟨he, r.next gr lv', gr⟩
theorem rd_num_yes {w : World} {lo B h g : Nat} {l : List UInt8} (r : Rd w lo B h g l 0) (k : Nat) (h1 : 1 ≤ k) (h8 : k ≤ 8) (hs : k ≤ l.length) :
    Calls Tryd.prog 68 #[.pointer (some ⟨g, 0, none⟩), .int .i64 k] w fun e w' => e = .returned (.int .u64 (leNum (l.take k) : Nat)) ∧ Rd w' lo B h g (l.drop k) 0 ∧ w.grownBy w' (some g) := by
  have lv := r.live
  refine (num_any lv k).mono ?_
  rintro e w' ⟨he, lv', gr⟩
  rw [rstep_ok l k true (by simp; omega) hs] at he lv'
  exact ⟨he, r.next gr lv', gr⟩
theorem rd_bytes_no {w : World} {lo B h g : Nat} {l : List UInt8} (r : Rd w lo B h g l 0) (k : Nat) (hs : l.length < k) :
    Calls Tryd.prog 73 #[.pointer (some ⟨g, 0, none⟩), .int .i64 k] w fun e w' => (∃ A1, e = .returned (.slice A1 0 0)) ∧ Rd w' lo B h g l 3 ∧ w.grownBy w' (some g) := by
  have lv := r.live
  refine (bytes_any lv k).mono ?_
  rintro e w' ⟨A1, m, A', n', c', he, lv', _, rd, _, nn, gr⟩
  rw [rstep_short l k false (by simp) (by omega)] at lv' rd
  have hm : m = 0 := by have := rd.1; simp at this; omega
  subst hm
  exact ⟨⟨A1, he⟩, r.next gr ⟨A', n', c', lv'⟩, gr⟩
theorem rd_bytes_yes {w : World} {lo B h g : Nat} {l : List UInt8} (r : Rd w lo B h g l 0) (k : Nat) (hs : k ≤ l.length) :
    Calls Tryd.prog 73 #[.pointer (some ⟨g, 0, none⟩), .int .i64 k] w fun e w' => (∃ A1, e = .returned (.slice A1 k k) ∧ Reads w' w'.heap.size A1 k (l.take k) ∧ (A1 = none → k = 0)) ∧ Rd w' lo B h g (l.drop k) 0 ∧ w.grownBy w' (some g) := by
  have lv := r.live
  refine (bytes_any lv k).mono ?_
  rintro e w' ⟨A1, m, A', n', c', he, lv', _, rd, _, nn, gr⟩
  rw [rstep_ok l k false (by simp) hs] at lv' rd
  have hm : m = k := by have := rd.1; simp at this; omega
  subst hm
  exact ⟨⟨A1, he, rd.more (Nat.le_trans r.low.2.2.1 gr.size), nn⟩, r.next gr ⟨A', n', c', lv'⟩, gr⟩
theorem rd_err {w : World} {lo B h g : Nat} {l : List UInt8} {x : Int} (r : Rd w lo B h g l x) :
    Calls Tryd.prog 57 #[.pointer (some ⟨g, 0, none⟩)] w fun e w' => e = .returned (.int .i64 x) ∧ w = w' := by
  obtain ⟨A, n, c, lv⟩ := r.live
  exact err_live lv

/-- A first byte. -/
theorem tag_yes {w : World} {lo B h g : Nat} {l : List UInt8} (t : UInt8) (r : Rd w lo B h g (t :: l) 0) :
    Calls Tryd.prog 50 #[.pointer (some ⟨h, 0, none⟩)] w fun e w' => e = .returned (.tuple #[.int .u8 (t.toNat : Int), .int .i64 0]) ∧ Rd w' lo B h g l 0 ∧ w.grownBy w' (some g) := by
  have c0 := r.cell
  have N := rd_num_yes r 1 (by omega) (by omega) (by simp)
  have e1 : leNum ((t :: l).take 1) = t.toNat := by simp [leNum]
  rw [e1] at N
  have htl := t.toNat_lt
  have e2 : IntKind.u8.wrap (t.toNat : Int) = (t.toNat : Int) := by rw [IntKind.wrap_u8]; omega
  have NN := Lib.hid N
  clear N e1 r htl
  generalize t.toNat = tt at *
  go_enter Tryd.func50, Tryd.ntmps50
  go_wp2_with fail
  refine NN.out.mono ?_
  rintro e w1 ⟨rfl, r1, gr1⟩
  have c1 := r1.cell
  have EE := Lib.hid (rd_err r1)
  have R1 := Lib.hid r1
  have GR := Lib.hid gr1
  clear r1 gr1 c0 NN
  go_wp2_with fail
  refine EE.out.mono ?_
  rintro e w2 ⟨rfl, rfl⟩
  go_wp2_with fail
  go_ret2
  exact ⟨rfl, R1.out, GR.out⟩

/-- A number's bytes, the highest first: there are so many. -/
theorem rbig_yes {w : World} {lo B h g : Nat} {l : List UInt8} (r : Rd w lo B h g l 0) (k : Nat) (h1 : 1 ≤ k) (h8 : k ≤ 8) (hs : k ≤ l.length) :
    Calls Tryd.prog 69 #[.pointer (some ⟨h, 0, none⟩), .int .i64 k] w fun e w' => e = .returned (.int .u64 (leNum (l.take k).reverse : Nat)) ∧ Rd w' lo B h g (l.drop k) 0 ∧ w.grownBy w' (some g) := by
  have c0 := r.cell
  have N := Lib.hid (rd_bytes_yes r k hs)
  obtain ⟨y, hy⟩ : ∃ y, y = leNum (l.take k).reverse := ⟨_, rfl⟩
  rw [← hy]
  have HY := Lib.hid hy
  clear hy r hs
  go_enter Tryd.func69, Tryd.ntmps69
  go_wp2_with fail
  refine N.out.mono ?_
  rintro e w1 ⟨⟨A1, rfl, q1, _⟩, r1, gr1⟩
  have G := Lib.hid (getbig_yes A1 k k _ w1 _ q1 h1 h8)
  rw [← HY.out] at G
  have R1 := Lib.hid r1
  have GR := Lib.hid gr1
  clear r1 gr1 q1 c0 N
  go_wp2_with fail
  refine G.out.mono ?_
  rintro e w2 ⟨rfl, rfl⟩
  go_wp2_with fail
  go_ret
  exact ⟨rfl, R1.out, GR.out⟩
/-- A number's bytes: they end too early. -/
theorem rbig_no {w : World} {lo B h g : Nat} {l : List UInt8} (r : Rd w lo B h g l 0) (k : Nat) (hs : l.length < k) :
    Calls Tryd.prog 69 #[.pointer (some ⟨h, 0, none⟩), .int .i64 k] w fun e w' => e = .returned (.int .u64 0) ∧ Rd w' lo B h g l 3 ∧ w.grownBy w' (some g) := by
  have c0 := r.cell
  have N := Lib.hid (rd_bytes_no r k hs)
  clear r hs
  go_enter Tryd.func69, Tryd.ntmps69
  go_wp2_with fail
  refine N.out.mono ?_
  rintro e w1 ⟨⟨A1, rfl⟩, r1, gr1⟩
  have G := Lib.hid (getbig_no A1 0 0 w1 (by omega))
  have R1 := Lib.hid r1
  have GR := Lib.hid gr1
  clear r1 gr1 c0 N
  go_wp2_with fail
  refine G.out.mono ?_
  rintro e w2 ⟨rfl, rfl⟩
  go_wp2_with fail
  go_ret
  exact ⟨rfl, R1.out, GR.out⟩
theorem fits_bad {w : World} {lo B h g : Nat} {l : List UInt8} {x : Int} (r : Rd w lo B h g l x) (hx : x ≠ 0) (b : Bool) :
    Calls Tryd.prog 70 #[.pointer (some ⟨h, 0, none⟩), .bool b] w fun e w' => e = .returned (.int .i64 x) ∧ w = w' := by
  have c0 := r.cell
  have N := Lib.hid (rd_err r)
  clear r
  go_enter Tryd.func70, Tryd.ntmps70
  go_wp2_with fail
  refine N.out.mono ?_
  rintro e w1 ⟨rfl, rfl⟩
  go_wp2_with fail
  go_ret
  exact ⟨rfl, rfl⟩
theorem fits_is {w : World} {lo B h g : Nat} {l : List UInt8} (r : Rd w lo B h g l 0) (b : Bool) :
    Calls Tryd.prog 70 #[.pointer (some ⟨h, 0, none⟩), .bool b] w fun e w' => e = .returned (.int .i64 (if b = true then 0 else 4)) ∧ w = w' := by
  have c0 := r.cell
  have N := Lib.hid (rd_err r)
  clear r
  cases b
  all_goals
    go_enter Tryd.func70, Tryd.ntmps70
    go_wp2_with fail
    refine N.out.mono ?_
    rintro e w1 ⟨rfl, rfl⟩
    go_wp2_with fail
    go_ret
    exact ⟨rfl, rfl⟩
end Go.Proofs.YtomhpnomcciniaaDoor
