/- Contracts: a finder of ends. It proves no statement. -/
import Derived.Test.YtjihnagoebhinaaCtCheck
import Derived.Test.YtjihnagoebhinaaRlHad
import Derived.Test.YtjihnagoebhinaaChg
namespace Go.Proofs.Ytjihnagoebhinaa
open Go.RowKit
set_option linter.unusedVariables false
set_option linter.unusedSimpArgs false

def maskN (k : Nat) : Nat := 2 ^ k - 1
theorem mask_lt {k : Nat} (h : k ≤ 20) : 2 ^ k ≤ 1048576 := by
  have := Nat.pow_le_pow_right (show 0 < 2 by omega) h
  simpa using this
/-- A finder at f, its roller at r, of a chunk that goes on. -/
def FB (w : World) (f r : Nat) (s : Shp) (l : List UInt8) : Prop :=
  Blk w f 67 #[.int .i64 (s.lt : Nat), .int .i64 (s.mt : Nat), .int .u32 (maskN s.k : Nat), .pointer (some ⟨r, 0, none⟩), .int .i64 (l.length : Nat)] ∧ Had w r s.seed s.n l ∧ r ≠ f
section
variable {w w' : World} {f r : Nat} {s : Shp} {l : List UInt8}
theorem FB.chg {S : Nat → Prop} (h : FB w f r s l) (c : Chg w w' S) (h1 : ¬ S f) (h2 : ¬ S r) : FB w' f r s l :=
  ⟨c.blk h.1 h1, h.2.1.keepb (c.block r h.2.1.lt h2), h.2.2⟩
theorem FB.still (h : FB w f r s l) (c : Still w w') : FB w' f r s l := ⟨h.1.still c, h.2.1.still c, h.2.2⟩
theorem FB.size (h : FB w f r s l) (x : List UInt8) : Blk (w.setCell ⟨f, 4, none⟩ (.int .i64 (x.length : Nat))) f 67 #[.int .i64 (s.lt : Nat), .int .i64 (s.mt : Nat), .int .u32 (maskN s.k : Nat), .pointer (some ⟨r, 0, none⟩), .int .i64 (x.length : Nat)] := h.1.setc 4 _
end
theorem okZ_of {s : Shp} (hs : s.Ok) : okZ s.lt s.mt s.k s.n = true := by
  obtain ⟨h1, h2, h3, h4, h5, h6, h7⟩ := hs
  simp [okZ]
  omega
theorem begin_no (x y z u sd : Int) (w : World) (h : okZ x y z u = false) :
    Calls Try.prog 27 #[.agg #[.int .i64 x, .int .i64 y, .int .i64 z, .int .i64 u, .int .u32 sd]] w fun e w' => e = .returned (.tuple #[.pointer none, .int .i64 2]) ∧ Still w w' := by
  have st := (Still.refl w).alloc (Nat.le_refl _) (.cells #[.int .i64 x, .int .i64 y, .int .i64 z, .int .i64 u, .int .u32 sd] 24)
  have hb := Blk.new w 24 #[.int .i64 x, .int .i64 y, .int .i64 z, .int .i64 u, .int .u32 sd]
  have HC := Lib.hid (fun W => check_any x y z u sd W)
  rw [h] at HC
  simp only [Bool.false_eq_true, if_false] at HC
  have ST := Lib.hid st
  clear st h
  go_enter Try.func27, Try.ntmps27
  go_wp2_with fail
  refine (HC.out _).mono ?_
  rintro e w1 ⟨rfl, s1⟩
  have S1 := Lib.hid (Still.trans ST.out s1)
  clear s1
  go_wp2_with fail
  go_ret2
  exact ⟨rfl, S1.out⟩
set_option maxRecDepth 100000 in
set_option maxHeartbeats 1600000 in
theorem begin_yes (s : Shp) (hs : s.Ok) (w : World) :
    Calls Try.prog 27 #[.agg #[.int .i64 (s.lt : Nat), .int .i64 (s.mt : Nat), .int .i64 (s.k : Nat), .int .i64 (s.n : Nat), .int .u32 (s.seed : Nat)]] w fun e w' =>
      ∃ f r, e = .returned (.tuple #[.pointer (some ⟨f, 0, none⟩), .int .i64 0]) ∧ FB w' f r s [] ∧ Still w w' ∧ w.heap.size ≤ f ∧ w.heap.size ≤ r := by
  have st := (Still.refl w).alloc (Nat.le_refl _) (.cells #[.int .i64 (s.lt : Nat), .int .i64 (s.mt : Nat), .int .i64 (s.k : Nat), .int .i64 (s.n : Nat), .int .u32 (s.seed : Nat)] 24)
  have hb := Blk.new w 24 #[.int .i64 (s.lt : Nat), .int .i64 (s.mt : Nat), .int .i64 (s.k : Nat), .int .i64 (s.n : Nat), .int .u32 (s.seed : Nat)]
  have HC := Lib.hid (fun W => check_any s.lt s.mt s.k s.n s.seed W)
  rw [okZ_of hs] at HC
  simp only [if_true] at HC
  have HN := Lib.hid (fun W => had_new s.seed s.n W hs.seed (by have := hs.n1; omega) hs.n63)
  have hk := mask_lt hs.k20
  have hk2 := Nat.two_pow_pos s.k
  have s1 : IntKind.u32.wrap ((2 ^ s.k : Nat) : Int) = ((2 ^ s.k : Nat) : Int) := by rw [IntKind.wrap_u32']; omega
  have s2 : IntKind.u32.wrap (((2 ^ s.k : Nat) : Int) - 1) = (maskN s.k : Nat) := by rw [IntKind.wrap_u32']; unfold maskN; omega
  have OK := Lib.hid hs
  clear hs
  obtain ⟨lt, mt, k, n, seed⟩ := s
  simp only at *
  have z1 : (0 : Int) ≤ (k : Int) := by omega
  have ST := Lib.hid st
  have B := Lib.hid hb
  clear st hb
  go_enter Try.func27, Try.ntmps27
  go_wp2_with fail
  refine (HC.out _).mono ?_
  rintro e w1 ⟨rfl, t1⟩
  have S1 := Lib.hid (Still.trans ST.out t1)
  have B1 := Lib.hid (B.out.still t1)
  clear t1
  have b3 := B1.out.cell 3
  have b4 := B1.out.cell 4
  simp only [List.getElem?_toArray, List.getElem?_cons_succ, List.getElem?_cons_zero] at b3 b4
  go_wp2_with fail
  clear b3 b4
  refine (HN.out _).mono ?_
  rintro e w2 ⟨rfl, hr, t2⟩
  obtain ⟨r, hr0⟩ : ∃ r, r = w1.heap.size := ⟨_, rfl⟩
  rw [← hr0] at hr ⊢
  have HR := Lib.hid hr
  have HR0 := Lib.hid hr0
  have S2 := Lib.hid (Still.trans S1.out t2)
  have B2 := B1.out.still t2
  have SZ := Lib.hid S1.out.size
  clear t2 hr hr0
  have b0 := B2.cell 0
  have b1 := B2.cell 1
  have b2 := B2.cell 2
  simp only [List.getElem?_toArray, List.getElem?_cons_succ, List.getElem?_cons_zero] at b0 b1 b2
  clear B2
  go_wp2_with fail
  go_still_tail 10, (by kernel_rfl)
  · repeat still_step
    (try refine wpStill_nil ?_)
    change wpList _ _ _ _ _ w2.drew
    clear b0 b1 b2
    go_wp2_with fail
    go_ret2
    have k20 : k ≤ 20 := OK.out.k20
    have e1 : ((2 : Int) ^ min k 32 % 4294967296 - 1) % 4294967296 = ((maskN k : Nat) : Int) := by
      rw [show min k 32 = k by omega, show ((2 : Int) ^ k) = ((2 ^ k : Nat) : Int) by simp]
      unfold maskN
      omega
    rw [e1]
    have t3 : Still w2 (w2.alloc (.cells #[.int .i64 (lt : Nat), .int .i64 (mt : Nat), .int .u32 (maskN k : Nat), .pointer (some ⟨r, 0, none⟩), .int .i64 0] 67)).drew := ((Still.refl w2).alloc (Nat.le_refl _) _).drew
    refine ⟨w2.heap.size, r, rfl, ⟨Blk.new w2 _ _, HR.out.still t3, ?_⟩, Still.trans S2.out t3, S2.out.size, by rw [HR0.out]; exact SZ.out⟩
    have := HR.out.lt
    omega
set_option maxRecDepth 100000 in
set_option maxHeartbeats 1600000 in
theorem clear_yes {f r : Nat} {s : Shp} {l : List UInt8} (hs : s.Ok) (w : World) (h : FB w f r s l) :
    Calls Try.prog 33 #[.pointer (some ⟨f, 0, none⟩)] w fun e w' => e = .returned (.tuple #[]) ∧ FB w' f r s [] ∧ Chg w w' (fun k => k = f ∨ k = r) := by
  have f4 := h.1.frozen 4
  have b4 := h.1.cell 4
  have hb := h.size []
  have hne := h.2.2
  have c1 := grownBy_set w f 4 (.int .i64 (([] : List UInt8).length : Nat))
  have hr := h.2.1.keepb (c1.block r h.2.1.lt (fun e => hne (Option.some.inj e)))
  have b3 := hb.cell 3
  simp only [List.getElem?_toArray, List.getElem?_cons_succ, List.getElem?_cons_zero, List.length_nil, Int.cast_ofNat_Int] at b3 b4 hb c1 hr
  have HC := Lib.hid (had_clear hr (by have := hs.n1; omega) hs.n63)
  have HB := Lib.hid hb
  have C1 := Lib.hid (Chg.of_grown c1 (S := fun k => k = f ∨ k = r) (fun k hk _ => .inl (Option.some.inj hk).symm))
  have HNE := Lib.hid hne
  clear h hb hne c1 hr hs
  go_enter Try.func33, Try.ntmps33
  go_wp2_with fail
  refine HC.out.mono ?_
  rintro e w2 ⟨rfl, h2, g2⟩
  have hb2 : w2.heap[f]? = _ := (g2.block f HB.out.lt (fun e => HNE.out (Option.some.inj e).symm)).trans HB.out
  have F : FB w2 f r s [] ∧ Chg w w2 (fun k => k = f ∨ k = r) := ⟨⟨hb2, h2, HNE.out⟩, C1.out.trans (Chg.of_grown g2 (S := fun k => k = f ∨ k = r) (fun k hk _ => .inr (Option.some.inj hk).symm)) (fun x _ h => h)⟩
  clear hb2 h2 g2 HC HB C1 HNE
  go_wp2_with fail
  go_end0
  exact ⟨rfl, F⟩
set_option maxRecDepth 100000 in
set_option maxHeartbeats 1600000 in
theorem ends_any {f r : Nat} {s : Shp} {l : List UInt8} (hs : s.Ok) (x : Nat) (hx : x < 4294967296) (w : World) (h : Blk w f 67 #[.int .i64 (s.lt : Nat), .int .i64 (s.mt : Nat), .int .u32 (maskN s.k : Nat), .pointer (some ⟨r, 0, none⟩), .int .i64 (l.length : Nat)]) :
    Calls Try.prog 36 #[.pointer (some ⟨f, 0, none⟩), .int .u32 (x : Nat)] w fun e w' => e = .returned (.bool (decide (l.length = s.mt) || (decide (s.lt ≤ l.length) && decide (x % 2 ^ s.k = 0)))) ∧ ∃ m, w' = w.drewN m := by
  have b0 := h.cell 0
  have b1 := h.cell 1
  have b2 := h.cell 2
  have b4 := h.cell 4
  simp only [List.getElem?_toArray, List.getElem?_cons_succ, List.getElem?_cons_zero] at b0 b1 b2 b4
  have hk := mask_lt hs.k20
  have hk2 := Nat.two_pow_pos s.k
  have hand := u32_and_nat x (maskN s.k) hx (by unfold maskN; omega)
  have e1 : x &&& maskN s.k = x % 2 ^ s.k := by unfold maskN; exact Nat.and_two_pow_sub_one_eq_mod _ _
  rw [e1] at hand
  obtain ⟨q, hq⟩ : ∃ q, q = x % 2 ^ s.k := ⟨_, rfl⟩
  rw [← hq] at hand ⊢
  obtain ⟨n, hn⟩ : ∃ n, n = l.length := ⟨_, rfl⟩
  rw [← hn] at b4 ⊢
  clear hq hn e1 hk hk2 h hs
  obtain ⟨lt, mt, k, nn, seed⟩ := s
  simp only at *
  by_cases h1 : n = mt
  · subst h1
    simp only [decide_true, Bool.true_or]
    go_enter Try.func36, Try.ntmps36
    go_wp2_with fail
    go_quiet (fail)
    go_wp2_with fail
    go_ret
    exact ⟨rfl, nq, rfl⟩
  have g1 : ((n : Int) == (mt : Int)) = false := by rw [beq_eq_false_iff_ne]; omega
  have g1' : ¬ (n : Int) = (mt : Int) := by omega
  by_cases h2 : lt ≤ n
  · by_cases h3 : q = 0
    · subst h3
      simp only [h1, h2, decide_true, decide_false, Bool.true_and, Bool.or_true]
      have g2 : (lt : Int) ≤ (n : Int) := by omega
      go_enter Try.func36, Try.ntmps36
      go_wp2_with fail
      go_quiet (fail)
      go_wp2_with fail
      go_ret
      exact ⟨rfl, nq, rfl⟩
    · simp only [h1, h2, h3, decide_true, decide_false, Bool.true_and, Bool.or_false]
      have g2 : (lt : Int) ≤ (n : Int) := by omega
      have g3 : ((q : Int) == 0) = false := by rw [beq_eq_false_iff_ne]; omega
      have g3' : ¬ (q : Int) = 0 := by omega
      go_enter Try.func36, Try.ntmps36
      go_wp2_with fail
      go_quiet (fail)
      go_wp2_with fail
      go_ret
      exact ⟨rfl, nq, rfl⟩
  · simp only [h1, h2, decide_false, Bool.false_and, Bool.or_false]
    have g2 : ¬ (lt : Int) ≤ (n : Int) := by omega
    go_enter Try.func36, Try.ntmps36
    go_wp2_with fail
    go_quiet (fail)
    go_wp2_with fail
    go_ret
    exact ⟨rfl, nq, rfl⟩
end Go.Proofs.Ytjihnagoebhinaa
