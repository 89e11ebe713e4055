/- The walk of BookCuts: it returns true, and nothing that was there turns. -/
import Derived.Test.YtgbkpbmilaafgaaBkLawB
import Derived.Test.YtgbkpbmilaafgaaBkGy
namespace Go.Proofs.Ytgbkpbmilaafgaa
open Go.RowKit
set_option linter.unusedVariables false
set_option linter.unusedSimpArgs false

theorem row_noneC (w : World) : RwRow kC w none 0 0 [] := ⟨⟨fun i x hx => by simp at hx, rfl, Nat.le_refl _, by omega⟩, fun r hr => by simp at hr, fun r hr => by simp at hr⟩
theorem row_noneU (w : World) : RwRow kU w none 0 0 [] := ⟨⟨fun i x hx => by simp at hx, rfl, Nat.le_refl _, by omega⟩, fun r hr => by simp at hr, fun r hr => by simp at hr⟩
theorem few_one {w : World} {A0 : Option Addr} {n0 c0 : Nat} {L0 : List Rw} (h0 : RwRow kI w A0 n0 c0 L0) :
    Calls Try.prog 8 #[.slice A0 n0 c0, .slice none 0 0, .slice none 0 0] w fun e w' => e = .returned (.tuple #[.slice A0 (min n0 30) c0, .slice none 0 0, .slice none 0 0]) ∧ w = w' := by
  have h := few_any h0 (row_noneC w) (row_noneU w)
  rw [show min 0 30 = 0 from rfl] at h
  exact h
/-- A beginning of a book, and a book with a byte behind it. -/
theorem getCut {w : World} {B n c k : Nat} {A : Option Addr} {M : List Rw} {l : List UInt8} (h : RowS w B A n c l) (hB : B ≤ w.heap.size) (hl : l = (kI.wr M).1) (ok : ∀ r ∈ M, kI.Ok r) (hm : M.length ≤ 30) (h0 : (kI.wr M).2 = 0) (hk : k < n) (hn : n ≤ 1400) :
    Calls Try.prog 19 #[.slice A k c] w fun e w' => ∃ A' c', e = .returned (.tuple #[.slice A' 0 c', .int .i64 3]) ∧ Still w w' := by
  obtain ⟨e, _, _⟩ := wr_ok h0
  have hlen := h.reads.len
  have r : RowS w B A k c (l.take k) := by
    have := h.reads.take k
    rw [show min n k = k by omega] at this
    exact ⟨this, by have := h.fit; omega, h.cap, fun e => by have := h.nil e; omega⟩
  have g := getR_i r hB (by omega)
  have hb : l = sumB (kI.body M) := by rw [hl, e]
  have q := rd_cut (k := kI) rfl ok (n := k) (by omega) (by rw [← hb]; omega)
  rw [← hb] at q
  rw [q] at g
  exact g.mono fun e w' ⟨A', c', he, _, s⟩ => ⟨A', c', he, s⟩
theorem getMore {w : World} {B n c : Nat} {A : Option Addr} {M : List Rw} {l : List UInt8} {x : UInt8} (h : RowS w B A (n + 1) c (l ++ [x])) (hB : B ≤ w.heap.size) (hl : l = (kI.wr M).1) (ok : ∀ r ∈ M, kI.Ok r) (hm : M.length ≤ 30) (h0 : (kI.wr M).2 = 0) (hn : n ≤ 1400) :
    Calls Try.prog 19 #[.slice A (n + 1) c] w fun e w' => ∃ A' c', e = .returned (.tuple #[.slice A' 0 c', .int .i64 6]) ∧ Still w w' := by
  obtain ⟨e, _, _⟩ := wr_ok h0
  have g := getR_i h hB (by omega)
  have hb : l = sumB (kI.body M) := by rw [hl, e]
  have q := rd_more (k := kI) rfl ok (by omega) x
  rw [← hb] at q
  rw [q] at g
  exact g.mono fun e w' ⟨A', c', he, _, s⟩ => ⟨A', c', he, s⟩
set_option maxRecDepth 100000 in
set_option maxHeartbeats 6400000 in
theorem bookCuts_walk (A0 : Option Addr) (n0 c0 : Nat) (L0 : List Rw) (a1 a2 : Int) (w : World) (h0 : RwRow kI w A0 n0 c0 L0) (h1 : (Lit.int .i64 a1).wf = true) (h2 : (Lit.int .u8 a2).wf = true) :
    Calls Try.prog 7 #[.slice A0 n0 c0, .int .i64 a1, .int .u8 a2] w fun e w' => e = .returned (.bool true) ∧ Below w.heap.size w w' := by
  have hu8 := bounds_u8 h2
  obtain ⟨mb, hmb⟩ : ∃ mb : UInt8, a2 = (mb.toNat : Int) := ⟨UInt8.ofNat a2.toNat, by simp only [UInt8.toNat_ofNat']; omega⟩
  have HMB := Lib.hid hmb
  have FW := Lib.hid (few_one h0)
  have LI := Lib.hid (fun W => lives_any W)
  have t0 := h0.take 30
  obtain ⟨M0, hM0⟩ : ∃ M, M = L0.take 30 := ⟨_, rfl⟩
  rw [← hM0] at t0
  obtain ⟨m0, hm0⟩ : ∃ m, m = min n0 30 := ⟨_, rfl⟩
  rw [← hm0] at t0 FW
  have Si := wr_small rfl wide_i t0 (by omega)
  have hml : M0.length ≤ 30 := by rw [t0.len]; omega
  have Pi := Lib.hid (fun W (s : Still w W) => putW_i (t0.still s) (by omega))
  obtain ⟨Ei, hEi⟩ : ∃ z, z = (kI.wr M0).2 := ⟨_, rfl⟩
  obtain ⟨Ri, hRi⟩ : ∃ R, R = (kI.wr M0).1 := ⟨_, rfl⟩
  have hpos : Ei = 0 → 0 < Ri.length := fun e => by
    obtain ⟨q, _, _⟩ := wr_ok (hEi.symm.trans e)
    rw [hRi, q]
    simp only [sumB_length]
    omega
  have GC := fun A n c B W k (e : Ei = 0) (h : RowS W B A n c Ri) (hB : B ≤ W.heap.size) (hk : k < n) (hn : n ≤ 1400) => getCut h hB hRi t0.ok hml (hEi.symm.trans e) hk hn
  have GM := fun A n c B W x (e : Ei = 0) (h : RowS W B A (n + 1) c (Ri ++ [x])) (hB : B ≤ W.heap.size) (hn : n ≤ 1400) => getMore h hB hRi t0.ok hml (hEi.symm.trans e) hn
  obtain ⟨Zi, hZi⟩ : ∃ z, z = Ri.length := ⟨_, rfl⟩
  rw [← hEi, ← hRi, ← hZi] at Pi
  rw [← hRi, ← hZi] at Si
  rw [← hZi] at hpos
  have SMi := Lib.hid Si
  clear t0 hM0 hm0 hRi hZi hEi h0 Si hml hu8 hmb
  by_cases ei : Ei = 0
  · subst ei
    replace GC := Lib.hid (fun A n c B W k => GC A n c B W k rfl)
    replace GM := Lib.hid (fun A n c B W x => GM A n c B W x rfl)
    have hz := hpos rfl
    have HZ := Lib.hid hz
    have d1 : ((Zi : Int) == 0) = false := by simp; omega
    have d2 : ¬ (Zi : Int) = 0 := by omega
    have WI := Lib.hid (fun W => within_any a1 0 ((Zi : Int) - 1) W (by omega))
    have ew : IntKind.i64.wrap ((Zi : Int) - 1) = (Zi : Int) - 1 := by rw [IntKind.wrap_i64]; have := SMi.out; omega
    have d3 : (Zi : Int) ≤ 1400 := by have := SMi.out; omega
    clear hpos hz
    go_enter Try.func7, Try.ntmps7
    go_wp2_with (first
      | (go_at_call 8; with_reducible refine FW.out.mono ?_; rintro e w1 ⟨rfl, rfl⟩; have S0 := Lib.hid (Still.refl w))
      | (go_at_call 9; with_reducible refine (Pi.out _ S0.out).mono ?_; rintro e w1 ⟨A1, b1, rfl, q1, s1⟩; have Q1 := Lib.hid q1; have S1 := Lib.hid s1; clear q1 s1))
    refine (WI.out _).mono ?_
    rintro e w2 ⟨⟨y, hy1, hy2, rfl⟩, rfl⟩
    obtain ⟨k, rfl⟩ : ∃ k : Nat, y = (k : Int) := ⟨y.toNat, by omega⟩
    obtain ⟨b3, o3, rfl, hb3, hc3⟩ := Q1.out.rd.at_ HZ.out
    have hkL : k < Zi := by omega
    have G1 := Lib.hid (GC.out _ _ _ _ _ k (Wrt.rows Q1.out) (Nat.le_refl _) hkL SMi.out)
    have f1 : (0 : Int) ≤ (k : Int) := by omega
    have f2 : (k : Int) ≤ (b1 : Int) := by have := Q1.out.fit; omega
    clear hy1 hy2 hkL hb3 hc3
    go_wp2_with fail
    refine G1.out.mono ?_
    rintro e w2 ⟨a2, b2, rfl, s2⟩
    have S2 := Lib.hid (Still.trans S1.out s2)
    have CP := Lib.hid (copy_any (some ⟨b3, o3, none⟩) Zi b1 Ri w2 _ (Q1.out.on s2).rd (by have := SMi.out; omega) (fun e => by cases e))
    clear s2 G1 GC
    go_wp2_with fail
    refine CP.out.mono ?_
    rintro e w3 ⟨⟨v, rfl, own⟩, s3⟩
    obtain ⟨A7, c7, rfl, _, _, _⟩ := own_form own
    have OWN := Lib.hid own
    have S3 := Lib.hid (Still.trans S2.out s3)
    have Z7 := Lib.hid s3.size
    clear own s3 CP
    go_wp2_with (at_builtin; go_must (refine wpList_push w3 rfl (.tmp 43) (.tmp 45) rfl w2.heap.size (.slice A7 Zi c7) Zi Ri (by kernel_rfl) OWN.out _ mb (by kernel_rfl) HMB.out (by have := SMi.out; omega) Z7.out ?_))
    intro v8 w8 own8 gr8 _
    obtain ⟨A8, c8, rfl, g1, g2, g3⟩ := own_form own8
    have S8 := Lib.hid (show Still w w8 from Below.grown S3.out gr8 S3.out.size (fun b e => by have h1 := (OWN.out.lt b e).1; have h2 := S2.out.size; omega))
    have D8 := Lib.hid (GM.out A8 Zi c8 w8.heap.size w8 mb ⟨Reads.of_own own8, g1, g2, g3⟩ (Nat.le_refl _) SMi.out)
    clear own8 gr8 g1 g2 g3 GM
    go_wp2_with fail
    refine D8.out.mono ?_
    rintro e w9 ⟨a9, b9, rfl, s9⟩
    have S9 := Lib.hid (Still.trans S8.out s9)
    clear s9 D8
    go_wp2_with (go_at_call 16; with_reducible refine (LI.out _).mono ?_; rintro e wl ⟨rfl, sl⟩; have SL := Lib.hid (Still.trans S9.out sl); clear sl)
    go_ret
    exact ⟨rfl, SL.out⟩
  · have b0 : (Ei == 0) = false := by simpa using ei
    have f0 : (Ei != 0) = true := by simpa using ei
    clear hpos GC GM
    go_enter Try.func7, Try.ntmps7
    go_wp2_with (first
      | (go_at_call 8; with_reducible refine FW.out.mono ?_; rintro e w1 ⟨rfl, rfl⟩; have S0 := Lib.hid (Still.refl w))
      | (go_at_call 9; with_reducible refine (Pi.out _ S0.out).mono ?_; rintro e w1 ⟨A1, b1, rfl, q1, s1⟩; have S1 := Lib.hid s1; clear q1 s1)
      | (go_at_call 16; with_reducible refine (LI.out _).mono ?_; rintro e wl ⟨rfl, sl⟩; have SL := Lib.hid (Still.trans S1.out sl); clear sl))
    go_ret
    exact ⟨rfl, SL.out⟩
end Go.Proofs.Ytgbkpbmilaafgaa
