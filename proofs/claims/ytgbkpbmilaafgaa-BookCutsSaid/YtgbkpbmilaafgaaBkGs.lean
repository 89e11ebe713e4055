/- Contracts and facts, several texts in one. It proves no statement. -/
import Derived.Test.YtgbkpbmilaafgaaBkGf
import Derived.Test.YtgbkpbmilaafgaaBkGh
import Derived.Test.YtgbkpbmilaafgaaBkGr
import Derived.Test.YtgbkpbmilaafgaaBkGi

/- Contracts: the document's own bytes of numbers, of a book's beginning and end. It proves no statement. -/




namespace Go.Proofs.Ytgbkpbmilaafgaa
open Go.RowKit
set_option linter.unusedVariables false
set_option linter.unusedSimpArgs false

/-- Four bytes of whatever number. -/
def numW (z : Int) : List UInt8 := leBytes (z % 18446744073709551616).toNat 4
theorem numW_length (z : Int) : (numW z).length = 4 := leBytes_length _ _
theorem numW_ok {z : Int} (h : okN z = true) : numW z = leBytes z.toNat 4 := by
  have := okN_iff.1 h
  unfold numW
  rw [Int.emod_eq_of_lt (by omega) (by omega)]
def numsW (l : List Int) : List UInt8 := l.flatMap numW
def rowW (r : Rw) : List UInt8 := r.1 ++ numsW r.2
def rowsW (L : List Rw) : List UInt8 := L.flatMap rowW
theorem numsW_ok : ∀ {l : List Int}, l.all okN = true → numsW l = numsB l
  | [], _ => rfl
  | z :: l, h => by
    simp only [List.all_cons, Bool.and_eq_true] at h
    have ih := numsW_ok h.2
    simp only [numsW, numsB, List.flatMap_cons] at *
    rw [ih, numW_ok h.1]
theorem rowsW_ok : ∀ {L : List Rw}, L.all okR = true → rowsW L = rowsB L
  | [], _ => rfl
  | r :: L, h => by
    simp only [List.all_cons, Bool.and_eq_true] at h
    have ih := rowsW_ok h.2
    simp only [rowsW, rowsB, List.flatMap_cons] at *
    rw [ih, rowW, rowB, numsW_ok h.1]
theorem numsW_length (l : List Int) : (numsW l).length = 4 * l.length := by
  induction l with
  | nil => rfl
  | cons z l ih => simp only [numsW, List.flatMap_cons, List.length_append, numW_length, List.length_cons] at *; omega
theorem rowsW_snoc (L : List Rw) (r : Rw) : rowsW (L ++ [r]) = rowsW L ++ rowW r := by simp [rowsW]
theorem rowW_length {k : Kd} {r : Rw} (h : k.Ok r) : (rowW r).length = k.wide := by
  simp only [rowW, List.length_append, numsW_length, Kd.wide]
  rw [h.1, h.2]
theorem rowsW_length {k : Kd} {L : List Rw} (h : ∀ r ∈ L, k.Ok r) : (rowsW L).length = k.wide * L.length := by
  induction L with
  | nil => rfl
  | cons r L ih =>
    have := ih (fun x hx => h x (by simp [hx]))
    simp only [rowsW, List.flatMap_cons, List.length_append, List.length_cons] at *
    rw [this, rowW_length (h r (by simp)), Nat.mul_add, Nat.mul_one, Nat.add_comm]
/-- The document's Put. -/
theorem rput_any (x n : Nat) (W : World) (hx : x < 18446744073709551616) (h1 : 1 ≤ n) (h2 : n ≤ 8) :
    Calls Try.prog 63 #[.int .u64 x, .int .i64 n] W fun e w' => ∃ A c, e = .returned (.slice A n c) ∧ Reads w' w'.heap.size A n (leBytes x n) ∧ (A = none → c = 0) ∧ Still W w' :=
  (rput_yes x n W hx h1 h2).mono fun e w' ⟨v, he, ho, s⟩ => by
    obtain ⟨A, c, rfl, h1, h2, h3⟩ := own_form ho
    exact ⟨A, c, he, Reads.of_own ho, fun e => (h3 e).2, s⟩
/-- What an append leaves. -/
structure Grew (base : Nat) (w w' : World) (v v' : Value) (l : List UInt8) : Prop where
  row : MRow w' base v' l
  still : ∀ w0, w0.heap.size ≤ base → Still w0 w → Still w0 w'
  gr : ∀ k, k < w.heap.size → some k ≠ v.ownBlock → w'.heap[k]? = w.heap[k]?
  size : w.heap.size ≤ w'.heap.size
  at_ : v'.ownBlock = v.ownBlock ∨ ∃ k, v'.ownBlock = some k ∧ w.heap.size ≤ k
set_option maxRecDepth 100000 in
set_option maxHeartbeats 1600000 in
theorem numz_any {base : Nat} {w : World} {v : Value} {l : List UInt8} (h : MRow w base v l) (hl : l.length ≤ 1073741824) (hb : base ≤ w.heap.size) (z : Int) (hz : i64 z) :
    Calls Try.prog 39 #[v, .int .i64 z] w fun e w' => ∃ v', e = .returned (.tuple #[v', .bool (okN z)]) ∧ Grew base w w' v v' (l ++ numW z) := by
  obtain ⟨A, c, rfl, f1, f2, f3⟩ := h.form
  obtain ⟨x, hx⟩ : ∃ x : Nat, (x : Int) = z % 18446744073709551616 := ⟨(z % 18446744073709551616).toNat, by omega⟩
  have eu : IntKind.u64.wrap z = (x : Int) := by rw [IntKind.wrap_u64]; omega
  have hxl : x < 18446744073709551616 := by omega
  have NW := Lib.hid (show numW z = leBytes x 4 by unfold numW; rw [← hx]; rfl)
  have PU := Lib.hid (fun W => rput_any x 4 W hxl (by omega) (by omega))
  simp only [show ((4 : Nat) : Int) = 4 from rfl] at PU
  obtain ⟨bz, hbz⟩ : ∃ b, b = okN z := ⟨_, rfl⟩
  rw [← hbz]
  have OZ := Lib.hid (show okN z = bz from hbz.symm)
  have HM := Lib.hid (fun W (s : Still w W) => h.still s)
  have HL := Lib.hid (And.intro hl hb)
  have HV := Lib.hid (fun k (e : (Value.slice A l.length c).ownBlock = some k) => And.intro (h.low k e) (h.lt k e))
  clear hx hxl h f1 f2 f3 hl hb hz hbz
  by_cases h0 : 0 ≤ z
  · by_cases h1 : z ≤ 4294967295
    · obtain rfl : bz = true := by rw [← OZ.out]; exact okN_iff.2 ⟨h0, h1⟩
      go_enter Try.func39, Try.ntmps39
      go_wp2_with (first
        | (go_at_call 63; with_reducible refine (PU.out _).mono ?_; rintro e w1 ⟨A1, c1, rfl, r1, n1, s1⟩; have R1 := Lib.hid (And.intro r1 n1); have S1 := Lib.hid s1; have M1 := Lib.hid (HM.out _ s1); clear r1 n1 s1)
        | (guard_target =~ wpList _ _ _ (Oper.mk (some 10) _ _ _ _ _ :: _) _ _; go_must (refine wpList_addsM (o := ⟨some 10, _, _, _, _, _⟩) w1 rfl (.tmp 6) (.tmp 9) rfl base _ l rfl M1.out _ 4 _ _ (leBytes x 4) rfl R1.out.1 R1.out.2 (by have := HL.out.1; omega) (Nat.le_trans HL.out.2 S1.out.size) ?_); intro v2 w2 m2 gr2 at2; have M2 := Lib.hid m2; have GR2 := Lib.hid gr2; have AT2 := Lib.hid at2; clear m2 gr2 at2))
      go_ret2
      have hs := S1.out
      exact ⟨v2, rfl, by rw [NW.out]; exact M2.out, fun w0 hw s => M1.out.next hw (Still.trans s hs) GR2.out, fun k hk hne => (GR2.out.block k (Nat.lt_of_lt_of_le hk hs.size) hne).trans (hs.block k hk), Nat.le_trans hs.size GR2.out.size, AT2.out.imp id (fun e => ⟨_, e, hs.size⟩)⟩
    · obtain rfl : bz = false := by rw [← OZ.out]; exact Bool.eq_false_iff.2 fun h => h1 (okN_iff.1 h).2
      have h1f : decide (z ≤ 4294967295) = false := by simp; omega
      go_enter Try.func39, Try.ntmps39
      go_wp2_with (first
        | (go_at_call 63; with_reducible refine (PU.out _).mono ?_; rintro e w1 ⟨A1, c1, rfl, r1, n1, s1⟩; have R1 := Lib.hid (And.intro r1 n1); have S1 := Lib.hid s1; have M1 := Lib.hid (HM.out _ s1); clear r1 n1 s1)
        | (guard_target =~ wpList _ _ _ (Oper.mk (some 10) _ _ _ _ _ :: _) _ _; go_must (refine wpList_addsM (o := ⟨some 10, _, _, _, _, _⟩) w1 rfl (.tmp 6) (.tmp 9) rfl base _ l rfl M1.out _ 4 _ _ (leBytes x 4) rfl R1.out.1 R1.out.2 (by have := HL.out.1; omega) (Nat.le_trans HL.out.2 S1.out.size) ?_); intro v2 w2 m2 gr2 at2; have M2 := Lib.hid m2; have GR2 := Lib.hid gr2; have AT2 := Lib.hid at2; clear m2 gr2 at2))
      go_ret2
      have hs := S1.out
      exact ⟨v2, rfl, by rw [NW.out]; exact M2.out, fun w0 hw s => M1.out.next hw (Still.trans s hs) GR2.out, fun k hk hne => (GR2.out.block k (Nat.lt_of_lt_of_le hk hs.size) hne).trans (hs.block k hk), Nat.le_trans hs.size GR2.out.size, AT2.out.imp id (fun e => ⟨_, e, hs.size⟩)⟩
  · obtain rfl : bz = false := by rw [← OZ.out]; exact Bool.eq_false_iff.2 fun h => h0 (okN_iff.1 h).1
    go_enter Try.func39, Try.ntmps39
    go_wp2_with (first
      | (go_at_call 63; with_reducible refine (PU.out _).mono ?_; rintro e w1 ⟨A1, c1, rfl, r1, n1, s1⟩; have R1 := Lib.hid (And.intro r1 n1); have S1 := Lib.hid s1; have M1 := Lib.hid (HM.out _ s1); clear r1 n1 s1)
      | (guard_target =~ wpList _ _ _ (Oper.mk (some 10) _ _ _ _ _ :: _) _ _; go_must (refine wpList_addsM (o := ⟨some 10, _, _, _, _, _⟩) w1 rfl (.tmp 6) (.tmp 9) rfl base _ l rfl M1.out _ 4 _ _ (leBytes x 4) rfl R1.out.1 R1.out.2 (by have := HL.out.1; omega) (Nat.le_trans HL.out.2 S1.out.size) ?_); intro v2 w2 m2 gr2 at2; have M2 := Lib.hid m2; have GR2 := Lib.hid gr2; have AT2 := Lib.hid at2; clear m2 gr2 at2))
    go_ret2
    have hs := S1.out
    exact ⟨v2, rfl, by rw [NW.out]; exact M2.out, fun w0 hw s => M1.out.next hw (Still.trans s hs) GR2.out, fun k hk hne => (GR2.out.block k (Nat.lt_of_lt_of_le hk hs.size) hne).trans (hs.block k hk), Nat.le_trans hs.size GR2.out.size, AT2.out.imp id (fun e => ⟨_, e, hs.size⟩)⟩
theorem Grew.lt {base : Nat} {w w' : World} {v v' : Value} {l : List UInt8} (h : Grew base w w' v v' l) : base ≤ w.heap.size → base ≤ w'.heap.size := fun hb => Nat.le_trans hb h.size
set_option maxRecDepth 100000 in
set_option maxHeartbeats 1600000 in
theorem closed_any {base : Nat} {w : World} {v : Value} {l : List UInt8} (h : MRow w base v l) (hl : l.length ≤ 1073741824) (hb : base ≤ w.heap.size) :
    Calls Try.prog 38 #[v] w fun e w' => ∃ v', e = .returned v' ∧ Grew base w w' v v' (sumB l) := by
  obtain ⟨A, c, rfl, f1, f2, f3⟩ := h.form
  have RS := Lib.hid (rsum_any A l.length c l 0 w w.heap.size h.reads (Nat.le_refl _) (by omega) f1 (by decide))
  obtain ⟨q, hq⟩ : ∃ q, q = xxSum l 0 := ⟨_, rfl⟩
  have hql : q < 18446744073709551616 := by rw [hq]; exact xxSum_lt _ _
  have HQ := Lib.hid (show sumB l = l ++ leBytes q 8 by rw [hq]; rfl)
  simp only [← hq, show ((0 : Nat) : Int) = 0 from rfl] at RS
  have PU := Lib.hid (fun W => rput_any q 8 W hql (by omega) (by omega))
  simp only [show ((8 : Nat) : Int) = 8 from rfl] at PU
  have HM := Lib.hid (fun W (s : Still w W) => h.still s)
  have HL := Lib.hid (And.intro hl hb)
  rw [HQ.out]
  clear hq hql h f1 f2 f3 hl hb
  go_enter Try.func38, Try.ntmps38
  go_wp2_with (first
    | (go_at_call 64; with_reducible refine RS.out.mono ?_; rintro e w0 ⟨rfl, s0⟩; have S0 := Lib.hid s0; clear s0)
    | (go_at_call 63; with_reducible refine (PU.out _).mono ?_; rintro e w1 ⟨A1, c1, rfl, r1, n1, s1⟩; have R1 := Lib.hid (And.intro r1 n1); have S1 := Lib.hid (Still.trans S0.out s1); have M1 := Lib.hid (HM.out _ S1.out); clear r1 n1 s1)
    | (guard_target =~ wpList _ _ _ (Oper.mk (some 7) _ _ _ _ _ :: _) _ _; go_must (refine wpList_addsM (o := ⟨some 7, _, _, _, _, _⟩) w1 rfl (.tmp 3) (.tmp 6) rfl base _ l rfl M1.out _ 8 _ _ (leBytes q 8) rfl R1.out.1 R1.out.2 (by have := HL.out.1; omega) (Nat.le_trans HL.out.2 S1.out.size) ?_); intro v2 w2 m2 gr2 at2; have M2 := Lib.hid m2; have GR2 := Lib.hid gr2; have AT2 := Lib.hid at2; clear m2 gr2 at2))
  go_ret
  have hs := S1.out
  exact ⟨v2, rfl, M2.out, fun w0 hw s => M1.out.next hw (Still.trans s hs) GR2.out, fun k hk hne => (GR2.out.block k (Nat.lt_of_lt_of_le hk hs.size) hne).trans (hs.block k hk), Nat.le_trans hs.size GR2.out.size, AT2.out.imp id (fun e => ⟨_, e, hs.size⟩)⟩
/-- One after the other. -/
theorem Grew.trans {base : Nat} {a b c : World} {u v x : Value} {l m : List UInt8} (h : Grew base a b u v l) (k : Grew base b c v x m) : Grew base a c u x m := by
  refine ⟨k.row, fun w0 hw s => k.still w0 hw (h.still w0 hw s), fun q hq hne => ?_, Nat.le_trans h.size k.size, ?_⟩
  · refine (k.gr q (Nat.lt_of_lt_of_le hq h.size) (fun e => ?_)).trans (h.gr q hq hne)
    rcases h.at_ with h1 | ⟨z, h1, h2⟩
    · exact hne (e.trans h1)
    · rw [h1] at e; have := Option.some.inj e; omega
  · rcases k.at_ with k1 | ⟨z, k1, k2⟩
    · rcases h.at_ with h1 | ⟨z, h1, h2⟩
      · exact .inl (k1.trans h1)
      · exact .inr ⟨z, k1.trans h1, h2⟩
    · exact .inr ⟨z, k1, Nat.le_trans h.size k2⟩
set_option maxRecDepth 100000 in
set_option maxHeartbeats 1600000 in
theorem three_any {base : Nat} {w : World} {v : Value} {l : List UInt8} (h : MRow w base v l) (hl : l.length ≤ 1073741000) (hb : base ≤ w.heap.size) (x y z : Int) (hx : i64 x) (hy : i64 y) (hz : i64 z) :
    Calls Try.prog 36 #[v, .int .i64 x, .int .i64 y, .int .i64 z] w fun e w' => ∃ v', e = .returned (.tuple #[v', .bool (okN x && okN y && okN z)]) ∧ Grew base w w' v v' (l ++ numW x ++ numW y ++ numW z) := by
  have N1 := Lib.hid (numz_any h (by omega) hb x hx)
  have N2 := Lib.hid (fun W u (m : MRow W base u (l ++ numW x)) (hW : base ≤ W.heap.size) => numz_any m (by rw [List.length_append, numW_length]; omega) hW y hy)
  have N3 := Lib.hid (fun W u (m : MRow W base u (l ++ numW x ++ numW y)) (hW : base ≤ W.heap.size) => numz_any m (by rw [List.length_append, List.length_append, numW_length, numW_length]; omega) hW z hz)
  obtain ⟨p, hp⟩ : ∃ p, p = okN x := ⟨_, rfl⟩
  obtain ⟨q, hq⟩ : ∃ p, p = okN y := ⟨_, rfl⟩
  obtain ⟨r, hr⟩ : ∃ p, p = okN z := ⟨_, rfl⟩
  rw [← hp] at N1 ⊢
  simp only [← hq] at N2
  simp only [← hr] at N3
  rw [← hq, ← hr]
  have HB := Lib.hid hb
  clear hp hq hr h hl hb hx hy hz
  cases p <;> cases q <;> cases r
  all_goals
    go_enter Try.func36, Try.ntmps36
    go_wp2_with (go_at_call 39; first
      | (with_reducible refine (N3.out _ _ G2.out.row (Nat.le_trans HB.out G2.out.size)).mono ?_; rintro e w3 ⟨v3, rfl, g3⟩; have G3 := Lib.hid (G2.out.trans g3); clear g3)
      | (with_reducible refine (N2.out _ _ G1.out.row (Nat.le_trans HB.out G1.out.size)).mono ?_; rintro e w2 ⟨v2, rfl, g2⟩; have G2 := Lib.hid (G1.out.trans g2); clear g2)
      | (with_reducible refine N1.out.mono ?_; rintro e w1 ⟨v1, rfl, g1⟩; have G1 := Lib.hid g1; clear g1))
    go_ret2
    exact ⟨v3, rfl, G3.out⟩
end Go.Proofs.Ytgbkpbmilaafgaa

/- Contract: the document's own first twelve bytes of a book. It proves no statement. -/

namespace Go.Proofs.Ytgbkpbmilaafgaa
open Go.RowKit
set_option linter.unusedVariables false
set_option linter.unusedSimpArgs false

set_option maxRecDepth 100000 in
set_option maxHeartbeats 1600000 in
theorem begun_any (nm : ByteArray) (hnm : nm.size = 8) (n : Nat) (hn : n ≤ 65536) (w : World) :
    Calls Try.prog 35 #[.string nm, .int .i64 n] w fun e w' => ∃ v', e = .returned v' ∧ MRow w' w.heap.size v' (nm.data.toList ++ leBytes n 4) ∧ Still w w' := by
  have PU := Lib.hid (fun W => rput_any n 4 W (by omega) (by omega) (by omega))
  simp only [show ((4 : Nat) : Int) = 4 from rfl] at PU
  have eu : IntKind.u64.wrap (n : Int) = (n : Int) := by rw [IntKind.wrap_u64]; omega
  have hl : nm.data.toList.length = 8 := by simpa using hnm
  have HL := Lib.hid hl
  have d3 : (n : Int) ≤ 65536 := by omega
  have hsz : (nm.size : Int) = 8 := by omega
  clear hl hn
  go_enter Try.func35, Try.ntmps35
  go_wp2_with fail
  go_loopw [5, 6] (fun bv iv wr => ∃ (i : Nat) (v : Value), i ≤ 8 ∧ iv = .int .i64 i ∧ v = bv ∧ Hid (MRow wr w.heap.size v (nm.data.toList.take i) ∧ Still w wr)) (fun _ iv _ => 8 - (intOf iv).toNat)
  case atStart => exact ⟨0, _, by omega, rfl, rfl, Lib.hid ⟨.inr (World.ownsRow_nil _ _ _ _), Still.refl _⟩⟩
  case round =>
    obtain ⟨i, v, hi, rfl, rfl, IN⟩ := hrel
    by_cases hlt : i < 8
    · have d1 : (i : Int) < 8 := by omega
      have d2 : i < nm.size := by omega
      have TK := Lib.hid (show nm.data.toList.take (i + 1) = nm.data.toList.take i ++ [nm[i]'d2] from by
        rw [List.take_add_one, show nm.data.toList[i]? = some (nm[i]'d2) from by rw [List.getElem?_eq_getElem (by have := HL.out; omega)]; simp; rfl]
        rfl)
      have NL := Lib.hid (show (nm.data.toList.take i).length ≤ 8 by rw [List.length_take]; omega)
      have MI := Lib.hid (fun (o : Obj) => IN.out.1.still ((Still.refl wr).alloc (Nat.le_refl _) o))
      have SI := Lib.hid IN.out.2
      have BI := Lib.hid IN.out.2.size
      clear IN hlt
      go_wp2_with (guard_target =~ wpList _ _ _ (Oper.mk (some 16) _ _ _ _ _ :: _) _ _; go_must (refine wpList_addsM (o := ⟨some 16, _, _, _, _, _⟩) (wr.alloc (.cells #[.int .u8 ((nm[i]'d2).toNat : Int)] 5)) rfl (.tmp 11) (.tmp 15) rfl w.heap.size v (nm.data.toList.take i) rfl (MI.out _) (some ⟨wr.heap.size, 0, none⟩) 1 1 _ [nm[i]'d2] rfl (const_reads wr [nm[i]'d2] (0, 0)) (fun e => by cases e) (by have := NL.out; omega) (by have := BI.out; simp; omega) ?_); intro v2 w2 m2 gr2 at2; have M2 := Lib.hid m2; have S2 := Lib.hid ((MI.out _).next (Nat.le_refl _) (SI.out.alloc SI.out.size _) gr2); clear m2 gr2 at2)
      go_roundw
      case rel => exact ⟨i + 1, v2, by omega, by go_num, rfl, Lib.hid ⟨by rw [TK.out]; exact M2.out, S2.out⟩⟩
      case measure => simp [intOf]; omega
    · have hin : i = 8 := by omega
      subst hin
      have M8 := Lib.hid (show MRow wr w.heap.size v nm.data.toList from by
        have := IN.out.1
        rwa [List.take_of_length_le (by have := HL.out; omega)] at this)
      have SI := Lib.hid IN.out.2
      clear IN hlt
      obtain ⟨nl, hnl⟩ : ∃ nl, nl = nm.data.toList := ⟨_, rfl⟩
      rw [← hnl] at M8 HL
      have HNL := Lib.hid hnl
      clear hnl
      obtain ⟨A, c, rfl, f1, f2, f3⟩ := M8.out.form
      clear f1 f2 f3
      go_wp2_with (first
        | (go_at_call 63; with_reducible refine (PU.out _).mono ?_; rintro e w1 ⟨A1, c1, rfl, r1, n1, s1⟩; have R1 := Lib.hid (And.intro r1 n1); have M1 := Lib.hid (M8.out.still s1); have S1 := Lib.hid (Still.trans SI.out s1); clear r1 n1 s1)
        | (guard_target =~ wpList _ _ _ (Oper.mk (some 21) _ _ _ _ _ :: _) _ _; go_must (refine wpList_addsM (o := ⟨some 21, _, _, _, _, _⟩) w1 rfl (.tmp 17) (.tmp 20) rfl w.heap.size _ nl rfl M1.out _ 4 _ _ (leBytes n 4) rfl R1.out.1 R1.out.2 (by have := HL.out; omega) S1.out.size ?_); intro v2 w2 m2 gr2 at2; have M2 := Lib.hid m2; have S2 := Lib.hid (M1.out.next (Nat.le_refl _) S1.out gr2); clear m2 gr2 at2))
      go_ret
      exact ⟨v2, rfl, by rw [← HNL.out]; exact M2.out, S2.out⟩
end Go.Proofs.Ytgbkpbmilaafgaa

/- Contract: rows as a book (index), by the document. It proves no statement. -/


namespace Go.Proofs.Ytgbkpbmilaafgaa
open Go.RowKit
set_option linter.unusedVariables false
set_option linter.unusedSimpArgs false

attribute [local irreducible] Go.wpQuiet
set_option maxRecDepth 100000 in
set_option maxHeartbeats 6400000 in
theorem docw_i {w : World} {A : Option Addr} {n c : Nat} {L : List Rw} (h : RwRow kI w A n c L) (hn : n ≤ 65536) :
    Calls Try.prog 12 #[.slice A n c] w fun e w' => ∃ A' c', e = .returned (.tuple #[.slice A' (kI.wr L).1.length c', .int .i64 (kI.wr L).2]) ∧ Reads w' w'.heap.size A' (kI.wr L).1.length (kI.wr L).1 ∧ (kI.wr L).1.length ≤ c' ∧ c' ≤ 9223372036854775807 ∧ (A' = none → c' = 0) ∧ Still w w' := by
  have HR := Lib.hid (fun W (s : Still w W) => h.still s)
  have hlen := h.len
  have OK := Lib.hid h.ok
  have BD := Lib.hid h.bd
  have HLN := Lib.hid hlen
  have d3 : (n : Int) ≤ 65536 := by omega
  have d4 : (n : Int) ≤ (c : Int) := by have := h.row.fit; omega
  have BG := Lib.hid (begun_any ⟨#[72, 79, 65, 82, 68, 73, 68, 88]⟩ rfl n hn w)
  rw [show (⟨#[72, 79, 65, 82, 68, 73, 68, 88]⟩ : ByteArray).data.toList ++ leBytes n 4 = kI.head n from rfl] at BG
  have LEN := Lib.hid (fun (i : Nat) (hi : i ≤ n) => show (rowsW (L.take i)).length ≤ 44 * 65536 from by
    rw [rowsW_length (fun r hr => OK.out r (List.mem_of_mem_take hr)), List.length_take]
    have h1 : kI.wide ≤ 44 := by decide
    have h2 : min i L.length ≤ 65536 := by omega
    exact Nat.mul_le_mul h1 h2)
  have HDL := Lib.hid (show (kI.head n).length = 12 from head_length rfl n)
  clear h hlen hn
  go_enter Try.func12, Try.ntmps12
  go_wp2_with (go_at_call 35; with_reducible refine BG.out.mono ?_; rintro e w1 ⟨v1, rfl, m1, s1⟩; have M1 := Lib.hid m1; have S1 := Lib.hid s1; clear m1 s1)
  go_loopw [4, 5, 6, 7] (fun bv gv rv iv wr => ∃ (i : Nat) (v : Value) (gd rs : Bool), i ≤ n ∧ v = bv ∧ gv = .bool gd ∧ rv = .bool rs ∧ iv = .int .i64 i ∧ Hid (MRow wr w.heap.size v (kI.head n ++ rowsW (L.take i)) ∧ gd = (L.take i).all okR ∧ rs = kI.up L i ∧ Still w wr)) (fun _ _ _ iv _ => n - (intOf iv).toNat)
  case atStart => exact ⟨0, _, true, true, by omega, rfl, rfl, rfl, rfl, Lib.hid ⟨by rw [List.take_zero]; show MRow _ _ _ (_ ++ []); rw [List.append_nil]; exact M1.out, rfl, rfl, S1.out⟩⟩
  case round =>
    obtain ⟨i, v, gd, rs, hi, rfl, rfl, rfl, rfl, IN⟩ := hrel
    clear M1 S1
    by_cases hlt : i < n
    · have SW := Lib.hid IN.out.2.2.2
      have MI := Lib.hid IN.out.1
      have GI := Lib.hid IN.out.2.1
      have RSI := Lib.hid IN.out.2.2.1
      obtain ⟨r, hr⟩ : ∃ r, L[i]? = some r := ⟨_, List.getElem?_eq_getElem (by have := HLN.out; omega)⟩
      obtain ⟨bb, o, rfl, hbb, _⟩ := (HR.out _ SW.out).at_ hr
      have OA := Lib.hid (OK.out r (List.mem_of_getElem? hr))
      have QA := Lib.hid (fun W (s : Still w W) => show W.rangeAt bb (o + i * 35) (rowV r) from by
        obtain ⟨b2, o2, e, _, h2⟩ := (HR.out _ s).at_ hr
        cases e
        exact h2)
      have TK := Lib.hid (show L.take (i + 1) = L.take i ++ [r] from by rw [List.take_add_one, hr]; rfl)
      have UPS := Lib.hid (show kI.up L (i + 1) = (kI.up L i && (decide (i = 0) || kI.lt (L.getD (i - 1) rw0) r)) from by
        show (kI.up L i && (decide (i = 0) || kI.lt (L.getD (i - 1) rw0) (L.getD i rw0))) = _
        rw [show L.getD i rw0 = r by simp [List.getD, hr]])
      obtain ⟨x, y, z, hxyz⟩ : ∃ x y z, r.2 = [x, y, z] := by
        match hq : r.2, OA.out.2 with
        | [x, y, z], _ => exact ⟨x, y, z, rfl⟩
      have XB := Lib.hid (show i64 x ∧ i64 y ∧ i64 z from by
        have := BD.out r (List.mem_of_getElem? hr)
        rw [hxyz] at this
        exact ⟨this x (by simp), this y (by simp), this z (by simp)⟩)
      have CN := Lib.hid (show ∀ W, Still w W → W.cell? ⟨bb, o + i * 35 + 32, none⟩ = some (.int .i64 x) ∧ W.cell? ⟨bb, o + i * 35 + 33, none⟩ = some (.int .i64 y) ∧ W.cell? ⟨bb, o + i * 35 + 34, none⟩ = some (.int .i64 z) from fun W s => by
        have q := QA.out W s
        have c0 := rangeAt_num q (j := 0) (z := x) (by rw [hxyz]; rfl)
        have c1 := rangeAt_num q (j := 1) (z := y) (by rw [hxyz]; rfl)
        have c2 := rangeAt_num q (j := 2) (z := z) (by rw [hxyz]; rfl)
        rw [OA.out.1] at c0 c1 c2
        exact ⟨c0, c1, c2⟩)
      have HX := Lib.hid (show rowW r = r.1 ++ numsW [x, y, z] ∧ okR r = (okN x && okN y && okN z) from by
        unfold rowW okR
        rw [hxyz]
        exact ⟨rfl, by simp [Bool.and_assoc]⟩)
      have d1 : (i : Int) < (n : Int) := by omega
      have HI := Lib.hid hlt
      have LP := Lib.hid (show (kI.head n ++ rowsW (L.take i)).length ≤ 12 + 44 * 65536 from by
        have h1 := LEN.out i (by omega)
        have h2 := HDL.out
        rw [List.length_append]; omega)
      obtain ⟨pre, hpre⟩ : ∃ pre, pre = kI.head n ++ rowsW (L.take i) := ⟨_, rfl⟩
      rw [← hpre] at MI LP
      have PRE := Lib.hid hpre
      have HRI := Lib.hid hr
      clear IN hbb hr hxyz hlt hpre
      have CB := Lib.hid (fun (k : Nat) (hk : k < 32) W (s : Still w W) => show W.cell? ⟨bb, o + i * 35 + k, none⟩ = some (.int .u8 ((r.1.getD k 0).toNat : Int)) from QA.out W s k _ (rowV_key (bytesV_get r.1 k (by have := OA.out.1; show k < r.1.length; rw [this]; exact hk))))
      go_wp2_with fail
      go_loopw [4, 8] (fun bv kv wq => ∃ (k : Nat) (u : Value), k ≤ 32 ∧ u = bv ∧ kv = .int .i64 k ∧ Hid (MRow wq w.heap.size u (pre ++ r.1.take k) ∧ Still w wq)) (fun _ kv _ => 32 - (intOf kv).toNat)
      case atStart => exact ⟨0, _, by omega, rfl, rfl, Lib.hid ⟨by rw [List.take_zero, List.append_nil]; exact MI.out, SW.out⟩⟩
      case round =>
        obtain ⟨k, u, hk, rfl, rfl, KN⟩ := hrel
        clear MI SW
        by_cases hk32 : k < 32
        · obtain ⟨y8, hy8⟩ : ∃ y8, y8 = r.1.getD k 0 := ⟨_, rfl⟩
          have cb := CB.out k hk32 wr KN.out.2
          rw [← hy8] at cb
          have TKK := Lib.hid (show r.1.take (k + 1) = r.1.take k ++ [y8] from by
            rw [List.take_add_one, hy8]
            have : k < r.1.length := by have := OA.out.1; rw [this]; exact hk32
            simp [List.getD, this])
          have k1 : (k : Int) < 32 := by omega
          have MK := Lib.hid (fun (o : Obj) => KN.out.1.still ((Still.refl wr).alloc (Nat.le_refl _) o))
          have SK := Lib.hid KN.out.2
          have ZK := Lib.hid KN.out.2.size
          clear hy8 KN
          go_wp2_with (guard_target =~ wpList _ _ _ (Oper.mk (some 36) _ _ _ _ _ :: _) _ _; go_must (refine wpList_addsM (o := ⟨some 36, _, _, _, _, _⟩) (wr.alloc (.cells #[.int .u8 (y8.toNat : Int)] 5)) rfl (.tmp 27) (.tmp 35) rfl w.heap.size u (pre ++ r.1.take k) rfl (MK.out _) (some ⟨wr.heap.size, 0, none⟩) 1 1 _ [y8] rfl (const_reads wr [y8] (0, 0)) (fun e => by cases e) (by have := LP.out; rw [List.length_append, List.length_take]; omega) (by have := ZK.out; simp; omega) ?_); intro v2 w2 m2 gr2 at2; have M2 := Lib.hid m2; have S2 := Lib.hid ((MK.out _).next (Nat.le_refl _) (SK.out.alloc SK.out.size _) gr2); clear m2 gr2 at2)
          go_roundw
          case rel => exact ⟨k + 1, v2, by omega, rfl, by go_num, Lib.hid ⟨by rw [TKK.out, ← List.append_assoc]; exact M2.out, S2.out⟩⟩
          case measure => simp [intOf]; omega
        · have hk3 : k = 32 := by omega
          subst hk3
          have MK := Lib.hid (show MRow wr w.heap.size u (pre ++ r.1) from by
            have := KN.out.1
            rwa [List.take_of_length_le (by have := OA.out.1; show r.1.length ≤ 32; rw [this]; exact Nat.le_refl _)] at this)
          have SK := Lib.hid KN.out.2
          have k1 : ¬ ((32 : Nat) : Int) < 32 := by omega
          clear KN hk32
          -- numbers
          obtain ⟨ok, hok⟩ : ∃ ok, ok = okR r := ⟨_, rfl⟩
          have OKR := Lib.hid hok
          have PLR := Lib.hid (show (pre ++ r.1).length ≤ 12 + 44 * 65536 + 32 from by
            have h1 := LP.out; have h2 := OA.out.1
            have h3 : (kI.kl : Nat) ≤ 32 := by decide
            rw [List.length_append]; omega)
          have TH := Lib.hid (fun W (m : MRow W w.heap.size u (pre ++ r.1)) (hb : w.heap.size ≤ W.heap.size) => three_any m (by have := PLR.out; omega) hb x y z XB.out.1 XB.out.2.1 XB.out.2.2)
          simp only [← HX.out.2, ← hok] at TH
          have THD := Lib.hid (TH.out wr.drew (MK.out.still (Still.refl _).drew) SK.out.size)
          clear hok TH
          go_upto_region 12 with fail
          go_region_held3 (fun W => W.cell? ⟨bb, o + i * 35 + 32, none⟩ = some (.int .i64 x) ∧ W.cell? ⟨bb, o + i * 35 + 33, none⟩ = some (.int .i64 y) ∧ W.cell? ⟨bb, o + i * 35 + 34, none⟩ = some (.int .i64 z)) (first | exact CN.out _ (SK.out.drew) | exact CN.out _ SV3.out) (first
            | (go_at_call 36; with_reducible refine THD.out.mono ?_; rintro e w3 ⟨v3, rfl, g3⟩; have G3 := Lib.hid g3; have SV3 := Lib.hid (g3.still w (Nat.le_refl _) SK.out.drew); clear g3))
          go_simp
          have M3 := Lib.hid (show MRow w3 w.heap.size v3 (pre ++ rowW r) from by
            have := G3.out.row
            rw [HX.out.1]
            simpa [numsW, List.append_assoc] using this)
          clear G3 THD MK SK
          obtain ⟨gn, hgn⟩ : ∃ gn, gn = (gd && ok) := ⟨_, rfl⟩
          have GN := Lib.hid hgn
          go_upto_region 14 with fail
          go_cut [5] (fun gv wx => gv = .bool gn ∧ wx = w3)
          case first =>
            cases gd
            · go_wp2_with fail
              go_meet
              case rel => exact ⟨by rw [hgn]; rfl, rfl⟩
            · go_wp2_with fail
              go_meet
              case rel => exact ⟨by rw [hgn]; rfl, rfl⟩
          case rest =>
            obtain ⟨rfl, hwc⟩ := hcut
            have hwc := hwc.symm
            subst hwc
            have NXG := Lib.hid (show gn = (L.take (i + 1)).all okR from by
              rw [TK.out, List.all_append, ← GI.out, GN.out, OKR.out]
              simp)
            have NXM := Lib.hid (show MRow w3 w.heap.size v3 (kI.head n ++ rowsW (L.take (i + 1))) from by
              have := M3.out
              rw [PRE.out, List.append_assoc] at this
              rw [TK.out, rowsW_snoc]
              exact this)
            clear hgn
            cases rs
            · have NXR := Lib.hid (show false = kI.up L (i + 1) from by rw [UPS.out, ← RSI.out]; rfl)
              go_upto_region 15 with fail
              refine wp_region_quiet_still w3 (Still.refl _) (by kernel_rfl) (by kernel_rfl) ?_
              repeat (first
                | quiet_step ((fail)))
              refine wpQuiet_nil ?_
              intro wq hw'
              have SQ3 := Lib.hid (show Still w3 wq from by obtain ⟨p, rfl⟩ := hw'; exact p.still)
              clear hw'
              go_simp
              go_wp2_with fail
              go_roundw
              case rel => exact ⟨i + 1, v3, gn, false, HI.out, rfl, rfl, rfl, by go_num, Lib.hid ⟨NXM.out.still SQ3.out, NXG.out, NXR.out, Still.trans SV3.out SQ3.out⟩⟩
              case measure => simp [intOf]; have := HI.out; omega
            · by_cases hi0 : i = 0
              · subst hi0
                have NXR := Lib.hid (show true = kI.up L (0 + 1) from by rw [UPS.out]; rfl)
                go_upto_region 15 with fail
                refine wp_region_quiet_still w3 (Still.refl _) (by kernel_rfl) (by kernel_rfl) ?_
                repeat (first
                  | quiet_step ((fail)))
                refine wpQuiet_nil ?_
                intro wq hw'
                have SQ3 := Lib.hid (show Still w3 wq from by obtain ⟨p, rfl⟩ := hw'; exact p.still)
                clear hw'
                go_simp
                go_wp2_with fail
                go_roundw
                case rel => exact ⟨0 + 1, v3, gn, true, HI.out, rfl, rfl, rfl, by go_num, Lib.hid ⟨NXM.out.still SQ3.out, NXG.out, NXR.out, Still.trans SV3.out SQ3.out⟩⟩
                case measure => simp [intOf]; have := HI.out; omega
              · obtain ⟨j, hj⟩ : ∃ j, i = j + 1 := ⟨i - 1, by omega⟩
                obtain ⟨a, ha⟩ : ∃ a, L[j]? = some a := ⟨_, List.getElem?_eq_getElem (by have := HLN.out; have := HI.out; omega)⟩
                have OAA := Lib.hid (OK.out a (List.mem_of_getElem? ha))
                have QB := Lib.hid (fun W (s : Still w W) => show W.rangeAt bb (o + j * 35) (rowV a) from by
                  obtain ⟨b2, o2, e, _, h2⟩ := (HR.out _ s).at_ ha
                  cases e
                  exact h2)
                have e1 : (i : Int) - 1 = (j : Int) := by omega
                have ew : IntKind.i64.wrap (j : Int) = (j : Int) := by rw [IntKind.wrap_i64]; omega
                have ei : ((i : Int) == 0) = false := by simp; omega
                have j1 : (j : Int) < (n : Int) := by omega
                have NXR := Lib.hid (show kI.lt a r = kI.up L (i + 1) from by
                  rw [UPS.out, ← RSI.out, show L.getD (i - 1) rw0 = a by rw [hj, Nat.add_sub_cancel]; simp [List.getD, ha]]
                  simp [hi0])
                obtain ⟨q, hq⟩ : ∃ q, q = kI.lt a r := ⟨_, rfl⟩
                have LS := Lib.hid (fun W => rless_any a.1 r.1 W OAA.out.1 OA.out.1)
                rw [show ltK a.1 r.1 = kI.lt a r from rfl] at LS
                rw [← hq] at LS NXR
                have SZA := Lib.hid (show (Try.prog.info? 62).map (·.size) = some (bytesV a.1).length from by rw [size32, bytesV_length, OAA.out.1]; rfl)
                have SZB := Lib.hid (show (Try.prog.info? 62).map (·.size) = some (bytesV r.1).length from by rw [size32, bytesV_length, OA.out.1]; rfl)
                clear hj ha hq hi0
                go_upto_region 15 with fail
                refine wp_region_quiet_still w3 (Still.refl _) (by kernel_rfl) (by kernel_rfl) ?_
                repeat (first
                  | (guard_target =~ wpQuiet _ _ _ _ (Oper.mk (some 75) _ _ _ _ _ :: _) _; go_must (refine quiet_load_mid (by kernel_rfl) 62 (.tmp 74) rfl bb (o + j * 35) (by kernel_rfl) (bytesV a.1) _ (fun W hW => by obtain ⟨p, rfl⟩ := hW; exact rangeAt_key (QB.out _ (Still.trans SV3.out p.still))) under32 rfl SZA.out ?_))
                  | (guard_target =~ wpQuiet _ _ _ _ (Oper.mk (some 80) _ _ _ _ _ :: _) _; go_must (refine quiet_load_mid (by kernel_rfl) 62 (.tmp 79) rfl bb (o + i * 35) (by kernel_rfl) (bytesV r.1) _ (fun W hW => by obtain ⟨p, rfl⟩ := hW; exact rangeAt_key (QA.out _ (Still.trans SV3.out p.still))) under32 rfl SZB.out ?_))
                  | quiet_step ((go_at_call 37; exact Calls.stillby _ (LS.out _))))
                refine wpQuiet_nil ?_
                intro wq hw'
                have SQ3 := Lib.hid (show Still w3 wq from by obtain ⟨p, rfl⟩ := hw'; exact p.still)
                clear hw' e1 ew
                go_simp
                go_wp2_with fail
                go_roundw
                case rel => exact ⟨i + 1, v3, gn, q, HI.out, rfl, rfl, rfl, by go_num, Lib.hid ⟨NXM.out.still SQ3.out, NXG.out, NXR.out, Still.trans SV3.out SQ3.out⟩⟩
                case measure => simp [intOf]; have := HI.out; omega
    · have hin : i = n := by omega
      subst hin
      have d1 : ¬ (i : Int) < (i : Int) := by omega
      have TN := Lib.hid (show L.take i = L by rw [← HLN.out, List.take_length])
      have GE := Lib.hid (show gd = L.all okR from by have := IN.out.2.1; rwa [TN.out] at this)
      have RE := Lib.hid (show rs = kI.up L L.length from by have := IN.out.2.2.1; rwa [← HLN.out] at this)
      have SW := Lib.hid IN.out.2.2.2
      cases gd
      · have BW := Lib.hid (show kI.wr L = ([], 2) from by unfold Kd.wr; rw [← GE.out]; simp)
        clear IN hlt
        go_wp2_with fail
        (try simp only [Exit.inBlock, Exit.then])
        go_ret2
        rw [BW.out]
        exact ⟨none, 0, rfl, Reads.nil0, Nat.le_refl _, by omega, fun _ => rfl, SW.out⟩
      · cases rs
        · have BW := Lib.hid (show kI.wr L = ([], 18) from by unfold Kd.wr; rw [← GE.out, ← RE.out]; simp)
          clear IN hlt
          go_wp2_with fail
          (try simp only [Exit.inBlock, Exit.then])
          go_ret2
          rw [BW.out]
          exact ⟨none, 0, rfl, Reads.nil0, Nat.le_refl _, by omega, fun _ => rfl, SW.out⟩
        · obtain ⟨bd, hbd⟩ : ∃ bd, bd = kI.body L := ⟨_, rfl⟩
          have BW := Lib.hid (show kI.wr L = (sumB bd, 0) from by unfold Kd.wr; rw [← GE.out, ← RE.out, hbd]; simp)
          have MB := Lib.hid (show MRow wr w.heap.size v bd from by
            have := IN.out.1
            rw [TN.out, rowsW_ok GE.out.symm] at this
            rw [hbd, Kd.body, HLN.out]
            exact this)
          have BL := Lib.hid (show bd.length ≤ 12 + 44 * 65536 from by
            have h1 := LEN.out i (by omega)
            rw [TN.out, rowsW_ok GE.out.symm] at h1
            have h2 := HDL.out
            rw [hbd, Kd.body, List.length_append, HLN.out]
            omega)
          have CL := Lib.hid (closed_any MB.out (by have := BL.out; omega) SW.out.size)
          clear IN hlt hbd
          go_wp2_with (go_at_call 38; with_reducible refine CL.out.mono ?_; rintro e w5 ⟨v5, rfl, g5⟩; have G5 := Lib.hid g5; clear g5)
          (try simp only [Exit.inBlock, Exit.then])
          go_ret2
          obtain ⟨A9, c9, rfl, g1, g2', g3⟩ := G5.out.row.form
          rw [BW.out]
          exact ⟨A9, c9, rfl, G5.out.row.reads, g1, g2', fun e => (g3 e).2, G5.out.still w (Nat.le_refl _) SW.out⟩
end Go.Proofs.Ytgbkpbmilaafgaa
