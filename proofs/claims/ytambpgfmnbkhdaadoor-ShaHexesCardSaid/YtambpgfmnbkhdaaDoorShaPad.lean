/- Contracts: what stands behind a text, by the program and by the document's own answer. It proves no statement. -/
import Derived.Test.YtambpgfmnbkhdaaDoorShaFact
import Derived.Test.YtambpgfmnbkhdaaDoorBack
import Derived.Test.YtambpgfmnbkhdaaDoorBig1
import Derived.Deep.LoopGhost
namespace Go.Proofs.YtambpgfmnbkhdaaDoor
open Go.RowKit
set_option linter.unusedVariables false
set_option linter.unusedSimpArgs false

theorem rep_snoc (k : Nat) : List.replicate k (0 : UInt8) ++ [0] = List.replicate (k + 1) 0 := by
  rw [List.replicate_succ']
theorem own_grownBase {w w' : World} {base base' n : Nat} {v : Value} {xs : List Value} (h : w.ownsRow base 5 1 v n xs) (hb : base' ≤ base) : w.ownsRow base' 5 1 v n xs := by
  refine ⟨h.1, ?_⟩
  rcases h.2 with h0 | ⟨g, c, cur, hv, hg, r⟩
  · exact .inl h0
  · exact .inr ⟨g, c, cur, hv, Nat.le_trans hb hg, r⟩

/-- One step of the filling, number by number. -/
theorem fill_more (m z k : Nat) (hz : z = (119 - m % 64) % 64) (hk : k < z) : ((m + (1 + k)) + 8) % 64 ≠ 0 ∧ (m + (1 + k)) % 64 ≠ 56 := by omega
theorem fill_end (m z : Nat) (hz : z = (119 - m % 64) % 64) : ((m + (1 + z)) + 8) % 64 = 0 ∧ (m + (1 + z)) % 64 = 56 := by omega

set_option maxRecDepth 100000 in
set_option maxHeartbeats 800000 in
theorem ending_any (m : Nat) (w : World) (hm : m ≤ 70368744177664) :
    Calls Tryd.prog 33 #[.int .i64 m] w fun e w' => (∃ v, e = .returned v ∧ w'.ownsRow w.heap.size 5 1 v (shEnd m).length (bytesV (shEnd m))) ∧ Still w w' := by
  obtain ⟨z, hz⟩ : ∃ z, z = (119 - m % 64) % 64 := ⟨_, rfl⟩
  have hz64 : z < 64 := by omega
  have own0 : (w.alloc (.cells (bytesV [128]).toArray 5)).ownsRow w.heap.size 5 1 (.slice (some ⟨w.heap.size, 0, none⟩) 1 1) 1 (bytesV [128]) :=
    ⟨by simp [bytesV], .inr ⟨w.heap.size, 1, _, rfl, Nat.le_refl _, heap_alloc_new w _, Nat.le_refl _, by unfold maxLen; omega, by simp [bytesV], by simp [bytesV]⟩⟩
  have st0 : Still w (w.alloc (.cells (bytesV [128]).toArray 5)) := (Still.refl w).alloc (Nat.le_refl _) _
  have hE : shEnd m = (128 :: List.replicate z 0) ++ (leBytes (8 * m) 8).reverse := by rw [hz]; rfl
  generalize shEnd m = E at hE ⊢
  have HE := Lib.hid hE
  have HZ := Lib.hid hz
  clear hz hE
  go_enter Tryd.func33, Tryd.ntmps33
  go_wp2_with fail
  go_loopg [3] z (fun gk v wr => ∃ k : Nat, gk + k = z ∧ wr.ownsRow w.heap.size 5 1 v (1 + k) (bytesV (128 :: List.replicate k 0)) ∧ Still w wr)
  case atStart => exact ⟨0, by omega, own0, st0⟩
  case round =>
    obtain ⟨k, hk, own, st⟩ := hrel
    obtain ⟨A, c, rfl, f1, f2, f3⟩ := own_form own
    obtain ⟨q, hq⟩ : ∃ q, q = 1 + k := ⟨_, rfl⟩
    rw [← hq] at own f1 f3 ⊢
    obtain ⟨s1, hs1⟩ : ∃ s, s = m + q := ⟨_, rfl⟩
    obtain ⟨s2, hs2⟩ : ∃ s, s = s1 + 8 := ⟨_, rfl⟩
    obtain ⟨r, hr⟩ : ∃ r, r = s2 % 64 := ⟨_, rfl⟩
    have e0 : (m : Int) + (q : Int) = (s1 : Int) := by omega
    have e1 : IntKind.i64.wrap (s1 : Int) = (s1 : Int) := by rw [IntKind.wrap_i64]; omega
    have e2 : (s1 : Int) + 8 = (s2 : Int) := by omega
    have e3 : IntKind.i64.wrap (s2 : Int) = (s2 : Int) := by rw [IntKind.wrap_i64]; omega
    have e4 : (s2 : Int) % 64 = (r : Int) := by omega
    have e5 : (0 : Int) ≤ (s2 : Int) := by omega
    have hsz := st.size
    by_cases hlt : k < z
    · have hr0 : ((r : Int) != 0) = true := by
        have := (fill_more m z k HZ.out hlt).1
        rw [bne_iff_ne]; omega
      have hx : (128 : UInt8) :: List.replicate (k + 1) 0 = (128 :: List.replicate k 0) ++ [0] := by rw [List.cons_append, rep_snoc]
      have HX := Lib.hid hx
      have HQ := Lib.hid hq
      have HK := Lib.hid hk
      have HLT := Lib.hid hlt
      have OW := Lib.hid own
      clear hx hq hk hlt hs1 hs2 hr own f1 f2 f3
      go_wp2_with (at_builtin; go_must (refine wpList_push _ rfl _ _ rfl w.heap.size _ _ _ rfl OW.out _ 0 rfl ?c1 ?c2 ?c3 ?_))
      case c1 => rfl
      case c2 => have := HQ.out; have := HK.out; omega
      case c3 => exact hsz
      intro v' w1 own' gr _
      have st' : Still w w1 := st.grown gr hsz (fun k hk => (OW.out.lt k hk).1)
      clear gr
      go_wp2_with fail
      have hk := HK.out
      have hlt := HLT.out
      have hq := HQ.out
      go_roundg (gk - 1)
      case measure => omega
      case rel => exact ⟨k + 1, by omega, by rw [HX.out, show 1 + (k + 1) = q + 1 by omega]; exact own', st'⟩
    · obtain rfl : k = z := by omega
      have hr0 : ((r : Int) != 0) = false := by
        have := (fill_end m k HZ.out).1
        rw [bne_eq_false_iff_eq]; omega
      have w8 : IntKind.u64.wrap (m : Int) = (m : Int) := by rw [IntKind.wrap_u64]; omega
      have w9 : IntKind.u64.wrap (8 * (m : Int)) = ((8 * m : Nat) : Int) := by rw [IntKind.wrap_u64]; omega
      have BG := Lib.hid (big_yes (8 * m) 8 wr (by omega) (by omega) (by omega))
      generalize 8 * m = m8 at *
      have HQ := Lib.hid hq
      have OW := Lib.hid own
      have ST := Lib.hid st
      have HSZ := Lib.hid hsz
      clear hq hk hs1 hs2 hr own st hsz f1 f2
      go_wp2_with fail
      refine BG.out.mono ?_
      rintro e w1 ⟨rfl, own1, s1'⟩
      have q1 := Reads.of_own own1
      have own2 := own_still OW.out s1'
      have st2 := ST.out.trans s1'
      have z2 := st2.size
      clear own1 s1'
      go_wp2_with (at_builtin; go_must (refine wpList_adds _ rfl _ _ rfl w.heap.size _ q (128 :: List.replicate k 0) rfl own2 _ 8 8 _ _ rfl q1 (fun e => by cases e) ?c1 ?c2 ?_))
      case c1 => have := HQ.out; omega
      case c2 => exact z2
      intro v' w3 own3 gr3 _
      have st3 : Still w w3 := st2.grown gr3 z2 (fun k hk => (own2.lt k hk).1)
      clear gr3
      go_wp2_with fail
      go_ret
      refine ⟨⟨_, rfl, ?_⟩, st3⟩
      have e : E.length = q + 8 := by
        have := HQ.out
        rw [HE.out]
        simp [leBytes_length]; omega
      rw [e, HE.out]
      exact own3
/-- The document's own. -/
theorem rpad_any (A : Option Addr) (n c : Nat) (l : List UInt8) (w : World) (B : Nat) (h : Reads w B A n l) (hB : B ≤ w.heap.size) (hn : n ≤ 70368744177664) (hA : A = none → n = 0 ∧ c = 0) :
    Calls Tryd.prog 26 #[.slice A n c] w fun e w' => (∃ v, e = .returned v ∧ w'.ownsRow w.heap.size 5 1 v (l ++ shEnd n).length (bytesV (l ++ shEnd n))) ∧ Still w w' := by
  obtain ⟨z, hz⟩ : ∃ z, z = (119 - n % 64) % 64 := ⟨_, rfl⟩
  have hz64 : z < 64 := by omega
  have hE : l ++ shEnd n = l ++ 128 :: (List.replicate z 0 ++ (leBytes (n * 8) 8).reverse) := by rw [hz, Nat.mul_comm]; simp [shEnd]
  generalize l ++ shEnd n = E at hE ⊢
  have HE := Lib.hid hE
  have hl := h.1
  have HZ := Lib.hid hz
  have HL := Lib.hid hl
  clear hz hE hl
  go_enter Tryd.func26, Tryd.ntmps26
  go_wp2_with fail
  refine (copy_any A n c l w B h (by omega) hA).mono ?_
  rintro e w1 ⟨⟨v1, rfl, own1⟩, s1⟩
  have z1 := s1.size
  go_wp2_with (at_builtin; go_must (refine wpList_push _ rfl _ _ rfl w.heap.size _ _ _ rfl own1 _ 128 rfl ?c1 ?c2 ?c3 ?_))
  case c1 => rfl
  case c2 => omega
  case c3 => exact z1
  intro v2 w2 own2 gr2 _
  have s2 : Still w w2 := s1.grown gr2 z1 (fun k hk => (own1.lt k hk).1)
  clear gr2 own1
  go_wp2_with fail
  go_loopg [3] z (fun gk v wr => ∃ k : Nat, gk + k = z ∧ wr.ownsRow w.heap.size 5 1 v (n + (1 + k)) (bytesV (l ++ 128 :: List.replicate k 0)) ∧ Still w wr)
  case atStart => exact ⟨0, by omega, own2, s2⟩
  case round =>
    obtain ⟨k, hk, own, st⟩ := hrel
    obtain ⟨A2, c2, rfl, f1, f2, f3⟩ := own_form own
    obtain ⟨q, hq⟩ : ∃ q, q = n + (1 + k) := ⟨_, rfl⟩
    rw [← hq] at own f1 f3 ⊢
    obtain ⟨r, hr⟩ : ∃ r, r = q % 64 := ⟨_, rfl⟩
    have e4 : (q : Int) % 64 = (r : Int) := by omega
    have hsz := st.size
    by_cases hlt : k < z
    · have hr0 : ((r : Int) != 56) = true := by
        have := (fill_more n z k HZ.out hlt).2
        rw [bne_iff_ne]; omega
      have hx : l ++ (128 : UInt8) :: List.replicate (k + 1) 0 = l ++ 128 :: (List.replicate k 0 ++ [0]) := by rw [rep_snoc]
      have HX := Lib.hid hx
      have HQ := Lib.hid hq
      have HK := Lib.hid hk
      have HLT := Lib.hid hlt
      have OW := Lib.hid own
      clear hx hq hk hlt hr own f1 f2 f3
      go_wp2_with (at_builtin; go_must (refine wpList_push _ rfl _ _ rfl w.heap.size _ _ _ rfl OW.out _ 0 rfl ?c1 ?c2 ?c3 ?_))
      case c1 => rfl
      case c2 => have := HQ.out; have := HK.out; omega
      case c3 => exact hsz
      intro v' w3 own' gr _
      have st' : Still w w3 := st.grown gr hsz (fun k hk => (OW.out.lt k hk).1)
      clear gr
      go_wp2_with fail
      have hk := HK.out
      have hlt := HLT.out
      have hq := HQ.out
      go_roundg (gk - 1)
      case measure => omega
      case rel => exact ⟨k + 1, by omega, by rw [HX.out, show n + (1 + (k + 1)) = q + 1 by omega]; exact own', st'⟩
    · obtain rfl : k = z := by omega
      have hr0 : ((r : Int) != 56) = false := by
        have := (fill_end n k HZ.out).2
        rw [bne_eq_false_iff_eq]; omega
      have w8 : IntKind.u64.wrap (n : Int) = (n : Int) := by rw [IntKind.wrap_u64]; omega
      have w9 : IntKind.u64.wrap ((n : Int) * 8) = ((n * 8 : Nat) : Int) := by rw [IntKind.wrap_u64]; omega
      have PT := Lib.hid (rput_yes (n * 8) 8 wr (by omega) (by omega) (by omega))
      generalize n * 8 = m8 at *
      have HQ := Lib.hid hq
      have OW := Lib.hid own
      have ST := Lib.hid st
      have HSZ := Lib.hid hsz
      clear hq hr own st hsz f1 f2
      go_wp2_with fail
      refine PT.out.mono ?_
      rintro e w4 ⟨v4, rfl, own4, s4⟩
      obtain ⟨A4, c4, rfl, g1, g2, g3⟩ := own_form own4
      have q4 := Reads.of_own own4
      have BK := Lib.hid (back_any A4 8 c4 _ w4 _ q4 (Nat.le_refl _) (by omega))
      have own5 := own_still OW.out s4
      have st5 := ST.out.trans s4
      clear own4 s4 q4
      go_wp2_with fail
      refine BK.out.mono ?_
      rintro e w5 ⟨⟨v5, rfl, own6⟩, s5⟩
      obtain ⟨A5, c5, rfl, i1, i2, i3⟩ := own_form own6
      have q5 := Reads.of_own own6
      have own7 := own_still own5 s5
      have st7 := st5.trans s5
      have z7 := st7.size
      clear own5 own6 st5 s5
      go_wp2_with (at_builtin; go_must (refine wpList_adds _ rfl _ _ rfl w.heap.size _ q (l ++ 128 :: List.replicate k 0) rfl own7 _ 8 c5 _ _ rfl q5 (fun e => (i3 e).2) ?c1 ?c2 ?_))
      case c1 => have := HQ.out; omega
      case c2 => exact z7
      intro v' w6 own8 gr8 _
      have st8 : Still w w6 := st7.grown gr8 z7 (fun k hk => (own7.lt k hk).1)
      clear gr8
      go_wp2_with fail
      go_ret
      refine ⟨⟨_, rfl, ?_⟩, st8⟩
      have e : E.length = q + 8 := by
        have := HQ.out
        have := HL.out
        rw [HE.out]
        simp [leBytes_length]; omega
      rw [e, HE.out]
      exact own8
end Go.Proofs.YtambpgfmnbkhdaaDoor
